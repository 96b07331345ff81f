/-
  The document's example.
-/
import Derived.Test.YtcphbendmnmpiaaOps
namespace Go.Proofs.Ytcphbendmnmpiaa
open Go.ChangeShapes Go.WideShapes Go.ChangeAt Go.RowKit
set_option linter.unusedVariables false
set_option maxRecDepth 100000

/-- a queue that a call made goes on -/
theorem stp_grown {w0 w w' : World} {b : Nat} {og og' : Option Nat} {l : List Value} {most tot : Nat} (s : Stp b og og' w w') (h : IsQ w w0.heap.size b og l most tot) (hg : w0.grownBy w none) : w0.grownBy w' none :=
  s.grown hg fun k hk => (h.own_lo hk).1
set_option maxHeartbeats 1000000 in
theorem alive_any (w : World) : Calls Try.prog 9 #[] w fun e w' => e = .returned (.bool true) ∧ w.grownBy w' none := by
  have c0 := new_at 2 (by decide) (by decide) w
  go_enter Try.func9, Try.ntmps9
  go_wp2_with fail
  refine c0.mono ?_
  rintro e w1 ⟨rfl, hg, h⟩
  have HG1 := Lib.hid hg
  have c1 : Calls Try.prog 11 #[.pointer (some ⟨w.heap.size, 0, none⟩), .int .i64 5] w1 (OpPost w1 w.heap.size w.heap.size none 2 1 (z0, false, [.int .i64 5])) := push_is h hg.size 5 (by decide)
  have H1 := Lib.hid h
  clear hg h c0
  go_wp2_with fail
  refine c1.mono ?_
  unfold OpPost
  rintro e w2 ⟨rfl, og2, h, s⟩
  have hg := stp_grown s H1.out HG1.out
  have HG2 := Lib.hid hg
  have c2 : Calls Try.prog 11 #[.pointer (some ⟨w.heap.size, 0, none⟩), .int .i64 6] w2 (OpPost w2 w.heap.size w.heap.size og2 2 2 (z0, false, [.int .i64 5, .int .i64 6])) := push_is h hg.size 6 (by decide)
  have H2 := Lib.hid h
  clear hg h s c1 HG1 H1
  go_wp2_with fail
  refine c2.mono ?_
  unfold OpPost
  rintro e w3 ⟨rfl, og3, h, s⟩
  have hg := stp_grown s H2.out HG2.out
  have HG3 := Lib.hid hg
  have c3 : Calls Try.prog 11 #[.pointer (some ⟨w.heap.size, 0, none⟩), .int .i64 7] w3 (OpPost w3 w.heap.size w.heap.size og3 2 3 (.int .i64 5, true, [.int .i64 6, .int .i64 7])) := push_is h hg.size 7 (by decide)
  have H3 := Lib.hid h
  clear hg h s c2 HG2 H2
  go_wp2_with fail
  refine c3.mono ?_
  unfold OpPost
  rintro e w4 ⟨rfl, og4, h, s⟩
  have hg := stp_grown s H3.out HG3.out
  have HG4 := Lib.hid hg
  have c4 : Calls Try.prog 12 #[.pointer (some ⟨w.heap.size, 0, none⟩), .int .i64 0] w4 fun e w' => e = .returned (.tuple #[.int .i64 6, .bool true]) ∧ w4.grownBy w' none := at_is h 0
  have H4 := Lib.hid h
  clear hg h s c3 HG3 H3
  go_wp2_with fail
  refine c4.mono ?_
  rintro e w5 ⟨rfl, hg⟩
  have h5 := H4.out.kept hg
  have HG5 := Lib.hid (grown_trans HG4.out hg)
  have c5 : Calls Try.prog 15 #[.pointer (some ⟨w.heap.size, 0, none⟩)] w5 fun e w' => e = .returned (.int .i64 2) ∧ w5 = w' := len_is h5
  have c6 : Calls Try.prog 16 #[.pointer (some ⟨w.heap.size, 0, none⟩)] w5 fun e w' => e = .returned (.int .u64 3) ∧ w5 = w' := total_is h5
  have C5 := Lib.hid c5
  have C6 := Lib.hid c6
  clear hg h5 c4 HG4 H4 c5 c6
  go_wp2_with fail
  refine C5.out.mono ?_
  rintro e w' ⟨rfl, rfl⟩
  go_wp2_with fail
  refine C6.out.mono ?_
  rintro e w' ⟨rfl, rfl⟩
  go_wp2_with fail
  go_ret
  exact ⟨rfl, HG5.out⟩
end Go.Proofs.Ytcphbendmnmpiaa
