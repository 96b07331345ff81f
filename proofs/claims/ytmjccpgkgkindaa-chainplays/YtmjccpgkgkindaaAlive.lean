/-
  The document's example.
-/
import Derived.Test.YtmjccpgkgkindaaRows2
namespace Go.Proofs.Ytmjccpgkgkindaa
open Go.ChangeShapes Go.WideShapes Go.ChangeAt Go.RowKit
set_option linter.unusedVariables false
set_option maxRecDepth 100000

def a0 : Ch := ⟨10, List.replicate 2 []⟩
def a1 : Ch := ⟨10, [[5], []]⟩
def a2 : Ch := ⟨10, [[5, 7], []]⟩
def a3 : Ch := ⟨10, [[3, 5, 7], []]⟩
def a4 : Ch := ⟨10, [[3, 5, 9, 7], []]⟩
theorem lit_row {w : World} {b : Nat} {xs : List Nat} (h : w.heap[b]? = some (.cells (nvals xs).toArray 21 (0, 0))) (hl : xs.length ≤ maxLen) : NRow w (.slice (some ⟨b, 0, none⟩) xs.length xs.length) xs := by
  refine ⟨_, _, rfl, Nat.le_refl _, hl, (fun h => by cases h), .inr ⟨b, 0, rfl, ⟨_, h⟩, fun i x hi => ?_⟩⟩
  rw [cell_of_head h, Nat.zero_add, List.getElem?_toArray]
  unfold nvals
  rw [List.getElem?_map, hi]; rfl
set_option maxHeartbeats 2000000 in
theorem alive_any (w : World) : Calls Try.prog 9 #[] w fun e w' => e = .returned (.bool true) ∧ w.grownBy w' none := by
  have c0 : Calls Try.prog 7 #[.int .i64 10, .int .i64 2] w fun e w' => ∃ gL gN, e = .returned (.tuple #[.pointer (some ⟨w.heap.size + 2, 0, none⟩), .int .i64 0]) ∧ IsCh w' w.heap.size (w.heap.size + 2) gL gN a0 ∧ w.grownBy w' none := new_is 10 2 w (by decide) (by decide) (by decide)
  go_enter Try.func9, Try.ntmps9
  go_wp2_with fail
  refine c0.mono ?_
  rintro e w1 ⟨gL, gN, rfl, hs, hg⟩
  have HG1 := Lib.hid hg
  have HL := Lib.hid hs.los
  have c1 : Calls Try.prog 14 #[.pointer (some ⟨w.heap.size + 2, 0, none⟩), .int .i64 0, .int .i32 5] w1 (ChPost w1 w.heap.size (w.heap.size + 2) gL gN a1 (.int .i64 0)) := behind_is hs (i := 0) (x := 5) (by decide) (by decide) (Ch.has_free.1 (by decide))
  clear hs hg c0
  go_wp2_with fail
  refine c1.mono ?_
  rintro e w2 ⟨rfl, hs, hk⟩
  have HG2 := Lib.hid (Kp.grown HG1.out hk HL.out.2.1 HL.out.2.2)
  have c2 : Calls Try.prog 14 #[.pointer (some ⟨w.heap.size + 2, 0, none⟩), .int .i64 0, .int .i32 7] w2 (ChPost w2 w.heap.size (w.heap.size + 2) gL gN a2 (.int .i64 0)) := behind_is hs (i := 0) (x := 7) (by decide) (by decide) (Ch.has_free.1 (by decide))
  clear hs hk c1
  go_wp2_with fail
  refine c2.mono ?_
  rintro e w3 ⟨rfl, hs, hk⟩
  have HG3 := Lib.hid (Kp.grown HG2.out hk HL.out.2.1 HL.out.2.2)
  have c3 : Calls Try.prog 19 #[.pointer (some ⟨w.heap.size + 2, 0, none⟩), .int .i64 0, .int .i32 3] w3 (ChPost w3 w.heap.size (w.heap.size + 2) gL gN a3 (.int .i64 0)) := ahead_is hs (i := 0) (x := 3) (by decide) (by decide) (Ch.has_free.1 (by decide))
  clear hs hk c2
  go_wp2_with fail
  refine c3.mono ?_
  rintro e w4 ⟨rfl, hs, hk⟩
  have HG4 := Lib.hid (Kp.grown HG3.out hk HL.out.2.1 HL.out.2.2)
  have c4 : Calls Try.prog 20 #[.pointer (some ⟨w.heap.size + 2, 0, none⟩), .int .i32 9, .int .i32 5] w4 (ChPost w4 w.heap.size (w.heap.size + 2) gL gN a4 (.int .i64 0)) := insert_is hs (i := 0) (x := 9) (a := 5) (l1 := [3]) (l2 := [7]) rfl (by decide) (Ch.has_free.1 (by decide))
  clear hs hk c3
  go_wp2_with fail
  refine c4.mono ?_
  rintro e w5 ⟨rfl, hs, hk⟩
  have HG5 := Lib.hid (Kp.grown HG4.out hk HL.out.2.1 HL.out.2.2)
  have HS5 := Lib.hid hs
  have c5 : Calls Try.prog 15 #[.pointer (some ⟨w.heap.size + 2, 0, none⟩), .int .i64 0, .int .i64 9] w5 (ToldPost w5 [3, 5, 9, 7] 9) := told_is hs 0 9 (by decide)
  clear hs hk c4
  go_wp2_with fail
  refine c5.mono ?_
  rintro e w6 ⟨v, rfl, hr, hg⟩
  have HG6 := Lib.hid (grown_trans HG5.out hg)
  have HS6 := Lib.hid (HS5.out.kept hg)
  have HR6 : Hid (NRow w6 v [3, 5, 9, 7]) := Lib.hid (NRow.of_owns hr rfl)
  obtain ⟨A, cap, rfl, _⟩ := HR6.out
  clear hr hg c5 HS5
  go_wp2_with fail
  have HR7 := Lib.hid (HR6.out.kept (World.grownBy_alloc w6 (.cells #[.int .i32 3, .int .i32 5, .int .i32 9, .int .i32 7] 21) none))
  have HG7 := Lib.hid (grown_trans HG6.out (World.grownBy_alloc w6 (.cells #[.int .i32 3, .int .i32 5, .int .i32 9, .int .i32 7] 21) none))
  have HS7 := Lib.hid (HS6.out.kept (World.grownBy_alloc w6 (.cells #[.int .i32 3, .int .i32 5, .int .i32 9, .int .i32 7] 21) none))
  have HT7 : Hid (NRow (w6.alloc (.cells #[.int .i32 3, .int .i32 5, .int .i32 9, .int .i32 7] 21)) (.slice (some ⟨w6.heap.size, 0, none⟩) 4 4) [3, 5, 9, 7]) := Lib.hid (lit_row (xs := [3, 5, 9, 7]) (heap_alloc_new w6 _) (by decide))
  clear HR6 HG6 HS6
  generalize w6.alloc (.cells #[.int .i32 3, .int .i32 5, .int .i32 9, .int .i32 7] 21) = w7 at *
  refine (nodes_at _ _ _ _ w7 HR7.out HT7.out (by decide) (by decide)).mono ?_
  rintro e w8 ⟨rfl, q, rfl⟩
  rw [show decide (([3, 5, 9, 7] : List Nat) = [3, 5, 9, 7]) = true from rfl]
  have HS8 := Lib.hid (HS7.out.kept (grown_drewN w7 q none))
  have HG8 := Lib.hid (grown_trans HG7.out (grown_drewN w7 q none))
  have c8 : Calls Try.prog 22 #[.pointer (some ⟨w.heap.size + 2, 0, none⟩), .int .i64 0] (w7.drewN q) fun e w' => e = .returned (.int .i64 4) ∧ w7.drewN q = w' := len_is HS8.out 0 (by decide)
  have c9 : Calls Try.prog 22 #[.pointer (some ⟨w.heap.size + 2, 0, none⟩), .int .i64 1] (w7.drewN q) fun e w' => e = .returned (.int .i64 0) ∧ w7.drewN q = w' := len_is HS8.out 1 (by decide)
  clear HR7 HT7 HS7 HG7
  generalize w7.drewN q = w9 at *
  go_wp2_with fail
  refine c8.mono ?_
  rintro e w10 ⟨rfl, rfl⟩
  go_wp2_with fail
  refine c9.mono ?_
  rintro e w11 ⟨rfl, rfl⟩
  go_wp2
  go_ret
  exact ⟨rfl, HG8.out⟩
end Go.Proofs.Ytmjccpgkgkindaa
