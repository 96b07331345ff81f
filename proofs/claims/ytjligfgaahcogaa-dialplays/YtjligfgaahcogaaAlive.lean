/-
  The document's example.
-/
import Derived.Test.YtjligfgaahcogaaRows2
namespace Go.Proofs.Ytjligfgaahcogaa
open Go.ChangeShapes Go.WideShapes Go.ChangeAt Go.RowKit
set_option linter.unusedVariables false
set_option maxRecDepth 100000

def a0 : Dl := ⟨10, [], [0, 0]⟩
def a1 : Dl := ⟨10, [4], [0, 0]⟩
def a2 : Dl := ⟨10, [4, 6], [0, 0]⟩
def a3 : Dl := ⟨10, [4, 6, 8], [0, 0]⟩
def a4 : Dl := ⟨10, [4, 6, 8], [1, 0]⟩
def a5 : Dl := ⟨10, [4, 8], [1, 0]⟩
theorem lit_row {w : World} {b : Nat} {xs : List Nat} (h : w.heap[b]? = some (.cells (nvals xs).toArray 21 (0, 0))) (hl : xs.length ≤ maxLen) : NRow b w (.slice (some ⟨b, 0, none⟩) xs.length xs.length) xs := by
  refine ⟨_, _, rfl, Nat.le_refl _, hl, (fun h => by cases h), .inr ⟨b, 0, rfl, Nat.le_refl _, ⟨_, h⟩, fun i x hi => ?_⟩⟩
  rw [cell_of_head h, Nat.zero_add, List.getElem?_toArray]
  unfold nvals
  rw [List.getElem?_map, hi]; rfl
set_option maxHeartbeats 2000000 in
theorem alive_any (w : World) : Calls Try.prog 9 #[] w fun e w' => e = .returned (.bool true) ∧ w.grownBy w' none := by
  have c0 : Calls Try.prog 7 #[.int .i64 10, .int .i64 2] w fun e w' => ∃ gL gH, e = .returned (.tuple #[.pointer (some ⟨w.heap.size + 2, 0, none⟩), .int .i64 0]) ∧ IsD w' w.heap.size (w.heap.size + 2) gL gH a0 ∧ w.grownBy w' none ∧ w'.heap.size = w.heap.size + 3 := new_is 10 2 w (by decide) (by decide) (by decide)
  go_enter Try.func9, Try.ntmps9
  go_wp2_with fail
  refine c0.mono ?_
  rintro e w1 ⟨gL, gH, rfl, hs, hg, _⟩
  have HG1 := Lib.hid hg
  have HL := Lib.hid hs.los
  have HLt := Lib.hid hs.lts
  have c1 : Calls Try.prog 13 #[.pointer (some ⟨w.heap.size + 2, 0, none⟩), .int .i32 4, .int .i64 0] w1 (DPost w1 w.heap.size (w.heap.size + 2) gL gH a1 (.int .i64 0)) := insert_is hs (i := 0) (x := 4) (by decide) (by decide) (by decide)
  clear hs hg c0
  go_wp2_with fail
  refine c1.mono ?_
  rintro e w2 ⟨rfl, hs, hk⟩
  have HG2 := Lib.hid (Kp.grown HG1.out hk HL.out.1 HL.out.2.1 HL.out.2.2)
  have c2 : Calls Try.prog 13 #[.pointer (some ⟨w.heap.size + 2, 0, none⟩), .int .i32 6, .int .i64 0] w2 (DPost w2 w.heap.size (w.heap.size + 2) gL gH a2 (.int .i64 0)) := insert_is hs (i := 0) (x := 6) (by decide) (by decide) (by decide)
  clear hs hk c1 HG1
  go_wp2_with fail
  refine c2.mono ?_
  rintro e w3 ⟨rfl, hs, hk⟩
  have HG3 := Lib.hid (Kp.grown HG2.out hk HL.out.1 HL.out.2.1 HL.out.2.2)
  have c3 : Calls Try.prog 13 #[.pointer (some ⟨w.heap.size + 2, 0, none⟩), .int .i32 8, .int .i64 0] w3 (DPost w3 w.heap.size (w.heap.size + 2) gL gH a3 (.int .i64 0)) := insert_is hs (i := 0) (x := 8) (by decide) (by decide) (by decide)
  clear hs hk c2 HG2
  go_wp2_with fail
  refine c3.mono ?_
  rintro e w4 ⟨rfl, hs, hk⟩
  have HG4 := Lib.hid (Kp.grown HG3.out hk HL.out.1 HL.out.2.1 HL.out.2.2)
  have HS4 := Lib.hid hs
  have c5 : Calls Try.prog 15 #[.pointer (some ⟨w.heap.size + 2, 0, none⟩), .int .i64 0, .int .i64 9] w4 (ToldPost w4 [4, 6, 8] 9) := told_is hs 0 9 (by decide)
  clear hs hk c3 HG3
  go_wp2_with fail
  refine c5.mono ?_
  rintro e w5 ⟨v, rfl, hr, hg⟩
  have HG5 := Lib.hid (grown_trans HG4.out hg)
  have hs5 := HS4.out.kept hg
  have HR5 : Hid (NRow w4.heap.size w5 v [4, 6, 8]) := Lib.hid (NRow.of_owns hr rfl)
  have hH4 := HS4.out.lts.2.2
  have HT5 := Lib.hid hs5.types
  have c6 : Calls Try.prog 14 #[.pointer (some ⟨w.heap.size + 2, 0, none⟩), .int .i64 0] w5 (DPost w5 w.heap.size (w.heap.size + 2) gL gH a4 (.bool true)) := step_is hs5 (i := 0) (k := 0) rfl (by decide)
  obtain ⟨A, cap, rfl, _⟩ := HR5.out
  clear hr hg c5 HS4 hs5 HG4
  go_wp2_with fail
  refine c6.mono ?_
  rintro e w6 ⟨rfl, hs, hk⟩
  have HG6 := Lib.hid (Kp.grown HG5.out hk HL.out.1 HL.out.2.1 HL.out.2.2)
  have HR6 := Lib.hid (HR5.out.kp hk HT5.out.1 HT5.out.2.1 hH4)
  have HT6 := Lib.hid hs.types
  have c7 : Calls Try.prog 18 #[.pointer (some ⟨w.heap.size + 2, 0, none⟩), .int .i32 6] w6 (DPost w6 w.heap.size (w.heap.size + 2) gL gH a5 (.bool true)) := remove_is hs (k := 1) (x := 6) rfl
  clear hs hk c6 HG5 HR5 HT5
  go_wp2_with fail
  refine c7.mono ?_
  rintro e w7 ⟨rfl, hs, hk⟩
  have HG7 := Lib.hid (Kp.grown HG6.out hk HL.out.1 HL.out.2.1 HL.out.2.2)
  have HR7 := Lib.hid (HR6.out.kp hk HT6.out.1 HT6.out.2.1 hH4)
  have HS7 := Lib.hid hs
  have c8 : Calls Try.prog 15 #[.pointer (some ⟨w.heap.size + 2, 0, none⟩), .int .i64 0, .int .i64 9] w7 (ToldPost w7 [8, 4] 9) := told_is hs 0 9 (by decide)
  clear hs hk c7 HG6 HR6 HT6
  go_wp2_with fail
  refine c8.mono ?_
  rintro e w8 ⟨v, rfl, hr, hg⟩
  have HG8 := Lib.hid (grown_trans HG7.out hg)
  have HS8 := Lib.hid (HS7.out.kept hg)
  have HR8 := Lib.hid (HR7.out.kept hg)
  have HM8 : Hid (NRow w7.heap.size w8 v [8, 4]) := Lib.hid (NRow.of_owns hr rfl)
  obtain ⟨A2, cap2, rfl, _⟩ := HM8.out
  clear hr hg c8 HS7 HG7 HR7
  go_wp2_with fail
  have hgx := World.grownBy_alloc w8 (.cells #[.int .i32 4, .int .i32 6, .int .i32 8] 21) none
  have HR9 := Lib.hid (HR8.out.kept hgx)
  have HM9 := Lib.hid (HM8.out.kept hgx)
  have HG9 := Lib.hid (grown_trans HG8.out hgx)
  have HS9 := Lib.hid (HS8.out.kept hgx)
  have HT9 : Hid (NRow w8.heap.size (w8.alloc (.cells #[.int .i32 4, .int .i32 6, .int .i32 8] 21)) (.slice (some ⟨w8.heap.size, 0, none⟩) 3 3) [4, 6, 8]) := Lib.hid (lit_row (xs := [4, 6, 8]) (heap_alloc_new w8 _) (by decide))
  clear HR8 HG8 HS8 HM8 hgx
  generalize w8.alloc (.cells #[.int .i32 4, .int .i32 6, .int .i32 8] 21) = w9 at *
  refine (nodes_at _ _ _ _ w9 HR9.out HT9.out (by decide) (by decide)).mono ?_
  rintro e w10 ⟨rfl, q, rfl⟩
  rw [show decide (([4, 6, 8] : List Nat) = [4, 6, 8]) = true from rfl]
  have HS10 := Lib.hid (HS9.out.kept (grown_drewN w9 q none))
  have HG10 := Lib.hid (grown_trans HG9.out (grown_drewN w9 q none))
  have HM10 := Lib.hid (HM9.out.kept (grown_drewN w9 q none))
  clear HR9 HT9 HS9 HG9 HM9
  generalize w9.drewN q = w10 at *
  go_wp2_with fail
  have hgx := World.grownBy_alloc w10 (.cells #[.int .i32 8, .int .i32 4] 21) none
  have HM11 := Lib.hid (HM10.out.kept hgx)
  have HG11 := Lib.hid (grown_trans HG10.out hgx)
  have HS11 := Lib.hid (HS10.out.kept hgx)
  have HT11 : Hid (NRow w10.heap.size (w10.alloc (.cells #[.int .i32 8, .int .i32 4] 21)) (.slice (some ⟨w10.heap.size, 0, none⟩) 2 2) [8, 4]) := Lib.hid (lit_row (xs := [8, 4]) (heap_alloc_new w10 _) (by decide))
  clear HM10 HG10 HS10 hgx
  generalize w10.alloc (.cells #[.int .i32 8, .int .i32 4] 21) = w11 at *
  refine (nodes_at _ _ _ _ w11 HM11.out HT11.out (by decide) (by decide)).mono ?_
  rintro e w12 ⟨rfl, q2, rfl⟩
  rw [show decide (([8, 4] : List Nat) = [8, 4]) = true from rfl]
  have HS12 := Lib.hid (HS11.out.kept (grown_drewN w11 q2 none))
  have HG12 := Lib.hid (grown_trans HG11.out (grown_drewN w11 q2 none))
  have c9 : Calls Try.prog 16 #[.pointer (some ⟨w.heap.size + 2, 0, none⟩)] (w11.drewN q2) fun e w' => e = .returned (.int .i64 2) ∧ w11.drewN q2 = w' := len_is HS12.out
  clear HM11 HT11 HS11 HG11
  generalize w11.drewN q2 = w13 at *
  go_wp2_with fail
  refine c9.mono ?_
  rintro e w14 ⟨rfl, rfl⟩
  go_wp2
  go_ret
  exact ⟨rfl, HG12.out⟩
end Go.Proofs.Ytjligfgaahcogaa
