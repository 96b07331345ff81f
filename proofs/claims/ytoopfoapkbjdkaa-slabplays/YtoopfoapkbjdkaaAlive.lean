/-
  The document's example.
-/
import Derived.Test.YtoopfoapkbjdkaaIs
namespace Go.Proofs.Ytoopfoapkbjdkaa
open Go.ChangeShapes Go.WideShapes Go.ChangeAt Go.RowKit
set_option linter.unusedVariables false
set_option maxRecDepth 100000

def a0 : SI := ⟨3, 2, [], []⟩
def a1 : SI := ⟨3, 2, [⟨1, true, 5⟩], []⟩
def a2 : SI := ⟨3, 2, [⟨1, true, 5⟩, ⟨1, true, 6⟩], []⟩
def a3 : SI := ⟨3, 2, [⟨1, true, 5⟩, ⟨1, true, 6⟩, ⟨1, true, 7⟩], []⟩
def a4 : SI := ⟨3, 2, [⟨1, true, 5⟩, ⟨1, false, 0⟩, ⟨1, true, 7⟩], [1]⟩
def a5 : SI := ⟨3, 2, [⟨1, true, 5⟩, ⟨2, true, 9⟩, ⟨1, true, 7⟩], []⟩

theorem grown_boxK {K : Kd} {lo : Nat} {w w' : World} (h : Keep K lo w w') {B : Nat} {x y : Value} (hb : w.heap[B]? = some (.cells #[x, y] 35 (0, 0))) (ho : K.own 35 = false) : w'.heap[B]? = some (.cells #[x, y] 35 (0, 0)) := h.other hb ho
theorem keep_lt {K : Kd} {lo : Nat} {w w' : World} (h : Keep K lo w w') {B : Nat} (hb : B < w.heap.size) : B < w'.heap.size := Nat.lt_of_lt_of_le hb h.size

set_option maxHeartbeats 2000000 in
theorem alive_any (w : World) : Calls Try.prog 9 #[] w fun e w' => e = .returned (.bool true) ∧ w.grownBy w' none := by
  have c0 : Calls Try.prog 7 #[.int .i64 3, .int .i64 2] w fun e w' => e = .returned (.tuple #[.pointer (some ⟨w.heap.size, 0, none⟩), .int .i64 0]) ∧ IsSlab w' w.heap.size w.heap.size a0 ∧ w.grownBy w' none := new_is (most := 3) (c := 2) (Nat.le_refl _) (by decide) (by decide) (by decide)
  go_enter Try.func9, Try.ntmps9
  go_wp2_with fail
  refine c0.mono ?_
  rintro e w1 ⟨rfl, hs, hg⟩
  have HG1 := Lib.hid hg
  have c1 : Calls Try.prog 13 #[.pointer (some ⟨w.heap.size, 0, none⟩), .int .i64 5] w1 fun e w' => e = .returned (.tuple #[.agg #[.int .i32 0, .int .u32 1], .int .i64 0]) ∧ IsSlab w' w.heap.size w.heap.size a1 ∧ Keep Ki w.heap.size w1 w' := alloc_is hs 5 (by decide) (by decide)
  clear hs hg
  go_wp2_with fail
  refine c1.mono ?_
  rintro e w2 ⟨rfl, hs, hk2⟩
  have HG2 := Lib.hid (Keep.grown HG1.out hk2 (Nat.le_refl _))
  have c2 : Calls Try.prog 13 #[.pointer (some ⟨w.heap.size, 0, none⟩), .int .i64 6] w2 fun e w' => e = .returned (.tuple #[.agg #[.int .i32 1, .int .u32 1], .int .i64 0]) ∧ IsSlab w' w.heap.size w.heap.size a2 ∧ Keep Ki w.heap.size w2 w' := alloc_is hs 6 (by decide) (by decide)
  clear hs hk2
  go_wp2_with fail
  refine c2.mono ?_
  rintro e w3 ⟨rfl, hs, hk3⟩
  have HG3 := Lib.hid (Keep.grown HG2.out hk3 (Nat.le_refl _))
  have HS3 := Lib.hid hs
  clear hs hk3
  go_wp2_with fail
  -- the first handle's box
  have hb := heap_alloc_new w3 (.cells #[.int .i32 1, .int .u32 1] 35)
  have HG3' : Hid (w.grownBy (w3.alloc (.cells #[.int .i32 1, .int .u32 1] 35)) none) := Lib.hid (grown_trans HG3.out (World.grownBy_alloc _ _ none))
  have hs := HS3.out.kept (World.grownBy_alloc w3 (.cells #[.int .i32 1, .int .u32 1] 35) none)
  have hz3 : w3.heap.size < (w3.alloc (.cells #[.int .i32 1, .int .u32 1] 35)).heap.size := by simp
  generalize w3.alloc (.cells #[.int .i32 1, .int .u32 1] 35) = w4 at hb HG3' hs hz3 ⊢
  have c3 : Calls Try.prog 13 #[.pointer (some ⟨w.heap.size, 0, none⟩), .int .i64 7] w4 fun e w' => e = .returned (.tuple #[.agg #[.int .i32 2, .int .u32 1], .int .i64 0]) ∧ IsSlab w' w.heap.size w.heap.size a3 ∧ Keep Ki w.heap.size w4 w' := alloc_is hs 7 (by decide) (by decide)
  clear hs
  refine c3.mono ?_
  rintro e w5 ⟨rfl, hs, hk⟩
  have hb := hk.other hb (by decide)
  have hz3 := keep_lt hk hz3
  have HG5 := Lib.hid (Keep.grown HG3'.out hk (Nat.le_refl _))
  have c4 : Calls Try.prog 13 #[.pointer (some ⟨w.heap.size, 0, none⟩), .int .i64 8] w5 fun e w' => e = .returned (.tuple #[.agg #[.int .i32 0, .int .u32 0], .int .i64 3]) ∧ w5.grownBy w' none := alloc_full_is hs 8 (by decide)
  have HS5 := Lib.hid hs
  clear hs hk
  go_wp2_with fail
  refine c4.mono ?_
  rintro e w6 ⟨rfl, hg6⟩
  have hb := (hg6.block _ hz3 (by simp)).trans hb
  have HG6 := Lib.hid (grown_trans HG5.out hg6)
  have HS6 := Lib.hid (HS5.out.kept hg6)
  have hz3 : w3.heap.size < w6.heap.size := (Array.getElem?_eq_some_iff.1 hb).1
  have HB6 := Lib.hid hb
  clear hg6 HS5 HG5 c0 c1 c2 c3 c4
  have hbA := cell_of_head hb 0
  have hbB := cell_of_head hb 1
  simp only [List.getElem?_toArray, List.getElem?_cons_zero, List.getElem?_cons_succ] at hbA hbB
  clear hb
  go_wp2_with fail
  -- Free
  have hb := (World.grownBy_alloc w6 (.cells #[.int .i32 0, .int .u32 0] 35) none).block _ hz3 (by simp) |>.trans HB6.out
  have HG7 : Hid (w.grownBy (w6.alloc (.cells #[.int .i32 0, .int .u32 0] 35)) none) := Lib.hid (grown_trans HG6.out (World.grownBy_alloc _ _ none))
  have hs := HS6.out.kept (World.grownBy_alloc w6 (.cells #[.int .i32 0, .int .u32 0] 35) none)
  clear hbA hbB
  generalize w6.alloc (.cells #[.int .i32 0, .int .u32 0] 35) = w7 at hb HG7 hs ⊢
  have c5 : Calls Try.prog 14 #[.pointer (some ⟨w.heap.size, 0, none⟩), .agg #[.int .i32 1, .int .u32 1]] w7 fun e w' => e = .returned (.int .i64 0) ∧ IsSlab w' w.heap.size w.heap.size a4 ∧ Keep Ki w.heap.size w7 w' := free_is hs (p := 1) (t := 1) (by decide) (by decide)
  refine c5.mono ?_
  rintro e w8 ⟨rfl, hs8, hk⟩
  have hb := hk.other hb (by decide)
  have HG8 := Lib.hid (Keep.grown HG7.out hk (Nat.le_refl _))
  have c6 : Calls Try.prog 13 #[.pointer (some ⟨w.heap.size, 0, none⟩), .int .i64 9] w8 fun e w' => e = .returned (.tuple #[.agg #[.int .i32 1, .int .u32 2], .int .i64 0]) ∧ IsSlab w' w.heap.size w.heap.size a5 ∧ Keep Ki w.heap.size w8 w' := alloc_is hs8 9 (by decide) (by decide)
  clear hs hs8 hk c5
  go_wp2_with fail
  refine c6.mono ?_
  rintro e w9 ⟨rfl, hs9, hk⟩
  have hb := hk.other hb (by decide)
  have HG9 := Lib.hid (Keep.grown HG8.out hk (Nat.le_refl _))
  have hz3 : w3.heap.size < w9.heap.size := (Array.getElem?_eq_some_iff.1 hb).1
  have HB9 := Lib.hid hb
  have HS9 := Lib.hid hs9
  have hbA := cell_of_head hb 0
  have hbB := cell_of_head hb 1
  simp only [List.getElem?_toArray, List.getElem?_cons_zero, List.getElem?_cons_succ] at hbA hbB
  clear hs9 hk c6 hb HB6
  go_wp2_with fail
  have hb := (World.grownBy_alloc w9 (.cells #[.int .i32 1, .int .u32 2] 35) none).block _ hz3 (by simp) |>.trans HB9.out
  have hbk := heap_alloc_new w9 (.cells #[.int .i32 1, .int .u32 2] 35)
  have HG10 : Hid (w.grownBy (w9.alloc (.cells #[.int .i32 1, .int .u32 2] 35)) none) := Lib.hid (grown_trans HG9.out (World.grownBy_alloc _ _ none))
  have hs := HS9.out.kept (World.grownBy_alloc w9 (.cells #[.int .i32 1, .int .u32 2] 35) none)
  clear hbA hbB
  generalize w9.alloc (.cells #[.int .i32 1, .int .u32 2] 35) = w10 at hb hbk HG10 hs ⊢
  have c7 : Calls Try.prog 15 #[.pointer (some ⟨w.heap.size, 0, none⟩), .agg #[.int .i32 1, .int .u32 1]] w10 fun e w' => e = .returned (.tuple #[.int .i64 0, .int .i64 4]) ∧ w10.grownBy w' none := get_is hs (p := 1) (t := 1) (by decide) (by decide)
  refine c7.mono ?_
  rintro e w11 ⟨rfl, hg⟩
  have hb := (hg.block _ (Array.getElem?_eq_some_iff.1 hb).1 (by simp)).trans hb
  have hbk := (hg.block _ (Array.getElem?_eq_some_iff.1 hbk).1 (by simp)).trans hbk
  have HG11 := Lib.hid (grown_trans HG10.out hg)
  have hs11 := hs.kept hg
  have hbA := cell_of_head hb 0
  have hbB := cell_of_head hb 1
  have hbC := cell_of_head hbk 0
  have hbD := cell_of_head hbk 1
  simp only [List.getElem?_toArray, List.getElem?_cons_zero, List.getElem?_cons_succ] at hbA hbB hbC hbD
  have c8 : Calls Try.prog 15 #[.pointer (some ⟨w.heap.size, 0, none⟩), .agg #[.int .i32 1, .int .u32 2]] w11 fun e w' => e = .returned (.tuple #[.int .i64 9, .int .i64 0]) ∧ w11.grownBy w' none := get_is hs11 (p := 1) (t := 2) (by decide) (by decide)
  have HS11 := Lib.hid hs11
  have HB11 := Lib.hid hb
  have HBK11 := Lib.hid hbk
  clear c7 hs hg hs11 hb hbk HS9 HB9 HG9 HG10
  go_wp2_with fail
  refine c8.mono ?_
  rintro e w12 ⟨rfl, hg⟩
  have hb := (hg.block _ (Array.getElem?_eq_some_iff.1 HB11.out).1 (by simp)).trans HB11.out
  have hbk := (hg.block _ (Array.getElem?_eq_some_iff.1 HBK11.out).1 (by simp)).trans HBK11.out
  clear hbA hbB hbC hbD
  have hbA := cell_of_head hb 0
  have hbB := cell_of_head hb 1
  have hbC := cell_of_head hbk 0
  have hbD := cell_of_head hbk 1
  simp only [List.getElem?_toArray, List.getElem?_cons_zero, List.getElem?_cons_succ] at hbA hbB hbC hbD
  have HG12 := Lib.hid (grown_trans HG11.out hg)
  have HC : Hid (Calls Try.prog 28 #[.pointer (some ⟨w.heap.size, 0, none⟩)] w12 fun e w' => e = .returned (.int .i64 2) ∧ w12 = w') := Lib.hid (chunks_is (HS11.out.kept hg))
  clear hg c8 hb hbk HS11 HB11 HBK11
  go_wp2_with (go_at_call 28; refine HC.out.mono ?_; rintro e w' ⟨rfl, rfl⟩)
  go_ret
  exact ⟨rfl, HG12.out⟩
end Go.Proofs.Ytoopfoapkbjdkaa
