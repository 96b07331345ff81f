/-
  The walk of the law that a nil slab has nothing.
-/
import Derived.Test.YtoopfoapkbjdkaaToldNil
import Derived.Test.YtoopfoapkbjdkaaAlive
import Derived.Below
namespace Go.Proofs.Ytoopfoapkbjdkaa
open Go.ChangeShapes Go.WideShapes Go.ChangeAt Go.RowKit
set_option linter.unusedVariables false
set_option maxRecDepth 100000

def s0 : SI := ⟨0, 0, [], []⟩
theorem ref0 (w : World) : RefAt w 0 s0 (.slice none 0 0) (.slice none 0 0) := ⟨World.ownsRow_nil _ _ _ _, World.ownsRow_nil _ _ _ _⟩
theorem all_zero (w : World) : Calls Try.prog 12 #[.pointer none, .agg #[.int .i64 0, .int .i64 0, .slice none 0 0, .slice none 0 0], .int .i64 5] w fun e w' => e = .returned (.bool true) ∧ w.grownBy w' none := by
  refine all_none w none 5 s0 (.slice none 0 0) (.slice none 0 0) (by decide) (by decide) (by intro s hs; cases hs) (ref0 w) rfl fun W hW => ?_
  refine (copied_nil W).mono ?_
  rintro e w' ⟨rfl, rfl⟩
  exact ⟨none, rfl, World.grownBy.refl _ _, .inl ⟨rfl, rfl, Nat.le_refl _⟩⟩
theorem findNil (p t : Int) (w : World) : ∀ w', w.grownBy w' none → Calls Try.prog 38 #[.pointer none, hdl p t] w' fun e w'' => e = .returned (.tuple #[.pointer none, .int .i64 9]) ∧ w'.grownBy w'' none := fun w' _ => find_nil p t w'
set_option maxHeartbeats 4000000 in
theorem nil_walk (p t v : Int) (w : World) : Calls Try.prog 6 #[.agg #[.int .i32 p, .int .u32 t], .int .i64 v] w fun e w' => e = .returned (.bool true) ∧ w.grownBy w' none := by
  go_enter Try.func6, Try.ntmps6
  go_wp2_with fail
  -- the handle's box
  have hb := heap_alloc_new w (.cells #[.int .i32 p, .int .u32 t] 35)
  have HG0 : Hid (w.grownBy (w.alloc (.cells #[.int .i32 p, .int .u32 t] 35)) none) := Lib.hid (World.grownBy_alloc _ _ none)
  generalize w.alloc (.cells #[.int .i32 p, .int .u32 t] 35) = w0 at hb HG0 ⊢
  refine (alloc_nil v w0).mono ?_
  unfold hdl
  rintro e w1 ⟨rfl, hg⟩
  have hb := (hg.block _ (Array.getElem?_eq_some_iff.1 hb).1 (by simp)).trans hb
  have HG1 := Lib.hid (grown_trans HG0.out hg)
  have HB1 := Lib.hid hb
  have hz := (Array.getElem?_eq_some_iff.1 hb).1
  have e0 := cell_of_head hb 0
  have e1 := cell_of_head hb 1
  simp only [List.getElem?_toArray, List.getElem?_cons_zero, List.getElem?_cons_succ] at e0 e1
  clear hg hb HG0
  go_wp2_with fail
  have hb := ((World.grownBy_alloc w1 (.cells #[.int .i32 0, .int .u32 0] 35) none).block _ hz (by simp)).trans HB1.out
  have hk := heap_alloc_new w1 (.cells #[.int .i32 0, .int .u32 0] 35)
  have HG2 := Lib.hid (grown_trans HG1.out (World.grownBy_alloc w1 (.cells #[.int .i32 0, .int .u32 0] 35) none))
  clear e0 e1 hz
  generalize w1.alloc (.cells #[.int .i32 0, .int .u32 0] 35) = w2 at hb hk HG2 ⊢
  refine (get_no none p t 9 w2 (by decide) (findNil p t w2)).mono ?_
  rintro e w3 ⟨rfl, hg⟩
  have hb := (hg.block _ (Array.getElem?_eq_some_iff.1 hb).1 (by simp)).trans hb
  have hk := (hg.block _ (Array.getElem?_eq_some_iff.1 hk).1 (by simp)).trans hk
  have HG3 := Lib.hid (grown_trans HG2.out hg)
  have HB3 := Lib.hid hb
  have HK3 := Lib.hid hk
  have e0 := cell_of_head hb 0
  have e1 := cell_of_head hb 1
  simp only [List.getElem?_toArray, List.getElem?_cons_zero, List.getElem?_cons_succ] at e0 e1
  clear hg hb hk
  go_wp2_with fail
  refine (at_nil p w3).mono ?_
  unfold hdl
  rintro e w4 ⟨rfl, hg⟩
  have hb := (hg.block _ (Array.getElem?_eq_some_iff.1 HB3.out).1 (by simp)).trans HB3.out
  have hk := (hg.block _ (Array.getElem?_eq_some_iff.1 HK3.out).1 (by simp)).trans HK3.out
  have HG4 := Lib.hid (grown_trans HG3.out hg)
  have HB4 := Lib.hid hb
  have z0 := (Array.getElem?_eq_some_iff.1 hb).1
  have z1 := (Array.getElem?_eq_some_iff.1 hk).1
  clear e0 e1
  have e0 := cell_of_head hb 0
  have e1 := cell_of_head hb 1
  have f0 := cell_of_head hk 0
  have f1 := cell_of_head hk 1
  simp only [List.getElem?_toArray, List.getElem?_cons_zero, List.getElem?_cons_succ] at e0 e1 f0 f1
  clear hg hb hk HB3 HK3
  go_wp2_with fail
  have hb := ((World.grownBy_alloc w4 (.cells #[.int .i32 0, .int .u32 0] 35) none).block _ z0 (by simp)).trans HB4.out
  have HG5 := Lib.hid (grown_trans HG4.out (World.grownBy_alloc w4 (.cells #[.int .i32 0, .int .u32 0] 35) none))
  clear e0 e1 f0 f1
  generalize w4.alloc (.cells #[.int .i32 0, .int .u32 0] 35) = w5 at hb HG5 ⊢
  refine (free_no none p t 9 w5 (by decide) (findNil p t w5)).mono ?_
  rintro e w6 ⟨rfl, hg⟩
  have hb := (hg.block _ (Array.getElem?_eq_some_iff.1 hb).1 (by simp)).trans hb
  have HG6 := Lib.hid (grown_trans HG5.out hg)
  have e0 := cell_of_head hb 0
  have e1 := cell_of_head hb 1
  simp only [List.getElem?_toArray, List.getElem?_cons_zero, List.getElem?_cons_succ] at e0 e1
  clear hg hb
  go_wp2_with fail
  refine (set_no none p t v 9 w6 (by decide) (findNil p t w6)).mono ?_
  rintro e w7 ⟨rfl, hg⟩
  have HG7 := Lib.hid (grown_trans HG6.out hg)
  clear hg e0 e1
  go_wp2_with (first | (go_at_call 26; refine (len_nil _).mono ?_; rintro e w' ⟨rfl, rfl⟩) | (go_at_call 27; refine (room_nil _).mono ?_; rintro e w' ⟨rfl, rfl⟩) | (go_at_call 28; refine (chunks_nil _).mono ?_; rintro e w' ⟨rfl, rfl⟩))
  refine (all_zero w7).mono ?_
  rintro e w8 ⟨rfl, hg⟩
  have HG8 := Lib.hid (grown_trans HG7.out hg)
  clear hg
  go_wp2_with fail
  refine (alive_any w8).mono ?_
  rintro e w9 ⟨rfl, hg⟩
  have HG9 := Lib.hid (grown_trans HG8.out hg)
  clear hg
  go_wp2
  go_ret
  exact ⟨rfl, HG9.out⟩
theorem slabNil_law (p t v : Int) (w : World) : Calls Try.prog 6 #[.agg #[.int .i32 p, .int .u32 t], .int .i64 v] w fun e w' => e = .returned (.bool true) ∧ Below w.heap.size w w' := by
  refine (nil_walk p t v w).mono ?_
  rintro e w' ⟨he, hg⟩
  exact ⟨he, (Below.refl _ w).grown hg (Nat.le_refl _) (by simp)⟩
end Go.Proofs.Ytoopfoapkbjdkaa
