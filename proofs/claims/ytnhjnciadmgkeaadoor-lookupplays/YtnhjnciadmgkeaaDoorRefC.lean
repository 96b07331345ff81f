/-
  The document's table: Keys.
-/
import Derived.Test.YtnhjnciadmgkeaaDoorRefB
namespace Go.Proofs.YtnhjnciadmgkeaaDoor
open Go.ChangeShapes Go.WideShapes Go.ChangeAt Go.RowKit
set_option linter.unusedVariables false
theorem owns_base {W : World} {a b : Nat} {e : TypeId} {size : Nat} {v : Value} {n : Nat} {xs : List Value} (h : W.ownsRow a e size v n xs) (hb : b ≤ a) : W.ownsRow b e size v n xs := by
  refine ⟨h.1, ?_⟩
  rcases h.2 with h | ⟨g, cap, cur, hv, hg, r⟩
  · exact .inl h
  · exact .inr ⟨g, cap, cur, hv, Nat.le_trans hb hg, r⟩
section
variable {w w' : World} {base n c : Nat} {A : Option Addr} {ps : List (Int × Int)}
set_option maxHeartbeats 1000000 in
theorem rkeys_at (h : PRow w base A n c ps) (s : Int) (hn : n ≤ 1000000) :
    Calls Tryd.prog 12 #[.agg #[.slice A n c, .int .i64 s]] w fun r w' => ∃ A' c', r = .returned (.slice A' n c') ∧ w'.ownsRow w.heap.size 23 1 (.slice A' n c') n (uvals (ps.map (·.1))) ∧ w.grownBy w' none := by
  have HR : Hid (PRow (w.alloc (.cells #[.slice A n c, .int .i64 s] 29)) base A n c ps) := Lib.hid (h.kept (World.grownBy_alloc w _ none))
  have HG : Hid (w.grownBy (w.alloc (.cells #[.slice A n c, .int .i64 s] 29)) none) := Lib.hid (World.grownBy_alloc w _ none)
  have b0 := heap_alloc_new w (.cells #[.slice A n c, .int .i64 s] 29)
  have HB := Lib.hid b0
  clear h b0
  go_enter Tryd.func12, Tryd.ntmps12
  go_wp2_with fail
  generalize w.alloc (.cells #[.slice A n c, .int .i64 s] 29) = w1 at *
  have hb1 : w.heap.size < w1.heap.size := (Array.getElem?_eq_some_iff.1 HB.out).1
  have HB1 := Lib.hid hb1
  clear hb1
  go_loopg [3, 4] n (fun m u v wr => ∃ (i : Nat) (A2 : Option Addr) (c2 : Nat), u = .slice A2 i c2 ∧ v = .int .i64 (i : Int) ∧ m + i = n ∧ Hid (wr.ownsRow w1.heap.size 23 1 (.slice A2 i c2) i (uvals ((ps.take i).map (·.1))) ∧ KR w1.heap.size w1 wr))
  case atStart => exact ⟨0, none, 0, rfl, by go_num, by omega, Lib.hid ⟨World.ownsRow_nil _ _ _ _, KR.refl _ _⟩⟩
  case round =>
    obtain ⟨i, A2, c2, rfl, rfl, hmi, HS⟩ := hrel
    have hgw : w1.grownBy wr none := HS.out.2.grown ⟨rfl, rfl, rfl, Nat.le_refl _, fun _ _ _ => rfl⟩
    have hbb : wr.heap[w.heap.size]? = _ := (hgw.block w.heap.size HB1.out (by simp)).trans HB.out
    have b0 : wr.cell? ⟨w.heap.size, 0, none⟩ = some (.slice A n c) := by rw [cell_of_head hbb]; rfl
    by_cases hlt : i < n
    · obtain ⟨g, p, hA, hp, c1, c2⟩ := (HR.out.kept hgw).cells hlt
      subst hA
      have hix := ix27 g i n c hlt
      have hlb : decide ((i : Int) < (n : Int)) = true := by simp; omega
      obtain ⟨g', cap', w2, hrun, ho1, hkr⟩ := app64 HS.out.1 (by omega) HS.out.2.size p.1
      have HRun := Lib.hid hrun
      have HS2 : Hid (w2.ownsRow w1.heap.size 23 1 (.slice (some ⟨g', 0, none⟩) (i + 1) cap') (i + 1) (uvals ((ps.take (i + 1)).map (·.1))) ∧ KR w1.heap.size w1 w2) := Lib.hid ⟨by
        rw [List.take_add_one, hp, List.map_append]; exact ho1, HS.out.2.trans hkr⟩
      have HW := Lib.hid hgw
      clear hrun ho1 hkr hp HS hgw hbb c2
      obtain ⟨pk, pn⟩ := p
      dsimp only at *
      go_wp2_with (at_builtin; refine append_run rfl (.tmp 12) (.tmp 19) 34 rfl rfl rfl HRun.out ?_)
      go_roundg (n - (i + 1))
      case measure => omega
      case rel => exact ⟨i + 1, _, _, rfl, by go_num, by omega, HS2⟩
    · obtain rfl : i = n := by omega
      have hlb : decide ((i : Int) < (i : Int)) = false := by simp
      go_wp2
      go_ret
      refine ⟨A2, c2, rfl, ?_, grown_trans HG.out hgw⟩
      have hall : ps.take i = ps := List.take_of_length_le (by have := HR.out.2; omega)
      have := HS.out.1
      rw [hall] at this
      exact owns_base this (by have := HB1.out; omega)
end
end Go.Proofs.YtnhjnciadmgkeaaDoor
