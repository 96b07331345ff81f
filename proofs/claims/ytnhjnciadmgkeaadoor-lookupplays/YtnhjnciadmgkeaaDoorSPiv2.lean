/-
  The library's sort: the pivot is chosen.
-/
import Derived.Test.YtnhjnciadmgkeaaDoorSPiv
namespace Go.Proofs.YtnhjnciadmgkeaaDoor
open Go.ChangeShapes Go.WideShapes Go.ChangeAt Go.RowKit
set_option linter.unusedVariables false
section
variable {w : World} {g n cap : Nat} {d : Nat → Int}
set_option maxHeartbeats 1000000 in
theorem pivot_at (hd : DAt w g n d) (a b : Nat) (hab : a + 12 < b) (hbn : b ≤ n) (hn : n ≤ 1000000) :
    Calls Tryd.prog 37 #[.slice (some ⟨g, 0, none⟩) n cap, .int .i64 (a : Int), .int .i64 (b : Int)] w fun r w' => ∃ (p : Nat) (h : Int), r = .returned (.tuple #[.int .i64 (p : Int), .int .i64 h]) ∧ (a ≤ p ∧ p < b) ∧ (h = 0 ∨ h = 1 ∨ h = 2) ∧ DAt w' g n d ∧ w.grownBy w' none := by
  obtain ⟨i0, hi0⟩ : ∃ i0 : Nat, (a : Int) + ((b : Int) - (a : Int)) / 4 = (i0 : Int) := ⟨((a : Int) + ((b : Int) - (a : Int)) / 4).toNat, by omega⟩
  obtain ⟨j0, hj0⟩ : ∃ j0 : Nat, (a : Int) + ((b : Int) - (a : Int)) / 4 * 2 = (j0 : Int) := ⟨((a : Int) + ((b : Int) - (a : Int)) / 4 * 2).toNat, by omega⟩
  obtain ⟨k0, hk0⟩ : ∃ k0 : Nat, (a : Int) + ((b : Int) - (a : Int)) / 4 * 3 = (k0 : Int) := ⟨((a : Int) + ((b : Int) - (a : Int)) / 4 * 3).toNat, by omega⟩
  have hd1 : DAt (w.alloc (.cells #[.int .i64 0] 3)) g n d := hd.kept (World.grownBy_alloc w _ none)
  have hc1 : CntAt (w.alloc (.cells #[.int .i64 0] 3)) w.heap.size 0 := heap_alloc_new w _
  have HE := Lib.hid (⟨hi0, hj0, hk0⟩ : _ ∧ _ ∧ _)
  have HD := Lib.hid (⟨hd1, hc1⟩ : _ ∧ _)
  have h8 : decide (8 ≤ (b : Int) - (a : Int)) = true := by simp; omega
  have HG0 : Hid (∀ w2, But (fun k => k = w.heap.size) (w.alloc (.cells #[.int .i64 0] 3)) w2 → w.grownBy w2 none) := Lib.hid fun w2 hb =>
    ⟨hb.os, hb.tape, hb.output, by have := hb.size; simp at this; omega, fun k hk _ => (hb.block k (by simp; omega) (by show ¬ k = _; omega)).trans (Below.heap_alloc _ _ _ hk)⟩
  have bi : a < i0 ∧ i0 + 1 < b := by omega
  have bj : a < j0 ∧ j0 + 1 < b := by omega
  have bk : a < k0 ∧ k0 + 1 < b := by omega
  have HB := Lib.hid (⟨bi, bj, bk⟩ : _ ∧ _ ∧ _)
  clear hd hi0 hj0 hk0 hd1 hc1 bi bj bk
  by_cases h50 : 50 ≤ (b : Int) - (a : Int)
  · have h50b : decide (50 ≤ (b : Int) - (a : Int)) = true := by simpa using h50
    have c1 : Calls Tryd.prog 50 #[.slice (some ⟨g, 0, none⟩) n cap, .int .i64 ((a : Int) + ((b : Int) - (a : Int)) / 4), .pointer (some ⟨w.heap.size, 0, none⟩)] (w.alloc (.cells #[.int .i64 0] 3)) fun r w' => ∃ u : Nat, r = .returned (.int .i64 (u : Int)) ∧ (i0 ≤ u + 1 ∧ u ≤ i0 + 1) ∧ ∃ c', CP (w.alloc (.cells #[.int .i64 0] 3)) g n w.heap.size d (0 + 3) w' c' := by
      rw [HE.out.1]; exact adj_at HD.out.1 HD.out.2 i0 (by have := HB.out; omega) (by have := HB.out; omega) hn (by omega)
    have H1 := Lib.hid c1
    clear c1
    go_enter Tryd.func37, Tryd.ntmps37
    go_wp2_with fail
    refine H1.out.mono ?_
    rintro r w1 ⟨u1, rfl, hu1, c1, hp1⟩
    have HP1 := Lib.hid hp1
    have HU1 := Lib.hid hu1
    have hc1 := hp1.le
    have c2 : Calls Tryd.prog 50 #[.slice (some ⟨g, 0, none⟩) n cap, .int .i64 ((a : Int) + ((b : Int) - (a : Int)) / 4 * 2), .pointer (some ⟨w.heap.size, 0, none⟩)] w1 fun r w' => ∃ u : Nat, r = .returned (.int .i64 (u : Int)) ∧ (j0 ≤ u + 1 ∧ u ≤ j0 + 1) ∧ ∃ c', CP w1 g n w.heap.size d (c1 + 3) w' c' := by
      rw [HE.out.2.1]; exact adj_at hp1.at_ hp1.cnt j0 (by have := HB.out; omega) (by have := HB.out; omega) hn (by omega)
    have H2 := Lib.hid c2
    clear c2 hp1 hu1 H1
    go_wp2_with fail
    refine H2.out.mono ?_
    rintro r w2 ⟨u2, rfl, hu2, c2, hp2⟩
    have HP2 := Lib.hid hp2
    have HU2 := Lib.hid hu2
    have hc2 := hp2.le
    have c3 : Calls Tryd.prog 50 #[.slice (some ⟨g, 0, none⟩) n cap, .int .i64 ((a : Int) + ((b : Int) - (a : Int)) / 4 * 3), .pointer (some ⟨w.heap.size, 0, none⟩)] w2 fun r w' => ∃ u : Nat, r = .returned (.int .i64 (u : Int)) ∧ (k0 ≤ u + 1 ∧ u ≤ k0 + 1) ∧ ∃ c', CP w2 g n w.heap.size d (c2 + 3) w' c' := by
      rw [HE.out.2.2]; exact adj_at hp2.at_ hp2.cnt k0 (by have := HB.out; omega) (by have := HB.out; omega) hn (by omega)
    have H3 := Lib.hid c3
    clear c3 hp2 hu2 H2
    go_wp2_with fail
    refine H3.out.mono ?_
    rintro r w3 ⟨u3, rfl, hu3, c3, hp3⟩
    have HP3 := Lib.hid hp3
    have HU3 := Lib.hid hu3
    have hc3 := hp3.le
    have HB : Hid ((a ≤ u1 ∧ u1 < b) ∧ (a ≤ u2 ∧ u2 < b) ∧ a ≤ u3 ∧ u3 < b) := Lib.hid (by have q0 := HB.out; have q1 := HU1.out; have q2 := HU2.out; omega)
    clear hp3 hu3 H3
    have c1 : Calls Tryd.prog 51 #[.slice (some ⟨g, 0, none⟩) n cap, .int .i64 (u1 : Int), .int .i64 (u2 : Int), .int .i64 (u3 : Int), .pointer (some ⟨w.heap.size, 0, none⟩)] w3 fun r w' => ∃ u : Nat, r = .returned (.int .i64 (u : Int)) ∧ (u = u1 ∨ u = u2 ∨ u = u3) ∧ ∃ c', CP w3 g n w.heap.size d (c3 + 3) w' c' := by
      exact med_at HP3.out.at_ HP3.out.cnt u1 u2 u3 (by have := HB.out; omega) (by have := HB.out; omega) (by have := HB.out; omega) hn (by omega)
    have H1 := Lib.hid c1
    clear c1
    go_wp2_with fail
    refine H1.out.mono ?_
    rintro r w9 ⟨u, rfl, hu, c9, hp9⟩
    have HP9 := Lib.hid hp9
    have HU := Lib.hid hu
    have cs := hp9.cnt.cell
    have hub : a ≤ u ∧ u < b := by have := HB.out; omega
    clear hp9 hu H1
    by_cases h0 : c9 = 0
    · subst h0
      go_wp2
      go_ret2
      exact ⟨u, 1, rfl, hub, .inr (.inl rfl), HP9.out.at_, HG0.out _ (((HP1.out.but.trans HP2.out.but).trans HP3.out.but).trans HP9.out.but)⟩
    · have hb0 : ((c9 : Int) == 0) = false := beq_eq_false_iff_ne.2 (by omega)
      have hb0' : (c9 == 0) = false := beq_eq_false_iff_ne.2 h0
      by_cases h12 : c9 = 12
      · subst h12
        go_wp2
        go_ret2
        exact ⟨u, 2, rfl, hub, .inr (.inr rfl), HP9.out.at_, HG0.out _ (((HP1.out.but.trans HP2.out.but).trans HP3.out.but).trans HP9.out.but)⟩
      · have hb12 : ((c9 : Int) == 12) = false := beq_eq_false_iff_ne.2 (by omega)
        have hb12' : (c9 == 12) = false := beq_eq_false_iff_ne.2 h12
        go_wp2
        go_ret2
        exact ⟨u, 0, rfl, hub, .inl rfl, HP9.out.at_, HG0.out _ (((HP1.out.but.trans HP2.out.but).trans HP3.out.but).trans HP9.out.but)⟩
  · have h50b : decide (50 ≤ (b : Int) - (a : Int)) = false := by simp; omega
    go_enter Tryd.func37, Tryd.ntmps37
    have c1 : Calls Tryd.prog 51 #[.slice (some ⟨g, 0, none⟩) n cap, .int .i64 ((a : Int) + ((b : Int) - (a : Int)) / 4), .int .i64 ((a : Int) + ((b : Int) - (a : Int)) / 4 * 2), .int .i64 ((a : Int) + ((b : Int) - (a : Int)) / 4 * 3), .pointer (some ⟨w.heap.size, 0, none⟩)] (w.alloc (.cells #[.int .i64 0] 3)) fun r w' => ∃ u : Nat, r = .returned (.int .i64 (u : Int)) ∧ (u = i0 ∨ u = j0 ∨ u = k0) ∧ ∃ c', CP (w.alloc (.cells #[.int .i64 0] 3)) g n w.heap.size d (0 + 3) w' c' := by
      rw [HE.out.1, HE.out.2.1, HE.out.2.2]; exact med_at HD.out.1 HD.out.2 i0 j0 k0 (by have := HB.out; omega) (by have := HB.out; omega) (by have := HB.out; omega) hn (by omega)
    have H1 := Lib.hid c1
    clear c1
    go_wp2_with fail
    refine H1.out.mono ?_
    rintro r w9 ⟨u, rfl, hu, c9, hp9⟩
    have HP9 := Lib.hid hp9
    have HU := Lib.hid hu
    have cs := hp9.cnt.cell
    have hub : a ≤ u ∧ u < b := by have := HB.out; omega
    clear hp9 hu H1
    by_cases h0 : c9 = 0
    · subst h0
      go_wp2
      go_ret2
      exact ⟨u, 1, rfl, hub, .inr (.inl rfl), HP9.out.at_, HG0.out _ HP9.out.but⟩
    · have hb0 : ((c9 : Int) == 0) = false := beq_eq_false_iff_ne.2 (by omega)
      have hb0' : (c9 == 0) = false := beq_eq_false_iff_ne.2 h0
      by_cases h12 : c9 = 12
      · subst h12
        go_wp2
        go_ret2
        exact ⟨u, 2, rfl, hub, .inr (.inr rfl), HP9.out.at_, HG0.out _ HP9.out.but⟩
      · have hb12 : ((c9 : Int) == 12) = false := beq_eq_false_iff_ne.2 (by omega)
        have hb12' : (c9 == 12) = false := beq_eq_false_iff_ne.2 h12
        go_wp2
        go_ret2
        exact ⟨u, 0, rfl, hub, .inl rfl, HP9.out.at_, HG0.out _ HP9.out.but⟩
end
end Go.Proofs.YtnhjnciadmgkeaaDoor
