/-
  The library's sort: what holds between two rounds. No function is walked here.
-/
import Derived.Test.YtnhjnciadmgkeaaDoorSPins
import Derived.Test.YtnhjnciadmgkeaaDoorSPiv2
import Derived.Test.YtnhjnciadmgkeaaDoorSBrk
namespace Go.Proofs.YtnhjnciadmgkeaaDoor
open Go.ChangeShapes Go.WideShapes Go.ChangeAt Go.RowKit
set_option linter.unusedVariables false

/-- all stand right but for those from a to b among each other -/
def GG (a0 b0 a b : Nat) (d : Nat → Int) : Prop := ∀ i j, a0 ≤ i → i < j → j < b0 → ¬ (a ≤ i ∧ j < b) → d i ≤ d j
theorem GG.pr {a0 b0 a b : Nat} {d d' : Nat → Int} (h : GG a0 b0 a b d) (hp : PR a b d d') (ha : a0 ≤ a) (hb : b ≤ b0) : GG a0 b0 a b d' := by
  intro i j h1 h2 h3 h4
  by_cases hi : a ≤ i ∧ i < b
  · -- j is not within
    have hj : ¬ (a ≤ j ∧ j < b) := fun e => h4 ⟨hi.1, e.2⟩
    rw [hp.out hj]
    exact hp.all (P := fun x => x ≤ d j) (fun k k1 k2 => h k j (by omega) (by omega) h3 (by omega)) i hi.1 hi.2
  · rw [hp.out hi]
    by_cases hj : a ≤ j ∧ j < b
    · exact hp.all (P := fun x => d i ≤ x) (fun k k1 k2 => h i k h1 (by omega) (by omega) (by omega)) j hj.1 hj.2
    · rw [hp.out hj]; exact h i j h1 h2 h3 h4
structure PS (w : World) (g n a0 b0 : Nat) (d : Nat → Int) (a b : Nat) (W : World) (D : Nat → Int) : Prop where
  sp : SP w g n a0 b0 d W D
  gg : GG a0 b0 a b D
  ah : Ahead a0 b0 D
  ha : a0 ≤ a
  hab : a ≤ b
  hb : b ≤ b0
section
variable {w W W' : World} {g n a0 b0 a b m : Nat} {d D D' D2 : Nat → Int}
theorem PS.step (h : PS w g n a0 b0 d a b W D) (hs : SP W g n a b D W' D') : PS w g n a0 b0 d a b W' D' :=
  ⟨⟨hs.at_, h.sp.pr.trans (hs.pr.wide h.ha h.hb), h.sp.sw.trans hs.sw⟩, h.gg.pr hs.pr h.ha h.hb, h.ah.pr (hs.pr.wide h.ha h.hb), h.ha, h.hab, h.hb⟩
theorem PS.ahead (h : PS w g n a0 b0 d a b W D) : Ahead a b D := fun h0 k h1 h2 => by
  have ha := h.ha
  have hb := h.hb
  by_cases e : a = a0
  · subst e; exact h.ah h0 k h1 (by omega)
  · exact h.gg (a - 1) k (by omega) (by omega) (by omega) (by omega)
theorem PS.fin (h : PS w g n a0 b0 d a b W D) (hs : SP W g n a b D W' D') (hS : Srt a b D') : SP w g n a0 b0 d W' D' ∧ Srt a0 b0 D' := by
  have h2 := h.step hs
  refine ⟨h2.sp, fun i j h1 h3 h4 => ?_⟩
  by_cases e : i = j
  · rw [e]; exact Int.le_refl _
  · by_cases hin : a ≤ i ∧ j < b
    · exact hS i j hin.1 h3 hin.2
    · exact h2.gg i j h1 (by omega) h4 hin
theorem PS.same (h : PS w g n a0 b0 d a b W D) (hs : Srt a b D) : SP w g n a0 b0 d W D ∧ Srt a0 b0 D := h.fin ⟨h.sp.at_, .refl, But.refl _ _⟩ hs
theorem PS.drewN (h : PS w g n a0 b0 d a b W D) (q : Nat) : PS w g n a0 b0 d a b (W.drewN q) D := ⟨h.sp.drewN q, h.gg, h.ah, h.ha, h.hab, h.hb⟩
theorem PS.grown (h : PS w g n a0 b0 d a b W D) (hd : DAt W' g n D) (hg : W.grownBy W' none) : PS w g n a0 b0 d a b W' D := ⟨⟨hd, h.sp.pr, h.sp.sw.trans (But.of_new hg)⟩, h.gg, h.ah, h.ha, h.hab, h.hb⟩
theorem PS.equal (h : PS w g n a0 b0 d a b W D) (hs : SP W g n a b D W' D') {p : Nat} (h0 : 0 < a) (hp : D p ≤ D (a - 1)) (ham : a < m) (hmb : m ≤ b) (hl : ∀ k, a ≤ k → k < m → D' k ≤ D p) : PS w g n a0 b0 d m b W' D' := by
  have h2 := h.step hs
  have ha := h.ha
  have hb := h.hb
  refine ⟨h2.sp, fun i j h3 h4 h5 h6 => ?_, h2.ah, by omega, hmb, h.hb⟩
  by_cases hin : a ≤ i ∧ j < b
  · have e1 := hl i hin.1 (by omega)
    have e2 := h2.ahead h0 j (by omega) hin.2
    rw [hs.pr.out (k := a - 1) (by omega)] at e2
    omega
  · exact h2.gg i j h3 h4 h5 hin
theorem Parted.aheadL (hp : Parted a b m D) (h : Ahead a b D) : Ahead a m D := fun h0 k h1 h2 => h h0 k h1 (by have := hp.mb; omega)
theorem Parted.aheadR (hp : Parted a b m D) : Ahead (m + 1) b D := fun _ k h1 h2 => by rw [Nat.add_sub_cancel]; exact hp.right k (by omega) h2
theorem PS.left (h : PS w g n a0 b0 d a b W D) (hp : Parted a b m D) (hs : SP W g n a m D W' D') (hS : Srt a m D') : PS w g n a0 b0 d (m + 1) b W' D' := by
  have am := hp.am
  have mb := hp.mb
  have h2 := h.step (W' := W') (D' := D') ⟨hs.at_, hs.pr.wide (Nat.le_refl _) (by omega), hs.sw⟩
  have ha := h.ha
  have hb := h.hb
  have hl : ∀ k, a ≤ k → k < m → D' k < D m := hs.pr.all (P := fun x => x < D m) hp.left
  have hm : D' m = D m := hs.pr.out (by omega)
  have hr : ∀ k, m < k → k < b → D m ≤ D' k := fun k h1 h3 => by rw [hs.pr.out (by omega)]; exact hp.right k h1 h3
  refine ⟨h2.sp, fun i j h3 h4 h5 h6 => ?_, h2.ah, by omega, by omega, h.hb⟩
  by_cases hin : a ≤ i ∧ j < b
  · by_cases hj : j < m
    · exact hS i j hin.1 (by omega) hj
    · by_cases hi : i < m
      · have e1 := hl i hin.1 hi
        by_cases hjm : j = m
        · rw [hjm, hm]; omega
        · have := hr j (by omega) hin.2; omega
      · by_cases him : i = m
        · rw [him, hm]; exact hr j (by omega) hin.2
        · exfalso; exact h6 ⟨by omega, hin.2⟩
  · exact h2.gg i j h3 h4 h5 hin
theorem PS.right (h : PS w g n a0 b0 d a b W D) (hp : Parted a b m D) (hs : SP W g n (m + 1) b D W' D') (hS : Srt (m + 1) b D') : PS w g n a0 b0 d a m W' D' := by
  have am := hp.am
  have mb := hp.mb
  have h2 := h.step (W' := W') (D' := D') ⟨hs.at_, hs.pr.wide (by omega) (Nat.le_refl _), hs.sw⟩
  have ha := h.ha
  have hb := h.hb
  have hr : ∀ k, m + 1 ≤ k → k < b → D m ≤ D' k := hs.pr.all (P := fun x => D m ≤ x) fun k h1 h3 => hp.right k (by omega) h3
  have hm : D' m = D m := hs.pr.out (by omega)
  have hl : ∀ k, a ≤ k → k < m → D' k < D m := fun k h1 h3 => by rw [hs.pr.out (by omega)]; exact hp.left k h1 h3
  refine ⟨h2.sp, fun i j h3 h4 h5 h6 => ?_, h2.ah, h.ha, am, by omega⟩
  by_cases hin : a ≤ i ∧ j < b
  · by_cases hi : m < i
    · exact hS i j (by omega) (by omega) hin.2
    · by_cases hj : m < j
      · have e1 := hr j (by omega) hin.2
        by_cases him : i = m
        · rw [him, hm]; exact e1
        · have := hl i hin.1 (by omega); omega
      · by_cases hjm : j = m
        · rw [hjm, hm]; have := hl i hin.1 (by omega); omega
        · exfalso; exact h6 ⟨hin.1, by omega⟩
  · exact h2.gg i j h3 h4 h5 hin
end
end Go.Proofs.YtnhjnciadmgkeaaDoor
