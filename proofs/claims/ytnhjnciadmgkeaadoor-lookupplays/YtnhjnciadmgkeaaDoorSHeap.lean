/-
  The library's sort: a range turned about; the sort by a heap.
-/
import Derived.Test.YtnhjnciadmgkeaaDoorSIns
namespace Go.Proofs.YtnhjnciadmgkeaaDoor
open Go.ChangeShapes Go.WideShapes Go.ChangeAt Go.RowKit
set_option linter.unusedVariables false

section
variable {w : World} {g n cap : Nat} {d : Nat → Int}
set_option maxHeartbeats 1000000 in
theorem rev_at (h : DAt w g n d) (a b : Nat) (hab : a ≤ b) (hbn : b ≤ n) (hn : n ≤ 1000000) :
    Calls Tryd.prog 38 #[.slice (some ⟨g, 0, none⟩) n cap, .int .i64 (a : Int), .int .i64 (b : Int)] w fun r w' => r = .returned (.tuple #[]) ∧ ∃ d', SP w g n a b d w' d' := by
  have HP : Hid (SP w g n a b d w d) := Lib.hid ⟨h, .refl, But.refl _ _⟩
  clear h
  go_enter Tryd.func38, Tryd.ntmps38
  go_wp2_with fail
  go_loopg [6, 7] b (fun m v u wr => ∃ (i : Nat) (jj : Int) (d' : Nat → Int), v = .int .i64 (i : Int) ∧ u = .int .i64 jj ∧ a ≤ i ∧ i ≤ n ∧ jj < (b : Int) ∧ -1 ≤ jj ∧ (m : Int) = jj + 1 ∧ Hid (SP w g n a b d wr d'))
  case atStart => exact ⟨a, (b : Int) - 1, d, by go_num, by go_num, by omega, by omega, by omega, by omega, by omega, HP⟩
  case round =>
    obtain ⟨i, jj, d1, rfl, rfl, hai, hin, hjb, hj0, hm, HL⟩ := hrel
    clear HP
    by_cases hlt : (i : Int) < jj
    · obtain ⟨j, rfl⟩ := Int.eq_ofNat_of_zero_le (show 0 ≤ jj by omega)
      have ix1 := ix34 g i n cap (by omega)
      have ix2 := ix34 g j n cap (by omega)
      have c1 := HL.out.at_.cell (i := i) (by omega)
      have c2 := HL.out.at_.cell (i := j) (by omega)
      have f1 := HL.out.at_.free i
      have f2 := HL.out.at_.free j
      have hne : ¬ (j = i) := by omega
      have hne2 : ¬ (i = j) := by omega
      go_wp2_with fail
      go_region
      go_wp2_with fail
      go_roundg j
      case measure => omega
      case rel => exact ⟨i + 1, (j : Int) - 1, sw d1 i j, by go_num, by go_num, by omega, by omega, by omega, by omega, by omega, Lib.hid ((HL.out.swap (by omega) (by omega) (by omega) (by omega)).drewN 1)⟩
    · go_wp2_with fail
      go_end0
      exact ⟨rfl, d1, HL.out⟩
end

/-! ### heaps -/
/-- from lo on, each is at least as great as its two children -/
def Hp (d : Nat → Int) (f lo hi : Nat) : Prop := ∀ i c, lo ≤ i → (c = 2 * i + 1 ∨ c = 2 * i + 2) → c < hi → d (f + c) ≤ d (f + i)
/-- so but for the place r, which is to go down -/
structure HpBut (d : Nat → Int) (f lo hi r : Nat) : Prop where
  rest : ∀ i c, lo ≤ i → i ≠ r → (c = 2 * i + 1 ∨ c = 2 * i + 2) → c < hi → d (f + c) ≤ d (f + i)
  over : ∀ i c, lo ≤ i → (r = 2 * i + 1 ∨ r = 2 * i + 2) → (c = 2 * r + 1 ∨ c = 2 * r + 2) → c < hi → d (f + c) ≤ d (f + i)
theorem HpBut.start {d : Nat → Int} {f lo hi : Nat} (h : Hp d f (lo + 1) hi) : HpBut d f lo hi lo :=
  ⟨fun i c h1 h2 h3 h4 => h i c (by omega) h3 h4, fun i c h1 h2 h3 h4 => by omega⟩
theorem HpBut.done {d : Nat → Int} {f lo hi r : Nat} (h : HpBut d f lo hi r) (hr : ∀ c, (c = 2 * r + 1 ∨ c = 2 * r + 2) → c < hi → d (f + c) ≤ d (f + r)) : Hp d f lo hi := fun i c h1 h2 h3 => by
  by_cases hi : i = r
  · subst hi; exact hr c h2 h3
  · exact h.rest i c h1 hi h2 h3
theorem HpBut.step {d : Nat → Int} {f lo hi r c : Nat} (h : HpBut d f lo hi r) (hlo : lo ≤ r) (hc : c = 2 * r + 1 ∨ c = 2 * r + 2) (hch : c < hi) (hl : d (f + r) < d (f + c))
    (hbig : ∀ c', (c' = 2 * r + 1 ∨ c' = 2 * r + 2) → c' < hi → d (f + c') ≤ d (f + c)) : HpBut (sw d (f + r) (f + c)) f lo hi c := by
  have hne : f + c ≠ f + r := by omega
  have e1 : sw d (f + r) (f + c) (f + c) = d (f + r) := by simp [sw]
  have e2 : sw d (f + r) (f + c) (f + r) = d (f + c) := by simp [sw]; intro h; omega
  have e3 : ∀ x, x ≠ c → x ≠ r → sw d (f + r) (f + c) (f + x) = d (f + x) := fun x h1 h2 => by
    simp only [sw]; rw [if_neg (by omega), if_neg (by omega)]
  refine ⟨fun i k h1 h2 h3 h4 => ?_, fun i k h1 h2 h3 h4 => ?_⟩
  · by_cases hir : i = r
    · subst hir
      rw [e2]
      by_cases hk : k = c
      · subst hk; rw [e1]; omega
      · rw [e3 k hk (by omega)]; exact hbig k h3 h4
    · rw [e3 i h2 hir]
      by_cases hk : k = r
      · subst hk; rw [e2]; exact h.over i c h1 h3 hc hch
      · by_cases hkc : k = c
        · exfalso; omega
        · rw [e3 k hkc hk]; exact h.rest i k h1 hir h3 h4
  · obtain rfl : i = r := by omega
    rw [e2, e3 k (by omega) (by omega)]
    exact h.rest c k (by omega) (by omega) h3 h4
/-- the first one is the greatest -/
theorem Hp.top {d : Nat → Int} {f hi : Nat} (h : Hp d f 0 hi) : ∀ k, k < hi → d (f + k) ≤ d (f + 0) := by
  intro k
  induction k using Nat.strongRecOn with
  | _ k ih =>
    intro hk
    by_cases h0 : k = 0
    · subst h0; exact Int.le_refl _
    · have h1 := h ((k - 1) / 2) k (Nat.zero_le _) (by omega) hk
      exact Int.le_trans h1 (ih _ (by omega) (by omega))
section
variable {w : World} {g n cap : Nat} {d : Nat → Int}
set_option maxHeartbeats 2000000 in
theorem sift_at (h : DAt w g n d) (f lo hi : Nat) (hlo : lo ≤ n) (hfn : f + hi ≤ n) (hn : n ≤ 1000000) (hh : Hp d f (lo + 1) hi) :
    Calls Tryd.prog 47 #[.slice (some ⟨g, 0, none⟩) n cap, .int .i64 (lo : Int), .int .i64 (hi : Int), .int .i64 (f : Int)] w fun r w' => r = .returned (.tuple #[]) ∧ ∃ d', SP w g n f (f + hi) d w' d' ∧ Hp d' f lo hi := by
  have HP : Hid (SP w g n f (f + hi) d w d ∧ HpBut d f lo hi lo) := Lib.hid ⟨⟨h, .refl, But.refl _ _⟩, HpBut.start hh⟩
  clear h hh
  go_enter Tryd.func47, Tryd.ntmps47
  go_wp2_with fail
  go_loopg [8] (n + hi + 1 - lo) (fun m v wr => ∃ (r : Nat) (d' : Nat → Int), v = .int .i64 (r : Int) ∧ lo ≤ r ∧ r ≤ n ∧ m + r = n + hi + 1 ∧ Hid (SP w g n f (f + hi) d wr d' ∧ HpBut d' f lo hi r))
  case atStart => exact ⟨lo, d, by go_num, by omega, by omega, by omega, HP⟩
  case round =>
    obtain ⟨r, d1, rfl, hlr, hrn, hm, HL⟩ := hrel
    clear HP
    by_cases h1 : hi ≤ 2 * r + 1
    · go_wp2_with fail
      go_end0
      exact ⟨rfl, d1, HL.out.1, HL.out.2.done fun c hc hc2 => by omega⟩
    · obtain ⟨c1, hc1⟩ : ∃ c1, c1 = 2 * r + 1 := ⟨_, rfl⟩
      obtain ⟨c2, hc2⟩ : ∃ c2, c2 = 2 * r + 2 := ⟨_, rfl⟩
      obtain ⟨R, hR⟩ : ∃ R, R = f + r := ⟨_, rfl⟩
      obtain ⟨P1, hP1⟩ : ∃ P1, P1 = f + c1 := ⟨_, rfl⟩
      obtain ⟨P2, hP2⟩ : ∃ P2, P2 = f + c2 := ⟨_, rfl⟩
      have e1 : 2 * (r : Int) + 1 = (c1 : Int) := by omega
      have e2 : (c1 : Int) + 1 = (c2 : Int) := by omega
      have e3 : (f : Int) + (r : Int) = (R : Int) := by omega
      have e4 : (f : Int) + (c1 : Int) = (P1 : Int) := by omega
      have e5 : (f : Int) + (c2 : Int) = (P2 : Int) := by omega
      have e6 : (P1 : Int) + 1 = (P2 : Int) := by omega
      have hlt1 : c1 < hi := by omega
      have bR : R < n := by omega
      have w1 : IntKind.i64.wrap (c1 : Int) = (c1 : Int) := by rw [IntKind.wrap_i64]; omega
      have w2 : IntKind.i64.wrap (c2 : Int) = (c2 : Int) := by rw [IntKind.wrap_i64]; omega
      have w3 : IntKind.i64.wrap (R : Int) = (R : Int) := by rw [IntKind.wrap_i64]; omega
      have w4 : IntKind.i64.wrap (P1 : Int) = (P1 : Int) := by rw [IntKind.wrap_i64]; omega
      have w5' : IntKind.i64.wrap (P2 : Int) = (P2 : Int) := by rw [IntKind.wrap_i64]; omega
      have HE : Hid (c1 = 2 * r + 1 ∧ c2 = 2 * r + 2 ∧ R = f + r ∧ P1 = f + c1 ∧ P2 = f + c2 ∧ c1 < hi) := Lib.hid ⟨hc1, hc2, hR, hP1, hP2, hlt1⟩
      have ixR := ix34 g R n cap bR
      have ix1 := ix34 g P1 n cap (by omega)
      have cc1 := HL.out.1.at_.cell (i := P1) (by omega)
      clear hc1 hc2 hR hP1 hP2 h1
      by_cases hc : c2 < hi
      · have ix2 := ix34 g P2 n cap (by have := HE.out; omega)
        have cc2 := HL.out.1.at_.cell (i := P2) (by have := HE.out; omega)
        have hcb : decide ((c2 : Int) < (hi : Int)) = true := by simp; omega
        by_cases hl : d1 P1 < d1 P2
        · have hlb : decide (d1 P1 < d1 P2) = true := by simpa using hl
          go_wp2_with fail
          go_quiet ((go_at_call 40; exact quiet_same (less_any _ _ _)))
          have HL4 : Hid (SP w g n f (f + hi) d (wr.drewN nq) d1 ∧ HpBut d1 f lo hi r) := Lib.hid ⟨HL.out.1.drewN nq, HL.out.2⟩
          clear HL cc1 cc2
          generalize wr.drewN nq = w4' at *
          have HB : Hid (∀ c', (c' = 2 * r + 1 ∨ c' = 2 * r + 2) → c' < hi → d1 (f + c') ≤ d1 (f + c2)) := Lib.hid (by intro c' h3 h4; have hE := HE.out; rw [← hE.2.2.2.2.1]; rcases h3 with h3 | h3; (rw [h3, ← hE.1, ← hE.2.2.2.1]; omega); (rw [h3, ← hE.2.1, ← hE.2.2.2.2.1]; exact Int.le_refl _))
          have cR := HL4.out.1.at_.cell (i := R) (by have := HE.out; omega)
          have cC := HL4.out.1.at_.cell (i := P2) (by have := HE.out; omega)
          go_wp2_with fail
          by_cases hl2 : d1 R < d1 P2
          · have hlb2 : decide (d1 R < d1 P2) = true := by simpa using hl2
            go_quiet ((go_at_call 40; exact quiet_same (less_any _ _ _)))
            have HL5 : Hid (SP w g n f (f + hi) d (w4'.drewN nq) d1 ∧ HpBut d1 f lo hi r) := Lib.hid ⟨HL4.out.1.drewN nq, HL4.out.2⟩
            clear HL4 cR cC
            generalize w4'.drewN nq = w5 at *
            have cR := HL5.out.1.at_.cell (i := R) (by have := HE.out; omega)
            have cC := HL5.out.1.at_.cell (i := P2) (by have := HE.out; omega)
            have fR := HL5.out.1.at_.free R
            have fC := HL5.out.1.at_.free P2
            have hne : ¬ (P2 = R) := by have := HE.out; omega
            have hne2 : ¬ (R = P2) := by have := HE.out; omega
            go_wp2_with fail
            go_region
            go_wp2_with fail
            go_roundg (n + hi + 1 - c2)
            case measure => have := HE.out; omega
            case rel =>
              have hE := HE.out
              refine ⟨c2, sw d1 R P2, by first | rfl | go_num, by omega, by omega, by omega, Lib.hid ⟨(HL5.out.1.swap (by omega) (by omega) (by omega) (by omega)).drewN 1, ?_⟩⟩
              have hs := HL5.out.2.step (c := c2) hlr (by omega) (by omega) (by rw [← hE.2.2.1, ← hE.2.2.2.2.1]; exact hl2) HB.out
              rw [← hE.2.2.1, ← hE.2.2.2.2.1] at hs
              exact hs
          · have hlb2 : decide (d1 R < d1 P2) = false := by simpa using hl2
            go_quiet ((go_at_call 40; exact quiet_same (less_any _ _ _)))
            have HL5 : Hid (SP w g n f (f + hi) d (w4'.drewN nq) d1 ∧ HpBut d1 f lo hi r) := Lib.hid ⟨HL4.out.1.drewN nq, HL4.out.2⟩
            clear HL4 cR cC
            generalize w4'.drewN nq = w5 at *
            go_wp2_with fail
            first | go_end0 | refine bodyPost_ret (results_none rfl _ _ _) rfl ?_
            refine ⟨rfl, d1, HL5.out.1, HL5.out.2.done fun c' hc hc2 => ?_⟩
            have hE := HE.out
            have hb := HB.out c' hc hc2
            rw [← hE.2.2.2.2.1] at hb
            rw [← hE.2.2.1]
            omega
        · have hlb : decide (d1 P1 < d1 P2) = false := by simpa using hl
          go_wp2_with fail
          go_quiet ((go_at_call 40; exact quiet_same (less_any _ _ _)))
          have HL4 : Hid (SP w g n f (f + hi) d (wr.drewN nq) d1 ∧ HpBut d1 f lo hi r) := Lib.hid ⟨HL.out.1.drewN nq, HL.out.2⟩
          clear HL cc1 cc2
          generalize wr.drewN nq = w4' at *
          have HB : Hid (∀ c', (c' = 2 * r + 1 ∨ c' = 2 * r + 2) → c' < hi → d1 (f + c') ≤ d1 (f + c1)) := Lib.hid (by intro c' h3 h4; have hE := HE.out; rw [← hE.2.2.2.1]; rcases h3 with h3 | h3; (rw [h3, ← hE.1, ← hE.2.2.2.1]; exact Int.le_refl _); (rw [h3, ← hE.2.1, ← hE.2.2.2.2.1]; omega))
          have cR := HL4.out.1.at_.cell (i := R) (by have := HE.out; omega)
          have cC := HL4.out.1.at_.cell (i := P1) (by have := HE.out; omega)
          go_wp2_with fail
          by_cases hl2 : d1 R < d1 P1
          · have hlb2 : decide (d1 R < d1 P1) = true := by simpa using hl2
            go_quiet ((go_at_call 40; exact quiet_same (less_any _ _ _)))
            have HL5 : Hid (SP w g n f (f + hi) d (w4'.drewN nq) d1 ∧ HpBut d1 f lo hi r) := Lib.hid ⟨HL4.out.1.drewN nq, HL4.out.2⟩
            clear HL4 cR cC
            generalize w4'.drewN nq = w5 at *
            have cR := HL5.out.1.at_.cell (i := R) (by have := HE.out; omega)
            have cC := HL5.out.1.at_.cell (i := P1) (by have := HE.out; omega)
            have fR := HL5.out.1.at_.free R
            have fC := HL5.out.1.at_.free P1
            have hne : ¬ (P1 = R) := by have := HE.out; omega
            have hne2 : ¬ (R = P1) := by have := HE.out; omega
            go_wp2_with fail
            go_region
            go_wp2_with fail
            go_roundg (n + hi + 1 - c1)
            case measure => have := HE.out; omega
            case rel =>
              have hE := HE.out
              refine ⟨c1, sw d1 R P1, by first | rfl | go_num, by omega, by omega, by omega, Lib.hid ⟨(HL5.out.1.swap (by omega) (by omega) (by omega) (by omega)).drewN 1, ?_⟩⟩
              have hs := HL5.out.2.step (c := c1) hlr (by omega) (by omega) (by rw [← hE.2.2.1, ← hE.2.2.2.1]; exact hl2) HB.out
              rw [← hE.2.2.1, ← hE.2.2.2.1] at hs
              exact hs
          · have hlb2 : decide (d1 R < d1 P1) = false := by simpa using hl2
            go_quiet ((go_at_call 40; exact quiet_same (less_any _ _ _)))
            have HL5 : Hid (SP w g n f (f + hi) d (w4'.drewN nq) d1 ∧ HpBut d1 f lo hi r) := Lib.hid ⟨HL4.out.1.drewN nq, HL4.out.2⟩
            clear HL4 cR cC
            generalize w4'.drewN nq = w5 at *
            go_wp2_with fail
            first | go_end0 | refine bodyPost_ret (results_none rfl _ _ _) rfl ?_
            refine ⟨rfl, d1, HL5.out.1, HL5.out.2.done fun c' hc hc2 => ?_⟩
            have hE := HE.out
            have hb := HB.out c' hc hc2
            rw [← hE.2.2.2.1] at hb
            rw [← hE.2.2.1]
            omega
      · have hcb : decide ((c2 : Int) < (hi : Int)) = false := by simp; omega
        go_wp2_with fail
        go_quiet (fail)
        have HL4 : Hid (SP w g n f (f + hi) d (wr.drewN nq) d1 ∧ HpBut d1 f lo hi r) := Lib.hid ⟨HL.out.1.drewN nq, HL.out.2⟩
        clear HL cc1
        generalize wr.drewN nq = w4' at *
        have HB : Hid (∀ c', (c' = 2 * r + 1 ∨ c' = 2 * r + 2) → c' < hi → d1 (f + c') ≤ d1 (f + c1)) := Lib.hid (by intro c' h3 h4; have hE := HE.out; rw [← hE.2.2.2.1]; rcases h3 with h3 | h3; (rw [h3, ← hE.1, ← hE.2.2.2.1]; exact Int.le_refl _); omega)
        have cR := HL4.out.1.at_.cell (i := R) (by have := HE.out; omega)
        have cC := HL4.out.1.at_.cell (i := P1) (by have := HE.out; omega)
        go_wp2_with fail
        by_cases hl2 : d1 R < d1 P1
        · have hlb2 : decide (d1 R < d1 P1) = true := by simpa using hl2
          go_quiet ((go_at_call 40; exact quiet_same (less_any _ _ _)))
          have HL5 : Hid (SP w g n f (f + hi) d (w4'.drewN nq) d1 ∧ HpBut d1 f lo hi r) := Lib.hid ⟨HL4.out.1.drewN nq, HL4.out.2⟩
          clear HL4 cR cC
          generalize w4'.drewN nq = w5 at *
          have cR := HL5.out.1.at_.cell (i := R) (by have := HE.out; omega)
          have cC := HL5.out.1.at_.cell (i := P1) (by have := HE.out; omega)
          have fR := HL5.out.1.at_.free R
          have fC := HL5.out.1.at_.free P1
          have hne : ¬ (P1 = R) := by have := HE.out; omega
          have hne2 : ¬ (R = P1) := by have := HE.out; omega
          go_wp2_with fail
          go_region
          go_wp2_with fail
          go_roundg (n + hi + 1 - c1)
          case measure => have := HE.out; omega
          case rel =>
            have hE := HE.out
            refine ⟨c1, sw d1 R P1, by first | rfl | go_num, by omega, by omega, by omega, Lib.hid ⟨(HL5.out.1.swap (by omega) (by omega) (by omega) (by omega)).drewN 1, ?_⟩⟩
            have hs := HL5.out.2.step (c := c1) hlr (by omega) (by omega) (by rw [← hE.2.2.1, ← hE.2.2.2.1]; exact hl2) HB.out
            rw [← hE.2.2.1, ← hE.2.2.2.1] at hs
            exact hs
        · have hlb2 : decide (d1 R < d1 P1) = false := by simpa using hl2
          go_quiet ((go_at_call 40; exact quiet_same (less_any _ _ _)))
          have HL5 : Hid (SP w g n f (f + hi) d (w4'.drewN nq) d1 ∧ HpBut d1 f lo hi r) := Lib.hid ⟨HL4.out.1.drewN nq, HL4.out.2⟩
          clear HL4 cR cC
          generalize w4'.drewN nq = w5 at *
          go_wp2_with fail
          first | go_end0 | refine bodyPost_ret (results_none rfl _ _ _) rfl ?_
          refine ⟨rfl, d1, HL5.out.1, HL5.out.2.done fun c' hc hc2 => ?_⟩
          have hE := HE.out
          have hb := HB.out c' hc hc2
          rw [← hE.2.2.2.1] at hb
          rw [← hE.2.2.1]
          omega
end
end Go.Proofs.YtnhjnciadmgkeaaDoor
