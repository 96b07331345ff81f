/-
  What was put is found, however many there are: the law's own loops.
-/
import Derived.Test.YtnhjnciadmgkeaaDoorNilLaw
namespace Go.Proofs.YtnhjnciadmgkeaaDoor
open Go.ChangeShapes Go.WideShapes Go.ChangeAt Go.RowKit
set_option linter.unusedVariables false

/-- the i-th key -/
def keyAt (f b : Int) (i : Nat) : Int := IntKind.u64.wrap (f + IntKind.u64.wrap (b * (i : Int)))
theorem keyAt_wd (f b : Int) (i : Nat) : Wd (keyAt f b i) := by unfold keyAt Wd; rw [IntKind.wrap_u64]; omega
theorem odd_dvd (b : Int) (hb : b % 2 = 1) : ∀ (k : Nat) (d : Int), b * d % 2 ^ k = 0 → d % 2 ^ k = 0
  | 0, d, _ => by simp [Int.emod_one]
  | k + 1, d, h => by
    have hp : (2 : Int) ^ (k + 1) = 2 ^ k * 2 := Int.pow_succ 2 k
    have h2 : b * d % 2 = 0 := by
      have h3 := Int.emod_emod_of_dvd (b * d) (show (2 : Int) ∣ 2 ^ (k + 1) by rw [hp]; exact Int.dvd_mul_left _ _)
      rw [h] at h3
      simpa using h3.symm
    have hd : d % 2 = 0 := by
      rw [Int.mul_emod, hb] at h2
      have : d % 2 = 0 ∨ d % 2 = 1 := by omega
      rcases this with h3 | h3
      · exact h3
      · rw [h3] at h2; simp at h2
    obtain ⟨e, rfl⟩ : ∃ e, d = e * 2 := ⟨d / 2, by omega⟩
    have h4 : b * e % 2 ^ k = 0 := by
      rw [← Int.mul_assoc, hp, Int.mul_comm (b * e) 2, Int.mul_comm (2 ^ k) 2, Int.mul_emod_mul_of_pos _ _ (by decide)] at h
      omega
    have h5 := odd_dvd b hb k e h4
    rw [hp, Int.mul_comm e 2, Int.mul_comm (2 ^ k) 2, Int.mul_emod_mul_of_pos _ _ (by decide), h5]; rfl
theorem keyAt_inj {f b : Int} (hb : b % 2 = 1) {i j : Nat} (hi : i < 700) (hj : j < 700) (h : keyAt f b i = keyAt f b j) : i = j := by
  unfold keyAt at h
  simp only [IntKind.wrap_u64] at h
  have h1 : b * ((i : Int) - (j : Int)) % 2 ^ 64 = 0 := by
    rw [Int.mul_sub]
    rw [show (2 : Int) ^ 64 = 18446744073709551616 by decide]
    generalize b * (i : Int) = x at *
    generalize b * (j : Int) = y at *
    omega
  have h2 := odd_dvd b hb 64 _ h1
  rw [show (2 : Int) ^ 64 = 18446744073709551616 by decide] at h2
  omega

/-- behind i Puts -/
structure ML (od : Bool) (f b : Int) (i : Nat) (T : Tb) : Prop where
  le : T.cnt ≤ i
  mv : T.mv ≤ 4 * i
  cnt : od = true → T.cnt = i
  has : od = true → ∀ j, j < i → T.look (keyAt f b j) = some (j : Int)
  non : od = true → ∀ k2, Wd k2 → (∀ j, j < i → keyAt f b j ≠ k2) → T.look k2 = none
theorem ML.step {od : Bool} {f b : Int} {i : Nat} {T T' : Tb} (h : ML od f b i T) (hod : od = true → b % 2 = 1) (hi : i < 700) (hp : PutRel T (keyAt f b i) (i : Int) T') : ML od f b (i + 1) T' := by
  have hne : od = true → ∀ j, j < i → keyAt f b j ≠ keyAt f b i := fun ho j hj e => by have := keyAt_inj (hod ho) (by omega) hi e; omega
  have hn : od = true → T.look (keyAt f b i) = none := fun ho => h.non ho _ (keyAt_wd _ _ _) (hne ho)
  refine ⟨?_, ?_, fun ho => ?_, fun ho j hj => ?_, fun ho k2 hk2 hall => ?_⟩
  · have := hp.cnt; have := h.le; split at * <;> omega
  · have := hp.mv4; have := h.mv; omega
  · have h1 := hp.cnt
    rw [hn ho] at h1
    have := h.cnt ho
    simp at h1
    omega
  · rw [hp.look _ (keyAt_wd _ _ _)]
    by_cases hji : j = i
    · subst hji; rw [if_pos rfl]
    · rw [if_neg (hne ho j (by omega))]; exact h.has ho j (by omega)
  · rw [hp.look _ hk2, if_neg (fun e => hall i (by omega) e.symm)]
    exact h.non ho k2 hk2 fun j hj => hall j (by omega)
/-- behind q Drops -/
structure DL (od : Bool) (f b : Int) (n e q : Nat) (T : Tb) : Prop where
  le : T.cnt ≤ n
  mv : T.mv ≤ 4 * (n + q)
  has : od = true → ∀ j, j < n → T.look (keyAt f b j) = if j % e = 0 ∧ j < q * e then none else some (j : Int)
theorem DL.step {od : Bool} {f b : Int} {n e q : Nat} {T T' : Tb} (h : DL od f b n e q T) (hod : od = true → b % 2 = 1) (hn : n ≤ 700) (he : 2 ≤ e) (hq : q * e < n) (hp : DropRel T (keyAt f b (q * e)) T') : DL od f b n e (q + 1) T' := by
  refine ⟨?_, ?_, fun ho j hj => ?_⟩
  · have := hp.cnt; have := h.le; omega
  · have := hp.mv4; have := h.mv; omega
  · rw [hp.look _ (keyAt_wd _ _ _)]
    have e1 : (q + 1) * e = q * e + e := by rw [Nat.add_mul, Nat.one_mul]
    by_cases hje : j = q * e
    · subst hje
      rw [if_pos rfl, if_pos ⟨Nat.mul_mod_left _ _, by omega⟩]
    · rw [if_neg (fun e2 => hje (keyAt_inj (hod ho) (by omega) (by omega) e2)), h.has ho j hj]
      by_cases h0 : j % e = 0
      · have : j < (q + 1) * e ↔ j < q * e := by
          constructor
          · intro h1
            obtain ⟨d, rfl⟩ : ∃ d, j = d * e := ⟨j / e, by have := Nat.div_add_mod j e; rw [h0] at this; rw [Nat.mul_comm]; omega⟩
            have hd : d < q + 1 := Nat.lt_of_mul_lt_mul_right h1
            have hd2 : d ≠ q := fun e2 => hje (by rw [e2])
            exact Nat.mul_lt_mul_of_pos_right (by omega) (by omega)
          · intro h1; omega
        simp only [h0, true_and, this]
      · simp only [h0, false_and]
theorem odd_bit (b : Int) (h : Wd b) : (bits .and .u64 b 1 == 1) = decide (b % 2 = 1) := by
  obtain ⟨n, rfl⟩ := Int.eq_ofNat_of_zero_le h.1
  have h2 := h.2
  have : bits .and .u64 (n : Int) ((1 : Nat) : Int) = ((n &&& 1 : Nat) : Int) := u64_and_nat n 1 (by omega) (by decide)
  rw [show ((1 : Nat) : Int) = 1 from rfl] at this
  rw [this, Nat.and_one_is_mod]
  by_cases hb : (n : Int) % 2 = 1
  · have : n % 2 = 1 := by omega
    rw [this]; simp [hb]
  · have : n % 2 = 0 := by omega
    rw [this]; simp [hb]
end Go.Proofs.YtnhjnciadmgkeaaDoor
