/-
  Plain facts on the lowest bit of a number below 2^64, and on words of bits. No program is named here.
-/
import Derived.Test.YtjdapbianbikpaaDoorBits
namespace Go.Proofs.YtjdapbianbikpaaDoor
open Go

/-- the place of the lowest bit -/
def low (x : Nat) : Nat := ((List.range 64).find? fun i => x.testBit i).getD 64

theorem low_of {x t : Nat} (h : x.testBit t = true) (ht : t < 64) (hj : ∀ j, j < t → x.testBit j = false) : low x = t := by
  unfold low
  have : (List.range 64).find? (fun i => x.testBit i) = some t := by
    rw [List.find?_range_eq_some]
    exact ⟨h, by simpa using ht, fun j hjt => by simp [hj j hjt]⟩
  rw [this]; rfl
theorem low_ex {x : Nat} (h0 : x ≠ 0) (h : x < 2 ^ 64) : ∃ t, t < 64 ∧ x.testBit t = true ∧ ∀ j, j < t → x.testBit j = false := by
  have hex : ∃ i, x.testBit i = true := by
    refine Classical.byContradiction fun hn => h0 ?_
    refine Nat.eq_of_testBit_eq fun i => ?_
    rw [Nat.zero_testBit]
    cases hb : x.testBit i with
    | false => rfl
    | true => exact (hn ⟨i, hb⟩).elim
  have key : ∀ n, (∃ i, i < n ∧ x.testBit i = true) → ∃ t, t < n ∧ x.testBit t = true ∧ ∀ j, j < t → x.testBit j = false := by
    intro n
    induction n with
    | zero => rintro ⟨i, hi, _⟩; omega
    | succ n ih =>
      rintro ⟨i, hi, hb⟩
      by_cases hc : ∃ i, i < n ∧ x.testBit i = true
      · obtain ⟨t, ht, r⟩ := ih hc; exact ⟨t, by omega, r⟩
      · have : i = n := by
          refine Classical.byContradiction fun hne => hc ⟨i, by omega, hb⟩
        subst this
        refine ⟨i, by omega, hb, fun j hj => ?_⟩
        cases hb' : x.testBit j with
        | false => rfl
        | true => exact (hc ⟨j, hj, hb'⟩).elim
  obtain ⟨i, hi⟩ := hex
  have hlt : i < 64 := by
    refine Classical.byContradiction fun hn => ?_
    have : x.testBit i = false := Nat.testBit_lt_two_pow (Nat.lt_of_lt_of_le h (Nat.pow_le_pow_right (by decide) (by omega)))
    rw [this] at hi; cases hi
  exact key 64 ⟨i, hlt, hi⟩
theorem low_spec {x : Nat} (h0 : x ≠ 0) (h : x < 2 ^ 64) : low x < 64 ∧ x.testBit (low x) = true ∧ ∀ j, j < low x → x.testBit j = false := by
  obtain ⟨t, ht, hb, hj⟩ := low_ex h0 h
  rw [low_of hb ht hj]; exact ⟨ht, hb, hj⟩

/-- a number one less: the bits below the lowest one are set, that one is not, the others stay -/
theorem pred_bit {x t : Nat} (hb : x.testBit t = true) (hj : ∀ j, j < t → x.testBit j = false) (j : Nat) :
    (x - 1).testBit j = if j < t then true else if j = t then false else x.testBit j := by
  have hm : x % 2 ^ t = 0 := by
    refine Nat.eq_of_testBit_eq fun i => ?_
    rw [Nat.testBit_mod_two_pow, Nat.zero_testBit]
    by_cases hi : i < t
    · simp [hj i hi]
    · simp [hi]
  have ho : x / 2 ^ t % 2 = 1 := by
    rw [Nat.testBit_eq_decide_div_mod_eq] at hb; simpa using hb
  have hx : x = 2 ^ t * (2 * (x / 2 ^ t / 2) + 1) := by
    have := Nat.div_add_mod x (2 ^ t)
    have h2 := Nat.div_add_mod (x / 2 ^ t) 2
    rw [ho] at h2
    rw [h2]; omega
  have hp : 0 < 2 ^ t := Nat.two_pow_pos t
  have hx1 : x - 1 = 2 ^ t * (2 * (x / 2 ^ t / 2)) + (2 ^ t - 1) := by
    have e : 2 ^ t * (2 * (x / 2 ^ t / 2) + 1) = 2 ^ t * (2 * (x / 2 ^ t / 2)) + 2 ^ t := by rw [Nat.mul_add, Nat.mul_one]
    omega
  rw [hx1, Nat.testBit_two_pow_mul_add _ (by omega)]
  by_cases h1 : j < t
  · simp [h1]
  · rw [if_neg h1, if_neg h1]
    by_cases h2 : j = t
    · subst h2; simp
    · rw [if_neg h2]
      obtain ⟨d, rfl⟩ : ∃ d, j = t + 1 + d := ⟨j - t - 1, by omega⟩
      rw [show t + 1 + d - t = d + 1 by omega, Nat.testBit_succ, show 2 * (x / 2 ^ t / 2) / 2 = x / 2 ^ t / 2 by omega]
      rw [← Nat.testBit_succ, Nat.testBit_div_two_pow]
      congr 1; omega
/-- a number and what it lacks to 2^64 have just the lowest bit in common -/
theorem and_neg {x : Nat} (h0 : x ≠ 0) (h : x < 2 ^ 64) : x &&& (2 ^ 64 - x) = 2 ^ low x := by
  obtain ⟨ht, hb, hj⟩ := low_spec h0 h
  refine Nat.eq_of_testBit_eq fun i => ?_
  rw [Nat.testBit_and, show 2 ^ 64 - x = 2 ^ 64 - (x - 1 + 1) by omega, Nat.testBit_two_pow_sub_succ (by omega), pred_bit hb hj, Nat.testBit_two_pow]
  by_cases h1 : i < low x
  · have : low x ≠ i := by omega
    simp [h1, hj i h1, this]
  · rw [if_neg h1]
    by_cases h2 : i = low x
    · subst h2; simp [hb, ht]
    · rw [if_neg h2]
      have : low x ≠ i := fun e => h2 e.symm
      simp only [this, decide_false]
      cases x.testBit i <;> simp
/-- the lowest bit goes -/
theorem and_pred {x : Nat} (h0 : x ≠ 0) (h : x < 2 ^ 64) (j : Nat) : (x &&& (x - 1)).testBit j = (x.testBit j && decide (j ≠ low x)) := by
  obtain ⟨ht, hb, hj⟩ := low_spec h0 h
  rw [Nat.testBit_and, pred_bit hb hj]
  by_cases h1 : j < low x
  · simp [h1, hj j h1]
  · rw [if_neg h1]
    by_cases h2 : j = low x
    · subst h2; simp
    · rw [if_neg h2]; simp [h2]

/-- the table of the well-known way -/
def tab : List Nat := [0, 1, 56, 2, 57, 49, 28, 3, 61, 58, 42, 50, 38, 29, 17, 4, 62, 47, 59, 36, 45, 43, 51, 22, 53, 39, 33, 30, 24, 18, 12, 5, 63, 55, 48, 27, 60, 41, 37, 16, 46, 35, 44, 21, 52, 32, 23, 11, 54, 26, 40, 15, 34, 20, 31, 10, 25, 14, 19, 9, 13, 8, 7, 6]
theorem tab_low : ∀ t, t < 64 → tab[2 ^ t * 285870213051353865 % 18446744073709551616 / 288230376151711744]?.getD 0 = t := by decide +kernel
theorem tab_at {x : Nat} (h0 : x ≠ 0) (h : x < 18446744073709551616) :
    tab[(x &&& (18446744073709551616 - x)) * 285870213051353865 % 18446744073709551616 / 288230376151711744]?.getD 0 = low x := by
  have e := and_neg h0 (show x < 2 ^ 64 from h)
  rw [show (18446744073709551616 : Nat) - x = 2 ^ 64 - x from rfl, e]
  exact tab_low _ (low_spec h0 h).1
theorem tab_le : ∀ i, i < 64 → tab[i]?.getD 0 < 64 := by decide +kernel
end Go.Proofs.YtjdapbianbikpaaDoor
