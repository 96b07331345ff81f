/-
  Plain facts on sets of numbers that are told by words of 64 bits: which numbers they have, how many below one, which is the least from one on. No program is named here.
-/
import Derived.Test.YtjdapbianbikpaaDoorLow
namespace Go.Proofs.YtjdapbianbikpaaDoor
open Go

/-- there is a number of which just k are below -/
theorem nth_ex {m : Nat → Bool} {n k : Nat} (h : k < cn m n) : ∃ t, t < n ∧ m t = true ∧ cn m t = k := by
  induction n with
  | zero => rw [cn_zero] at h; omega
  | succ n ih =>
    by_cases hk : k < cn m n
    · obtain ⟨t, ht, r⟩ := ih hk; exact ⟨t, by omega, r⟩
    · rw [cn_succ] at h
      by_cases hm : m n = true
      · rw [if_pos hm] at h; exact ⟨n, by omega, hm, by omega⟩
      · rw [if_neg hm] at h; omega
theorem cn_lt {m : Nat → Bool} {t u : Nat} (ht : m t = true) (h : t < u) : cn m t < cn m u := by
  have h1 := cn_succ m t
  rw [if_pos ht] at h1
  have := cn_mono m (show t + 1 ≤ u by omega)
  omega
theorem nth_eq {m : Nat → Bool} {t u : Nat} (ht : m t = true) (hu : m u = true) (h : cn m t = cn m u) : t = u := by
  refine Classical.byContradiction fun hne => ?_
  rcases Nat.lt_or_gt_of_ne hne with hl | hl
  · have := cn_lt ht hl; omega
  · have := cn_lt hu hl; omega

/-- so many lowest bits taken away -/
def strip (x : Nat) : Nat → Nat
  | 0 => x
  | k + 1 => strip x k &&& (strip x k - 1)
theorem strip_lt {x : Nat} (h : x < 2 ^ 64) (k : Nat) : strip x k < 2 ^ 64 := by
  induction k with
  | zero => exact h
  | succ k ih => exact Nat.lt_of_le_of_lt Nat.and_le_left ih
theorem strip_bit {x : Nat} (h : x < 2 ^ 64) {k : Nat} (hk : k ≤ cn x.testBit 64) (j : Nat) : (strip x k).testBit j = (x.testBit j && decide (k ≤ cn x.testBit j)) := by
  induction k generalizing j with
  | zero => simp [strip]
  | succ k ih =>
    have ih := ih (by omega)
    obtain ⟨t, ht, hb, hc⟩ := nth_ex (show k < cn x.testBit 64 by omega)
    have hy : (strip x k).testBit t = true := by rw [ih t]; simp [hb, hc]
    have hl : low (strip x k) = t := by
      refine low_of hy ht fun j hj => ?_
      rw [ih j]
      cases hbj : x.testBit j with
      | false => rfl
      | true => have := cn_lt hbj hj; simp; omega
    have h0 : strip x k ≠ 0 := by intro e; rw [e, Nat.zero_testBit] at hy; cases hy
    show (strip x k &&& (strip x k - 1)).testBit j = _
    rw [and_pred h0 (strip_lt h k), hl, ih j]
    cases hbj : x.testBit j with
    | false => rfl
    | true =>
      simp only [Bool.true_and, ← Bool.decide_and]
      refine decide_eq_decide.2 ⟨fun ⟨h1, h2⟩ => ?_, fun h1 => ⟨by omega, ?_⟩⟩
      · rcases Nat.lt_or_eq_of_le h1 with h3 | h3
        · exact h3
        · exact (h2 (nth_eq hbj hb (by omega))).elim
      · rintro rfl; omega
theorem strip_low {x k : Nat} (h : x < 2 ^ 64) (hk : k < cn x.testBit 64) :
    strip x k ≠ 0 ∧ low (strip x k) < 64 ∧ x.testBit (low (strip x k)) = true ∧ cn x.testBit (low (strip x k)) = k := by
  obtain ⟨t, ht, hb, hc⟩ := nth_ex hk
  have hy : (strip x k).testBit t = true := by rw [strip_bit h (by omega)]; simp [hb, hc]
  have hl : low (strip x k) = t := by
    refine low_of hy ht fun j hj => ?_
    rw [strip_bit h (by omega)]
    cases hbj : x.testBit j with
    | false => rfl
    | true => have := cn_lt hbj hj; simp; omega
  rw [hl]
  exact ⟨(fun e => by rw [e, Nat.zero_testBit] at hy; cases hy), ht, hb, hc⟩

/-- the numbers below n that are told, rising -/
def els (m : Nat → Bool) (n : Nat) : List Nat := (List.range n).filter m
theorem els_length (m : Nat → Bool) (n : Nat) : (els m n).length = cn m n := rfl
theorem els_succ (m : Nat → Bool) (n : Nat) : els m (n + 1) = els m n ++ if m n then [n] else [] := by
  unfold els; rw [List.range_succ, List.filter_append]; cases h : m n <;> simp [h]
theorem els_mem {m : Nat → Bool} {n t : Nat} : t ∈ els m n ↔ t < n ∧ m t = true := by simp [els]
theorem els_get {m : Nat → Bool} {n t : Nat} (ht : t < n) (hm : m t = true) : (els m n)[cn m t]? = some t := by
  induction n with
  | zero => omega
  | succ n ih =>
    rw [els_succ]
    by_cases h : t < n
    · have := ih h
      have hl : cn m t < (els m n).length := by rw [els_length]; exact cn_lt hm h
      rw [List.getElem?_append_left hl, this]
    · obtain rfl : t = n := by omega
      rw [if_pos hm, List.getElem?_append_right (by rw [els_length]; exact Nat.le_refl _), els_length]
      simp
theorem els_congr {m m' : Nat → Bool} {n : Nat} (h : ∀ i, i < n → m i = m' i) : els m n = els m' n := by
  unfold els
  exact List.filter_congr fun i hi => h i (by simpa using hi)
/-- the least told one from i on -/
def nxt (m : Nat → Bool) (n i : Nat) : Option Nat := (els m n)[cn m (min i n)]?
theorem nxt_some {m : Nat → Bool} {n i t : Nat} (ht : t < n) (hm : m t = true) (hi : i ≤ t) (hl : ∀ j, i ≤ j → j < t → m j = false) : nxt m n i = some t := by
  unfold nxt
  have : cn m (min i n) = cn m t := by
    rw [Nat.min_eq_left (by omega)]
    obtain ⟨d, rfl⟩ := Nat.exists_eq_add_of_le hi
    rw [cn_add, cn_none fun j hj => hl (i + j) (by omega) (by omega)]
    rfl
  rw [this, els_get ht hm]
theorem nxt_none {m : Nat → Bool} {n i : Nat} (hl : ∀ j, i ≤ j → j < n → m j = false) : nxt m n i = none := by
  unfold nxt
  rw [List.getElem?_eq_none_iff, els_length]
  by_cases h : i ≤ n
  · rw [Nat.min_eq_left h]
    obtain ⟨d, rfl⟩ := Nat.exists_eq_add_of_le h
    rw [cn_add, cn_none fun j hj => hl (i + j) (by omega) (by omega)]
    exact Nat.le_refl _
  · rw [Nat.min_eq_right (by omega)]; exact Nat.le_refl _

/-! ### words -/
/-- the word at a place -/
def wd (ws : List Nat) (k : Nat) : Nat := ws[k]?.getD 0
/-- is a number told by these words? -/
def mem (ws : List Nat) (i : Nat) : Bool := (wd ws (i / 64)).testBit (i % 64)
theorem mem_at (ws : List Nat) (k j : Nat) (h : j < 64) : mem ws (64 * k + j) = (wd ws k).testBit j := by
  unfold mem; rw [show (64 * k + j) / 64 = k by omega, show (64 * k + j) % 64 = j by omega]
theorem cn_words (ws : List Nat) (k r : Nat) (h : r ≤ 64) : cn (mem ws) (64 * k + r) = cn (mem ws) (64 * k) + cn (wd ws k).testBit r := by
  rw [cn_add, cn_congr fun j hj => mem_at ws k j (by omega)]
theorem cn_words_succ (ws : List Nat) (k : Nat) : cn (mem ws) (64 * (k + 1)) = cn (mem ws) (64 * k) + cn (wd ws k).testBit 64 := by
  rw [← cn_words ws k 64 (Nat.le_refl _)]; rfl
theorem cn_mod (x r : Nat) : cn (x % 2 ^ r).testBit 64 = cn x.testBit (min r 64) := by
  by_cases h : r ≤ 64
  · obtain ⟨d, hd⟩ := Nat.exists_eq_add_of_le h
    rw [hd, Nat.min_eq_left (by omega), cn_add, cn_congr (m' := x.testBit) fun i hi => by rw [Nat.testBit_mod_two_pow]; simp [hi]]
    have e : cn (fun j => (x % 2 ^ r).testBit (r + j)) d = 0 := cn_none fun j hj => by rw [Nat.testBit_mod_two_pow]; simp; intro; omega
    rw [e]; rfl
  · rw [Nat.min_eq_right (by omega)]
    exact cn_congr fun i hi => by rw [Nat.testBit_mod_two_pow]; simp; omega
theorem wd_set (ws : List Nat) (k v j : Nat) (hk : k < ws.length) : wd (ws.set k v) j = if j = k then v else wd ws j := by
  unfold wd
  rw [List.getElem?_set]
  by_cases h : k = j
  · subst h; simp [hk]
  · rw [if_neg h, if_neg fun e => h e.symm]
theorem mem_set (ws : List Nat) (k v i : Nat) (hk : k < ws.length) : mem (ws.set k v) i = if i / 64 = k then v.testBit (i % 64) else mem ws i := by
  unfold mem; rw [wd_set ws k v _ hk]; split <;> rfl
theorem or_bit (x r j : Nat) : (x ||| 2 ^ r).testBit j = (x.testBit j || decide (r = j)) := by
  rw [Nat.testBit_or, Nat.testBit_two_pow]
theorem mem_put (ws : List Nat) (i j : Nat) (hi : i / 64 < ws.length) : mem (ws.set (i / 64) (wd ws (i / 64) ||| 2 ^ (i % 64))) j = (mem ws j || decide (j = i)) := by
  rw [mem_set _ _ _ _ hi]
  by_cases h : j / 64 = i / 64
  · rw [if_pos h, or_bit]
    unfold mem
    rw [h]
    congr 1
    exact decide_eq_decide.2 (by omega)
  · rw [if_neg h]
    have : j ≠ i := fun e => h (by rw [e])
    simp [this]
theorem andNot_bit (x r j : Nat) (hx : x < 18446744073709551616) (hr : r < 64) : (x &&& (18446744073709551615 - 2 ^ r)).testBit j = (x.testBit j && !decide (r = j)) := by
  have hp : 2 ^ r < 2 ^ 64 := Nat.pow_lt_pow_right (by decide) hr
  rw [Nat.testBit_and, show 18446744073709551615 - 2 ^ r = 2 ^ 64 - (2 ^ r + 1) by omega, Nat.testBit_two_pow_sub_succ hp, Nat.testBit_two_pow]
  by_cases hj : j < 64
  · simp [hj]
  · rw [Nat.testBit_lt_two_pow (Nat.lt_of_lt_of_le (show x < 2 ^ 64 from hx) (Nat.pow_le_pow_right (by decide) (by omega)))]; simp
theorem mem_drop (ws : List Nat) (i j : Nat) (hi : i / 64 < ws.length) (hw : wd ws (i / 64) < 18446744073709551616) : mem (ws.set (i / 64) (wd ws (i / 64) &&& (18446744073709551615 - 2 ^ (i % 64)))) j = (mem ws j && !decide (j = i)) := by
  rw [mem_set _ _ _ _ hi]
  by_cases h : j / 64 = i / 64
  · rw [if_pos h, andNot_bit _ _ _ hw (by omega)]
    unfold mem
    rw [h]
    congr 2
    exact decide_eq_decide.2 (by omega)
  · rw [if_neg h]
    have : j ≠ i := fun e => h (by rw [e])
    simp [this]
/-- the bits from r on -/
theorem high_bit (x r j : Nat) (hx : x < 18446744073709551616) (hr : r < 64) : (x &&& (18446744073709551615 - (2 ^ r - 1))).testBit j = (x.testBit j && decide (r ≤ j)) := by
  have hp : 2 ^ r < 2 ^ 64 := Nat.pow_lt_pow_right (by decide) hr
  have h0 : 0 < 2 ^ r := Nat.two_pow_pos r
  rw [Nat.testBit_and, show 18446744073709551615 - (2 ^ r - 1) = 2 ^ 64 - (2 ^ r - 1 + 1) by omega, Nat.testBit_two_pow_sub_succ (by omega), Nat.testBit_two_pow_sub_one]
  by_cases hj : j < 64
  · by_cases h2 : j < r
    · simp [hj, h2]
    · simp [hj, h2]; intro; omega
  · rw [Nat.testBit_lt_two_pow (Nat.lt_of_lt_of_le (show x < 2 ^ 64 from hx) (Nat.pow_le_pow_right (by decide) (by omega)))]; simp
end Go.Proofs.YtjdapbianbikpaaDoor
