/-
  Numbers' texts: what is told is read back, and only that.
-/
import Derived.Lib.ParseIntBCases
import Derived.Lib.ItoaNum
import Derived.Lib.ItoaLen
import Derived.Lib.ItoaMem
import Derived.Lib.AtoiAllCases
namespace Go.Proofs.YtdchmpbmaeoeoaaDoor
open Go.Lib
set_option linter.unusedVariables false

theorem dig_toNat (d : Nat) (h : d < 10) : (UInt8.ofNat (48 + d)).toNat = 48 + d := by
  rw [UInt8.toNat_ofNat']; omega
theorem parse10_app (c : UInt8) (h1 : 48 ≤ c.toNat) (h2 : c.toNat ≤ 57) : ∀ (l : List UInt8) (acc u : Nat), parseUint10 acc l = .ok u → u * 10 + (c.toNat - 48) < 18446744073709551616 → parseUint10 acc (l ++ [c]) = .ok (u * 10 + (c.toNat - 48))
  | [], acc, u, h, hb => by
    simp only [parseUint10, NumEnd.ok.injEq] at h
    subst h
    rw [List.nil_append, parseUint10, if_pos ⟨h1, h2⟩, if_neg (by omega), if_neg (by omega)]
    rfl
  | x :: r, acc, u, h, hb => by
    rw [List.cons_append, parseUint10]
    rw [parseUint10] at h
    split at h
    · rename_i hx
      rw [if_pos hx]
      split at h
      · cases h
      · rename_i h3
        rw [if_neg h3]
        split at h
        · cases h
        · rename_i h4
          rw [if_neg h4]
          exact parse10_app c h1 h2 r _ u h hb
    · cases h
theorem parse_dec : ∀ u : Nat, u < 18446744073709551616 → parseUint10 0 (decDigits u) = .ok u := by
  intro u
  induction u using Nat.strongRecOn with
  | _ u ih =>
    intro hu
    rw [decDigits]
    split
    · rename_i h10
      have e := dig_toNat u h10
      have := parse10_app (UInt8.ofNat (48 + u)) (by omega) (by omega) [] 0 0 rfl (by omega)
      rw [List.nil_append] at this
      rw [this, e]
      congr 1
      omega
    · rename_i h10
      have e := dig_toNat (u % 10) (Nat.mod_lt _ (by decide))
      have := parse10_app (UInt8.ofNat (48 + u % 10)) (by omega) (by omega) (decDigits (u / 10)) 0 (u / 10) (ih (u / 10) (by omega) (by omega)) (by omega)
      rw [this, e]
      congr 1
      omega
theorem dec_ne (u : Nat) : decDigits u ≠ [] := by
  intro h
  have := decDigits_length u
  rw [h] at this
  have := nDigits_pos u
  simp at *
  omega
theorem mag_dec (u : Nat) (h : u < 18446744073709551616) : parseMag (decDigits u) = .ok u := by
  rw [parseMag, if_neg (dec_ne u), parse_dec u h]
theorem dec_digits : ∀ u : Nat, ∀ c ∈ decDigits u, 48 ≤ c.toNat ∧ c.toNat ≤ 57 := by
  intro u
  induction u using Nat.strongRecOn with
  | _ u ih =>
    intro c hc
    rw [decDigits] at hc
    split at hc
    · rename_i h10
      have e := dig_toNat u h10
      simp only [List.mem_singleton] at hc
      subst hc
      omega
    · rename_i h10
      rw [List.mem_append] at hc
      rcases hc with hc | hc
      · exact ih (u / 10) (by omega) c hc
      · have e := dig_toNat (u % 10) (Nat.mod_lt _ (by decide))
        simp only [List.mem_singleton] at hc
        subst hc
        omega
theorem dec_inj {u v : Nat} (hu : u < 18446744073709551616) (hv : v < 18446744073709551616) (h : decDigits u = decDigits v) : u = v := by
  have := mag_dec u hu
  rw [h, mag_dec v hv] at this
  exact (NumEnd.ok.inj this).symm
/-- which number a text is -/
def rd (l : List UInt8) : Option Nat := match parseMag l with
  | .ok u => if decDigits u = l then some u else none
  | _ => none
theorem rd_some {l : List UInt8} {u : Nat} : rd l = some u ↔ u < 18446744073709551616 ∧ decDigits u = l := by
  constructor
  · intro h
    unfold rd at h
    split at h
    · rename_i v hv
      split at h
      · rename_i e
        injection h with h
        subst h
        exact ⟨parseMag_lt hv, e⟩
      · cases h
    · cases h
  · rintro ⟨h, rfl⟩
    unfold rd
    rw [mag_dec u h]
    simp
theorem rd_none {l : List UInt8} (h : ∀ u, u < 18446744073709551616 → decDigits u ≠ l) : rd l = none := by
  cases e : rd l with
  | none => rfl
  | some u => exact absurd (rd_some.1 e).2 (h u (rd_some.1 e).1)
/-- what the document's reader reckons -/
def vf (n : Nat) (l : List UInt8) : Nat := l.foldl (fun n c => (n * 10 + (c.toNat - 48)) % 18446744073709551616) n
theorem vf_app (n : Nat) (l : List UInt8) (c : UInt8) : vf n (l ++ [c]) = (vf n l * 10 + (c.toNat - 48)) % 18446744073709551616 := by
  simp [vf, List.foldl_append]
theorem vf_lt (n : Nat) (hn : n < 18446744073709551616) : ∀ l : List UInt8, vf n l < 18446744073709551616 := by
  intro l
  induction l generalizing n with
  | nil => exact hn
  | cons a r ih => exact ih _ (Nat.mod_lt _ (by decide))
theorem vf_dec : ∀ u : Nat, u < 18446744073709551616 → vf 0 (decDigits u) = u := by
  intro u
  induction u using Nat.strongRecOn with
  | _ u ih =>
    intro hu
    rw [decDigits]
    split
    · rename_i h10
      have e := dig_toNat u h10
      simp only [vf, List.foldl_cons, List.foldl_nil, e]
      omega
    · rename_i h10
      have e := dig_toNat (u % 10) (Nat.mod_lt _ (by decide))
      rw [vf_app, ih (u / 10) (by omega) (by omega), e]
      omega
theorem rd_long {l : List UInt8} (h : 20 < l.length) : rd l = none := rd_none fun u hu e => by
  have h1 := nDigits_le20 u hu
  have h2 := decDigits_length u
  rw [e] at h2
  omega
theorem rd_bad {l : List UInt8} {c : UInt8} (hc : c ∈ l) (h : c.toNat < 48 ∨ 57 < c.toNat) : rd l = none := rd_none fun u hu e => by
  have := dec_digits u c (e ▸ hc)
  omega
theorem rd_eq {l : List UInt8} (h : decDigits (vf 0 l) = l) : rd l = some (vf 0 l) := rd_some.2 ⟨vf_lt 0 (by decide) l, h⟩
theorem rd_ne {l : List UInt8} (h : decDigits (vf 0 l) ≠ l) : rd l = none := rd_none fun u hu e => by
  subst e
  exact h (by rw [vf_dec u hu])
theorem rd_lt {l : List UInt8} {u : Nat} (h : rd l = some u) : u < 18446744073709551616 := (rd_some.1 h).1

/-- which number, below 0 or not, a text is -/
def rdi (l : List UInt8) : Option Int := match atoiAll l with
  | .ok u => if itoa u = l then some u else none
  | _ => none
def Is64 (i : Int) : Prop := -9223372036854775808 ≤ i ∧ i ≤ 9223372036854775807
theorem dec_head (u : Nat) : ∃ c r, decDigits u = c :: r ∧ c.toNat ≠ 43 ∧ c.toNat ≠ 45 := by
  cases e : decDigits u with
  | nil => exact absurd e (dec_ne u)
  | cons c r =>
    have := dec_digits u c (by rw [e]; simp)
    exact ⟨c, r, rfl, by omega, by omega⟩
theorem atoi_itoa (i : Int) (h : Is64 i) : atoiAll (itoa i) = .ok i := by
  obtain ⟨h1, h2⟩ := h
  unfold itoa
  split
  · rename_i hn
    rw [atoiAll_minus, mag_dec _ (by omega), signed, if_neg (by omega)]
    congr 1
    omega
  · rename_i hn
    obtain ⟨c, r, e, c1, c2⟩ := dec_head i.toNat
    rw [e, atoiAll_plain c r c1 c2, ← e, mag_dec _ (by omega), signless, if_neg (by omega)]
    congr 1
    omega
theorem rdi_some {l : List UInt8} {i : Int} : rdi l = some i ↔ Is64 i ∧ itoa i = l := by
  constructor
  · intro h
    unfold rdi at h
    split at h
    · rename_i v hv
      split at h
      · rename_i e
        injection h with h
        subst h
        exact ⟨atoiAll_bounds hv, e⟩
      · cases h
    · cases h
  · rintro ⟨h, rfl⟩
    unfold rdi
    rw [atoi_itoa i h]
    simp
theorem rdi_none {l : List UInt8} (h : ∀ i, Is64 i → itoa i ≠ l) : rdi l = none := by
  cases e : rdi l with
  | none => rfl
  | some u => exact absurd (rdi_some.1 e).2 (h u (rdi_some.1 e).1)
theorem rdi_minus (r : List UInt8) : rdi (45 :: r) = match rd r with
    | some n => if n = 0 ∨ 9223372036854775808 < n then none else some (-(n : Int))
    | none => none := by
  cases e : rd r with
  | none =>
    refine rdi_none fun i hi h => ?_
    unfold itoa at h
    split at h
    · rename_i hn
      have := (List.cons.inj h).2
      rw [rd_some.2 ⟨by have := hi.1; omega, this⟩] at e
      cases e
    · obtain ⟨c, q, e2, c1, c2⟩ := dec_head i.toNat
      rw [e2] at h
      have := (List.cons.inj h).1
      subst this
      exact c2 rfl
  | some n =>
    obtain ⟨hn, e1⟩ := rd_some.1 e
    dsimp only
    split
    · rename_i hb
      refine rdi_none fun i hi h => ?_
      unfold itoa at h
      split at h
      · rename_i hneg
        have h3 := (List.cons.inj h).2
        have := dec_inj (by have := hi.1; omega) hn (h3.trans e1.symm)
        have := hi.1
        omega
      · obtain ⟨c, q, e2, c1, c2⟩ := dec_head i.toNat
        rw [e2] at h
        have := (List.cons.inj h).1
        subst this
        exact c2 rfl
    · rename_i hb
      refine rdi_some.2 ⟨⟨by omega, by omega⟩, ?_⟩
      rw [itoa_neg n (by omega), e1]
theorem rdi_plain {l : List UInt8} (h : l.head?.map (·.toNat) ≠ some 45) : rdi l = match rd l with
    | some n => if 9223372036854775807 < n then none else some (n : Int)
    | none => none := by
  cases e : rd l with
  | none =>
    refine rdi_none fun i hi h2 => ?_
    unfold itoa at h2
    split at h2
    · subst h2
      exact h rfl
    · rw [rd_some.2 ⟨by have := hi.2; omega, h2⟩] at e
      cases e
  | some n =>
    obtain ⟨hn, e1⟩ := rd_some.1 e
    dsimp only
    split
    · rename_i hb
      refine rdi_none fun i hi h2 => ?_
      unfold itoa at h2
      split at h2
      · subst h2
        exact h rfl
      · have := dec_inj (by have := hi.2; omega) hn (h2.trans e1.symm)
        have := hi.2
        omega
    · rename_i hb
      exact rdi_some.2 ⟨⟨by omega, by omega⟩, by rw [itoa_nonneg, e1]⟩
end Go.Proofs.YtdchmpbmaeoeoaaDoor
