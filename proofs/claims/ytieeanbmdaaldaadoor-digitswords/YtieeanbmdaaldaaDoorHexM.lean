/-
  Bytes' texts: what is told is read back, and only that.
-/
import Derived.Lib.Bytealg
namespace Go.Proofs.YtieeanbmdaaldaaDoor
open Go.Lib
set_option linter.unusedVariables false
/-- a digit -/
def hd (n : Nat) : UInt8 := if n < 10 then UInt8.ofNat (48 + n) else UInt8.ofNat (87 + n)
def hx2 (b : UInt8) : List UInt8 := [hd (b.toNat / 16), hd (b.toNat % 16)]
def hexOf (l : List UInt8) : List UInt8 := l.flatMap hx2
/-- the sixteen digits -/
def hds : List UInt8 := [48, 49, 50, 51, 52, 53, 54, 55, 56, 57, 97, 98, 99, 100, 101, 102]
def hv (c : UInt8) : Int := indexByte hds c
theorem hds_at : ∀ n : Fin 16, hds[n.val]? = some (hd n.val) := by decide
theorem hv_hd : ∀ n : Fin 16, hv (hd n.val) = (n.val : Int) := by decide
theorem hd_hv_fin : ∀ c : Fin 256, hv (UInt8.ofNat c.val) = -1 ∨ ∃ n : Fin 16, hv (UInt8.ofNat c.val) = (n.val : Int) ∧ hd n.val = UInt8.ofNat c.val := by decide +kernel
theorem hd_hv (c : UInt8) : hv c = -1 ∨ ∃ n : Nat, n < 16 ∧ hv c = (n : Int) ∧ hd n = c := by
  have h := hd_hv_fin ⟨c.toNat, c.toNat_lt⟩
  have e : UInt8.ofNat c.toNat = c := UInt8.ofNat_toNat
  simp only [e] at h
  rcases h with h | ⟨n, h1, h2⟩
  · exact .inl h
  · exact .inr ⟨n.val, n.isLt, h1, h2⟩
/-- which bytes a text is -/
def rhx : List UInt8 → Option (List UInt8)
  | [] => some []
  | [_] => none
  | a :: b :: r => if hv a < 0 ∨ hv b < 0 then none else (rhx r).map (UInt8.ofNat ((hv a).toNat * 16 + (hv b).toNat) :: ·)
theorem hx2_of {x y : Nat} (hx : x < 16) (hy : y < 16) : hx2 (UInt8.ofNat (x * 16 + y)) = [hd x, hd y] := by
  have e : (UInt8.ofNat (x * 16 + y)).toNat = x * 16 + y := by rw [UInt8.toNat_ofNat']; omega
  rw [hx2, e, show (x * 16 + y) / 16 = x by omega, show (x * 16 + y) % 16 = y by omega]
theorem rhx_hex : ∀ l : List UInt8, rhx (hexOf l) = some l
  | [] => rfl
  | b :: r => by
    have hb := b.toNat_lt
    have e1 := hv_hd ⟨b.toNat / 16, by omega⟩
    have e2 := hv_hd ⟨b.toNat % 16, by omega⟩
    simp only at e1 e2
    rw [hexOf, List.flatMap_cons, ← hexOf, hx2, List.cons_append, List.cons_append, List.nil_append, rhx, rhx_hex r, if_neg (by omega), e1, e2, Int.toNat_natCast, Int.toNat_natCast, show b.toNat / 16 * 16 + b.toNat % 16 = b.toNat by omega, UInt8.ofNat_toNat]
    rfl
theorem hex_rhx : ∀ (n : Nat) (s y : List UInt8), s.length ≤ n → rhx s = some y → hexOf y = s
  | 0, s, y, hn, h => by
    obtain rfl := List.length_eq_zero_iff.1 (Nat.le_zero.1 hn)
    rw [rhx] at h
    injection h with h
    subst h
    rfl
  | n + 1, [], y, hn, h => by
    rw [rhx] at h
    injection h with h
    subst h
    rfl
  | n + 1, [_], y, hn, h => by cases h
  | n + 1, a :: b :: r, y, hn, h => by
    rw [rhx] at h
    split at h
    · cases h
    · rename_i hab
      cases e : rhx r with
      | none => rw [e] at h; cases h
      | some q =>
        rw [e] at h
        injection h with h
        subst h
        simp only [List.length_cons] at hn
        have ih := hex_rhx n r q (by omega) e
        rcases hd_hv a with ha | ⟨x, x1, x2, x3⟩
        · omega
        rcases hd_hv b with hb | ⟨z, z1, z2, z3⟩
        · omega
        rw [hexOf, List.flatMap_cons, ← hexOf, ih, x2, z2, Int.toNat_natCast, Int.toNat_natCast, hx2_of x1 z1, x3, z3]
        rfl
theorem rhx_even : ∀ (n : Nat) (s : List UInt8), s.length ≤ n → s.length % 2 ≠ 0 → rhx s = none
  | 0, s, hn, h => by omega
  | n + 1, [], hn, h => absurd rfl h
  | n + 1, [_], hn, h => rfl
  | n + 1, a :: b :: r, hn, h => by
    simp only [List.length_cons] at hn h
    rw [rhx, rhx_even n r (by omega) (by omega)]
    split <;> rfl
/-- a text whose first places have been read -/
def rhxFrom (q : List UInt8) (s : List UInt8) : Option (List UInt8) := (rhx s).map (q ++ ·)
theorem rhxFrom_nil (s : List UInt8) : rhxFrom [] s = rhx s := by cases e : rhx s <;> simp [rhxFrom, e]
theorem rhxFrom_end (q : List UInt8) : rhxFrom q [] = some q := by simp [rhxFrom, rhx]
theorem rhxFrom_bad (q : List UInt8) (a b : UInt8) (r : List UInt8) (h : hv a < 0 ∨ hv b < 0) : rhxFrom q (a :: b :: r) = none := by rw [rhxFrom, rhx, if_pos h]; rfl
theorem rhxFrom_good (q : List UInt8) (a b : UInt8) (r : List UInt8) (h : ¬ (hv a < 0 ∨ hv b < 0)) : rhxFrom q (a :: b :: r) = rhxFrom (q ++ [UInt8.ofNat ((hv a).toNat * 16 + (hv b).toNat)]) r := by
  rw [rhxFrom, rhx, if_neg h, rhxFrom]
  cases e : rhx r <;> simp
/-- the document looks for the byte whose text it is -/
theorem find_good {k : Nat} (hk : k < 256) {a b : UInt8} (h : hx2 (UInt8.ofNat k) = [a, b]) : ¬ (hv a < 0 ∨ hv b < 0) ∧ (hv a).toNat * 16 + (hv b).toNat = k := by
  have e : (UInt8.ofNat k).toNat = k := by rw [UInt8.toNat_ofNat']; omega
  rw [hx2, e] at h
  injection h with h1 h2
  injection h2 with h2 _
  have e1 := hv_hd ⟨k / 16, by omega⟩
  have e2 := hv_hd ⟨k % 16, by omega⟩
  simp only at e1 e2
  rw [← h1, ← h2, e1, e2]
  omega
theorem find_bad {a b : UInt8} (h : ∀ k, k < 256 → hx2 (UInt8.ofNat k) ≠ [a, b]) : hv a < 0 ∨ hv b < 0 := by
  rcases hd_hv a with ha | ⟨x, x1, x2, x3⟩
  · omega
  rcases hd_hv b with hb | ⟨z, z1, z2, z3⟩
  · omega
  exact absurd (by rw [hx2_of x1 z1, x3, z3]) (h (x * 16 + z) (by omega))
theorem hexOf_app (l : List UInt8) (c : UInt8) : hexOf (l ++ [c]) = hexOf l ++ hx2 c := by simp [hexOf, List.flatMap_append]
theorem hexOf_length (l : List UInt8) : (hexOf l).length = 2 * l.length := by
  induction l with
  | nil => rfl
  | cons a r ih => rw [hexOf, List.flatMap_cons, ← hexOf, List.length_append, ih, List.length_cons, hx2]; simp; omega
theorem rhx_length : ∀ (n : Nat) (s y : List UInt8), s.length ≤ n → rhx s = some y → 2 * y.length = s.length := fun n s y hn h => by
  rw [← hex_rhx n s y hn h, hexOf_length]
end Go.Proofs.YtieeanbmdaaldaaDoor
