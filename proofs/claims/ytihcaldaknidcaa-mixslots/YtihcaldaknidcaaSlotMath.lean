/-
  Plain facts on slots: the highest bits of a stirred key.
-/
import Derived.Test.YtihcaldaknidcaaMath
namespace Go.Proofs.Ytihcaldaknidcaa
open Go Go.RowKit

def slotI (a b : Int) : Int := wrap64 (mixI a / 2 ^ (64 - b).toNat)
def refN (a : Int) (k : Nat) : Int := refI a / 2 ^ k
def rslotI (a b : Int) : Int := wrap64 (refN a (64 - b).toNat)

theorem refI_bd (a : Int) : 0 ≤ refI a ∧ refI a < 18446744073709551616 := by
  unfold refI hfI; simp only [IntKind.wrap_u64]; omega
theorem refN_zero (a : Int) : refN a 0 = refI a := by simp [refN]
theorem refN_bd (a : Int) (k : Nat) : 0 ≤ refN a k ∧ refN a k < 18446744073709551616 := by
  induction k with
  | zero => rw [refN_zero]; exact refI_bd a
  | succ k ih =>
    have e : refN a (k + 1) = refN a k / 2 := by
      unfold refN; rw [Int.pow_succ, Int.ediv_ediv_of_nonneg (by exact Int.pow_nonneg (by decide))]
    rw [e]; omega
theorem refN_succ (a : Int) (k : Nat) : IntKind.u64.wrap ((refN a k).tdiv 2) = refN a (k + 1) := by
  have e : refN a (k + 1) = refN a k / 2 := by
    unfold refN; rw [Int.pow_succ, Int.ediv_ediv_of_nonneg (by exact Int.pow_nonneg (by decide))]
  have := refN_bd a k
  rw [e, Int.tdiv_eq_ediv_of_nonneg this.1, IntKind.wrap_u64]
  omega
theorem slot_eq (a b : Int) (h : (Lit.int .u64 a).wf = true) : slotI a b = rslotI a b := by
  unfold slotI rslotI refN; rw [mix_eq_ref a h]

theorem slot_bd (a b : Int) (h : (Lit.int .u64 a).wf = true) (h0 : 1 ≤ b) (h1 : b ≤ 30) : 0 ≤ slotI a b ∧ slotI a b < 2 ^ b.toNat := by
  obtain ⟨x, rfl⟩ := as_bv a h
  unfold slotI
  rw [mix_bv, shr_bv]
  obtain ⟨n, rfl⟩ := Int.eq_ofNat_of_zero_le (show 0 ≤ b by omega)
  have hn : (64 - (n : Int)).toNat = 64 - n := by omega
  rw [hn, Int.toNat_natCast]
  have hlt : (mixB x >>> (64 - n)).toNat < 2 ^ n := by
    rw [BitVec.toNat_ushiftRight, Nat.shiftRight_eq_div_pow, Nat.div_lt_iff_lt_mul (Nat.two_pow_pos _), ← Nat.pow_add]
    rw [show n + (64 - n) = 64 by omega]; exact (mixB x).isLt
  have hle : 2 ^ n ≤ 2 ^ 30 := Nat.pow_le_pow_right (by decide) (by omega)
  have e : wrap64 ((mixB x >>> (64 - n)).toNat : Int) = ((mixB x >>> (64 - n)).toNat : Int) := by
    unfold wrap64; omega
  rw [e]
  have : ((2 ^ n : Nat) : Int) = (2 : Int) ^ n := by simp
  omega
theorem slot_lt (a b : Int) (h : (Lit.int .u64 a).wf = true) (h0 : 1 ≤ b) (h1 : b ≤ 30) : slotI a b < wrap64 (2 ^ b.toNat) := by
  have := (slot_bd a b h h0 h1).2
  obtain ⟨n, rfl⟩ := Int.eq_ofNat_of_zero_le (show 0 ≤ b by omega)
  rw [Int.toNat_natCast] at *
  have hle : 2 ^ n ≤ 2 ^ 30 := Nat.pow_le_pow_right (by decide) (by omega)
  have e : ((2 ^ n : Nat) : Int) = (2 : Int) ^ n := by simp
  rw [← e] at this ⊢
  generalize 2 ^ n = q at *
  have : wrap64 (q : Int) = q := by unfold wrap64; omega
  omega
end Go.Proofs.Ytihcaldaknidcaa
