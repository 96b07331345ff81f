/-
  Plain facts on slots: the highest bits of a stirred key; and on the lowest bit of a power of two. No program is named here.
-/
import Derived.Laws.Bits64
import Derived.Laws.BitsAllLaws
import Derived.OpenShut
namespace Go.Proofs.YtnhjnciadmgkeaaDoor
open Go Go.RowKit

/-- a shift-mix, on numbers -/
def shI (a s : Int) : Int := bits .xor .u64 a (a / 2 ^ s.toNat)
def mixI (a : Int) : Int :=
  shI (IntKind.u64.wrap (shI (IntKind.u64.wrap (shI a 30 * 13787848793156543929)) 27 * 10723151780598845931)) 31
abbrev B := BitVec 64
def shB (x : B) (s : Nat) : B := x ^^^ x >>> s
def mixB (x : B) : B := shB (shB (shB x 30 * 13787848793156543929#64) 27 * 10723151780598845931#64) 31
theorem xor_bv (x y : B) : bits .xor .u64 (x.toNat : Int) (y.toNat : Int) = ((x ^^^ y).toNat : Int) := by
  rw [u64_xor_nat _ _ x.isLt y.isLt, BitVec.toNat_xor]
theorem shr_bv (x : B) (n : Nat) : (x.toNat : Int) / 2 ^ n = ((x >>> n).toNat : Int) := by
  rw [BitVec.toNat_ushiftRight, Nat.shiftRight_eq_div_pow]; simp
theorem mul_bv (x c : B) : IntKind.u64.wrap ((x.toNat : Int) * (c.toNat : Int)) = ((x * c).toNat : Int) := by
  rw [IntKind.wrap_u64, BitVec.toNat_mul]; simp
theorem sh_bv (x : B) (n : Nat) : shI (x.toNat : Int) (n : Int) = ((shB x n).toNat : Int) := by
  unfold shI shB; rw [Int.toNat_natCast, shr_bv, xor_bv]
theorem mix_bv (x : B) : mixI (x.toNat : Int) = ((mixB x).toNat : Int) := by
  unfold mixI mixB
  have h1 := sh_bv x 30
  have m1 := mul_bv (shB x 30) 13787848793156543929#64
  have h2 := sh_bv (shB x 30 * 13787848793156543929#64) 27
  have m2 := mul_bv (shB (shB x 30 * 13787848793156543929#64) 27) 10723151780598845931#64
  have h3 := sh_bv (shB (shB x 30 * 13787848793156543929#64) 27 * 10723151780598845931#64) 31
  simp only [BitVec.toNat_ofNat, Nat.reducePow, Nat.reduceMod, Int.cast_ofNat_Int] at h1 m1 h2 m2 h3
  rw [h1, m1, h2, m2, h3]
/-- a number that fits is some 64 bits -/
theorem as_bv (a : Int) (h : (Lit.int .u64 a).wf = true) : ∃ x : B, a = (x.toNat : Int) := by
  have hb := bounds_u64 h
  exact ⟨BitVec.ofNat 64 a.toNat, by rw [BitVec.toNat_ofNat]; omega⟩

theorem nonneg_wrap (n : Int) : 0 ≤ IntKind.u64.wrap n := by rw [IntKind.wrap_u64]; omega
def slotI (a b : Int) : Int := wrap64 (mixI a / 2 ^ (64 - b).toNat)
theorem slot_bd (a b : Int) (h : (Lit.int .u64 a).wf = true) (h0 : 1 ≤ b) (h1 : b ≤ 30) : 0 ≤ slotI a b ∧ slotI a b < 2 ^ b.toNat := by
  obtain ⟨x, rfl⟩ := as_bv a h
  unfold slotI
  rw [mix_bv, shr_bv]
  obtain ⟨n, rfl⟩ := Int.eq_ofNat_of_zero_le (show 0 ≤ b by omega)
  have hn : (64 - (n : Int)).toNat = 64 - n := by omega
  rw [hn, Int.toNat_natCast]
  have hlt : (mixB x >>> (64 - n)).toNat < 2 ^ n := by
    rw [BitVec.toNat_ushiftRight, Nat.shiftRight_eq_div_pow, Nat.div_lt_iff_lt_mul (Nat.two_pow_pos _), ← Nat.pow_add]
    rw [show n + (64 - n) = 64 by omega]; exact (mixB x).isLt
  have hle : 2 ^ n ≤ 2 ^ 30 := Nat.pow_le_pow_right (by decide) (by omega)
  have e : wrap64 ((mixB x >>> (64 - n)).toNat : Int) = ((mixB x >>> (64 - n)).toNat : Int) := by
    unfold wrap64; omega
  rw [e]
  have : ((2 ^ n : Nat) : Int) = (2 : Int) ^ n := by simp
  omega

/-- a number of 64 bits; one of 32 bits with a sign -/
def Wd (x : Int) : Prop := 0 ≤ x ∧ x < 18446744073709551616
def i32in (n : Int) : Prop := -2147483648 ≤ n ∧ n < 2147483648
theorem Wd.wf {x : Int} (h : Wd x) : (Lit.int .u64 x).wf = true := by
  unfold Wd at h
  exact WalkArith.wf_u64 (by omega)
theorem Wd.of_wf {x : Int} (h : (Lit.int .u64 x).wf = true) : Wd x := by have := bounds_u64 h; exact ⟨this.1, by omega⟩
/-- the slot of a key, of 2^k slots -/
def slotN (k : Nat) (a : Int) : Nat := (slotI a (k : Int)).toNat
theorem slotN_eq {k : Nat} {a : Int} (h : Wd a) (h0 : 1 ≤ k) (h1 : k ≤ 30) : slotI a (k : Int) = ((slotN k a : Nat) : Int) := by
  have := (slot_bd a k h.wf (by omega) (by omega)).1
  unfold slotN; omega
theorem slotN_lt {k : Nat} {a : Int} (h : Wd a) (h0 : 1 ≤ k) (h1 : k ≤ 30) : slotN k a < 2 ^ k := by
  have h2 := slot_bd a k h.wf (by omega) (by omega)
  rw [Int.toNat_natCast] at h2
  have e : ((2 ^ k : Nat) : Int) = (2 : Int) ^ k := by simp
  unfold slotN; omega

/-- the table of the well-known way to the lowest bit -/
def tab : List Nat := [0, 1, 56, 2, 57, 49, 28, 3, 61, 58, 42, 50, 38, 29, 17, 4, 62, 47, 59, 36, 45, 43, 51, 22, 53, 39, 33, 30, 24, 18, 12, 5, 63, 55, 48, 27, 60, 41, 37, 16, 46, 35, 44, 21, 52, 32, 23, 11, 54, 26, 40, 15, 34, 20, 31, 10, 25, 14, 19, 9, 13, 8, 7, 6]
theorem tab_le : ∀ i, i < 64 → tab[i]?.getD 0 < 64 := by decide +kernel
theorem tab_pow : ∀ t, t < 64 → (2 ^ t &&& (18446744073709551616 - 2 ^ t)) * 285870213051353865 % 18446744073709551616 / 288230376151711744 < 64 ∧ tab[(2 ^ t &&& (18446744073709551616 - 2 ^ t)) * 285870213051353865 % 18446744073709551616 / 288230376151711744]?.getD 0 = t := by decide +kernel
/-- that way, as it is reckoned -/
def tzI (x : Int) : Int := IntKind.u64.wrap (bits .and .u64 x (IntKind.u64.wrap (-x)) * 285870213051353865) / 288230376151711744
theorem pow_lt {k : Nat} (h : k ≤ 62) : 2 ^ k ≤ 4611686018427387904 := Nat.pow_le_pow_right (n := 2) (j := 62) (by decide) h
theorem tzI_pow (k : Nat) (h : k ≤ 62) : ∃ q : Nat, q < 64 ∧ tzI ((2 ^ k : Nat) : Int) = (q : Int) ∧ tab[q]?.getD 0 = k := by
  obtain ⟨h1, h2⟩ := tab_pow k (by omega)
  refine ⟨_, h1, ?_, h2⟩
  have hp := pow_lt h
  have hp0 := Nat.two_pow_pos k
  unfold tzI
  clear h1 h2
  generalize 2 ^ k = x at *
  rw [show IntKind.u64.wrap (-(x : Int)) = ((18446744073709551616 - x : Nat) : Int) by rw [IntKind.wrap_u64]; omega, u64_and_nat _ _ (by omega) (by omega), IntKind.wrap_u64]
  omega
end Go.Proofs.YtnhjnciadmgkeaaDoor
