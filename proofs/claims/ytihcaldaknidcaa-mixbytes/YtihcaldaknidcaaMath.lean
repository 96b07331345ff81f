/-
  Plain facts on 64-bit numbers: what stirring a key and taking it back come to. No program is named here.
-/
import Derived.Laws.Bits64
import Derived.Laws.BitsAllLaws
import Derived.OpenShut
namespace Go.Proofs.Ytihcaldaknidcaa
open Go

/-- a shift-mix, on numbers -/
def shI (a s : Int) : Int := bits .xor .u64 a (a / 2 ^ s.toNat)
/-- a shift-mix taken back -/
def unI (a s : Int) : Int := bits .xor .u64 (bits .xor .u64 a (a / 2 ^ s.toNat)) (a / 2 ^ (2 * s).toNat)
def mixI (a : Int) : Int :=
  shI (IntKind.u64.wrap (shI (IntKind.u64.wrap (shI a 30 * 13787848793156543929)) 27 * 10723151780598845931)) 31
def backI (a : Int) : Int :=
  unI (IntKind.u64.wrap (unI (IntKind.u64.wrap (unI a 31 * 3573116690164977347)) 27 * 10871156337175269513)) 30
/-- the document's half -/
def hfI (a d : Int) : Int :=
  IntKind.u64.wrap (bits .or .u64 a (IntKind.u64.wrap (a.tdiv d)) - bits .and .u64 a (IntKind.u64.wrap (a.tdiv d)))
def refI (a : Int) : Int :=
  hfI (IntKind.u64.wrap (hfI (IntKind.u64.wrap (hfI a 1073741824 * 13787848793156543929)) 134217728 * 10723151780598845931)) 2147483648

abbrev B := BitVec 64
def shB (x : B) (s : Nat) : B := x ^^^ x >>> s
def unB (x : B) (s : Nat) : B := x ^^^ x >>> s ^^^ x >>> (2 * s)
def mixB (x : B) : B := shB (shB (shB x 30 * 13787848793156543929#64) 27 * 10723151780598845931#64) 31
def backB (x : B) : B := unB (unB (unB x 31 * 3573116690164977347#64) 27 * 10871156337175269513#64) 30

theorem xor4 (a b c : B) : a ^^^ b ^^^ (b ^^^ c) = a ^^^ c := by
  rw [BitVec.xor_assoc, ← BitVec.xor_assoc b b c, BitVec.xor_self, BitVec.zero_xor]

theorem shr_zero (x : B) (n : Nat) (h : 64 ≤ n) : x >>> n = 0#64 := by
  apply BitVec.eq_of_toNat_eq
  rw [BitVec.toNat_ushiftRight, Nat.shiftRight_eq_div_pow]
  have : x.toNat < 2 ^ n := Nat.lt_of_lt_of_le x.isLt (Nat.pow_le_pow_right (by decide) h)
  simp [Nat.div_eq_of_lt this]

theorem un_sh (x : B) (s : Nat) (hs : 22 ≤ s) : unB (shB x s) s = x := by
  unfold unB shB
  rw [BitVec.ushiftRight_xor_distrib, BitVec.ushiftRight_xor_distrib, ← BitVec.shiftRight_add, ← BitVec.shiftRight_add]
  rw [shr_zero x (s + 2 * s) (by omega), show s + s = 2 * s by omega, BitVec.xor_zero, xor4]
  rw [BitVec.xor_assoc, BitVec.xor_self, BitVec.xor_zero]

theorem sh_un (x : B) (s : Nat) (hs : 22 ≤ s) : shB (unB x s) s = x := by
  unfold unB shB
  rw [BitVec.ushiftRight_xor_distrib, BitVec.ushiftRight_xor_distrib, ← BitVec.shiftRight_add, ← BitVec.shiftRight_add]
  rw [shr_zero x (2 * s + s) (by omega), show s + s = 2 * s by omega, BitVec.xor_zero]
  rw [BitVec.xor_assoc x, BitVec.xor_assoc x, BitVec.xor_self, BitVec.xor_zero]

theorem mul_back (x c d : B) (h : c * d = 1#64) : x * c * d = x := by
  rw [BitVec.mul_assoc, h, BitVec.mul_one]

theorem backB_mixB (x : B) : backB (mixB x) = x := by
  unfold backB mixB
  rw [un_sh _ 31 (by decide), mul_back _ _ _ (by decide +kernel), un_sh _ 27 (by decide), mul_back _ _ _ (by decide +kernel), un_sh _ 30 (by decide)]

theorem mixB_backB (x : B) : mixB (backB x) = x := by
  unfold backB mixB
  rw [sh_un _ 30 (by decide), mul_back _ _ _ (by decide +kernel), sh_un _ 27 (by decide), mul_back _ _ _ (by decide +kernel), sh_un _ 31 (by decide)]

theorem xor_bv (x y : B) : bits .xor .u64 (x.toNat : Int) (y.toNat : Int) = ((x ^^^ y).toNat : Int) := by
  rw [u64_xor_nat _ _ x.isLt y.isLt, BitVec.toNat_xor]
theorem or_bv (x y : B) : bits .or .u64 (x.toNat : Int) (y.toNat : Int) = ((x ||| y).toNat : Int) := by
  rw [u64_or_nat _ _ x.isLt y.isLt, BitVec.toNat_or]
theorem and_bv (x y : B) : bits .and .u64 (x.toNat : Int) (y.toNat : Int) = ((x &&& y).toNat : Int) := by
  rw [u64_and_nat _ _ x.isLt y.isLt, BitVec.toNat_and]
theorem shr_bv (x : B) (n : Nat) : (x.toNat : Int) / 2 ^ n = ((x >>> n).toNat : Int) := by
  rw [BitVec.toNat_ushiftRight, Nat.shiftRight_eq_div_pow]; simp
theorem mul_bv (x c : B) : IntKind.u64.wrap ((x.toNat : Int) * (c.toNat : Int)) = ((x * c).toNat : Int) := by
  rw [IntKind.wrap_u64, BitVec.toNat_mul]; simp
theorem sh_bv (x : B) (n : Nat) : shI (x.toNat : Int) (n : Int) = ((shB x n).toNat : Int) := by
  unfold shI shB; rw [Int.toNat_natCast, shr_bv, xor_bv]
theorem un_bv (x : B) (n : Nat) : unI (x.toNat : Int) (n : Int) = ((unB x n).toNat : Int) := by
  unfold unI unB; rw [show (2 * (n : Int)).toNat = 2 * n by omega, Int.toNat_natCast, shr_bv, shr_bv, xor_bv, xor_bv]
theorem mix_bv (x : B) : mixI (x.toNat : Int) = ((mixB x).toNat : Int) := by
  unfold mixI mixB
  have h1 := sh_bv x 30
  have m1 := mul_bv (shB x 30) 13787848793156543929#64
  have h2 := sh_bv (shB x 30 * 13787848793156543929#64) 27
  have m2 := mul_bv (shB (shB x 30 * 13787848793156543929#64) 27) 10723151780598845931#64
  have h3 := sh_bv (shB (shB x 30 * 13787848793156543929#64) 27 * 10723151780598845931#64) 31
  simp only [BitVec.toNat_ofNat, Nat.reducePow, Nat.reduceMod, Int.cast_ofNat_Int] at h1 m1 h2 m2 h3
  rw [h1, m1, h2, m2, h3]
theorem back_bv (x : B) : backI (x.toNat : Int) = ((backB x).toNat : Int) := by
  unfold backI backB
  have h1 := un_bv x 31
  have m1 := mul_bv (unB x 31) 3573116690164977347#64
  have h2 := un_bv (unB x 31 * 3573116690164977347#64) 27
  have m2 := mul_bv (unB (unB x 31 * 3573116690164977347#64) 27) 10871156337175269513#64
  have h3 := un_bv (unB (unB x 31 * 3573116690164977347#64) 27 * 10871156337175269513#64) 30
  simp only [BitVec.toNat_ofNat, Nat.reducePow, Nat.reduceMod, Int.cast_ofNat_Int] at h1 m1 h2 m2 h3
  rw [h1, m1, h2, m2, h3]

theorem or_sub_and (x y : B) : (x ||| y) - (x &&& y) = x ^^^ y := by
  have h : (x ^^^ y) + (x &&& y) = (x ^^^ y) ||| (x &&& y) := BitVec.add_eq_or_of_and_eq_zero _ _ (by
    ext i hi; simp; cases x[i] <;> simp)
  have h2 : (x ^^^ y) ||| (x &&& y) = x ||| y := by
    ext i hi; simp; cases x[i] <;> simp
  rw [← h2, ← h, BitVec.add_sub_cancel]

theorem hf_bv (x : B) (n : Nat) : hfI (x.toNat : Int) ((2 ^ n : Nat) : Int) = ((shB x n).toNat : Int) := by
  unfold hfI shB
  have e : IntKind.u64.wrap (Int.tdiv (x.toNat : Int) ((2 ^ n : Nat) : Int)) = ((x >>> n).toNat : Int) := by
    rw [Int.tdiv_eq_ediv_of_nonneg (by omega), BitVec.toNat_ushiftRight, Nat.shiftRight_eq_div_pow, ← Int.natCast_ediv, IntKind.wrap_u64]
    have hd : x.toNat / 2 ^ n ≤ x.toNat := Nat.div_le_self _ _
    have := x.isLt
    generalize x.toNat / 2 ^ n = q at hd ⊢
    omega
  rw [e, or_bv, and_bv, ← or_sub_and, IntKind.wrap_u64]
  have hle : (x &&& x >>> n).toNat ≤ (x ||| x >>> n).toNat := by
    rw [BitVec.toNat_or, BitVec.toNat_and]; exact Nat.le_trans Nat.and_le_left Nat.left_le_or
  rw [BitVec.toNat_sub_of_le (by exact hle)]
  have := (x ||| x >>> n).isLt
  omega

theorem ref_bv (x : B) : refI (x.toNat : Int) = ((mixB x).toNat : Int) := by
  unfold refI mixB
  have h1 := hf_bv x 30
  have m1 := mul_bv (shB x 30) 13787848793156543929#64
  have h2 := hf_bv (shB x 30 * 13787848793156543929#64) 27
  have m2 := mul_bv (shB (shB x 30 * 13787848793156543929#64) 27) 10723151780598845931#64
  have h3 := hf_bv (shB (shB x 30 * 13787848793156543929#64) 27 * 10723151780598845931#64) 31
  simp only [BitVec.toNat_ofNat, Nat.reducePow, Nat.reduceMod, Int.cast_ofNat_Int] at h1 m1 h2 m2 h3
  rw [h1, m1, h2, m2, h3]

/-- a number that fits is some 64 bits -/
theorem as_bv (a : Int) (h : (Lit.int .u64 a).wf = true) : ∃ x : B, a = (x.toNat : Int) := by
  have hb := bounds_u64 h
  exact ⟨BitVec.ofNat 64 a.toNat, by rw [BitVec.toNat_ofNat]; omega⟩

theorem nonneg_wrap (n : Int) : 0 ≤ IntKind.u64.wrap n := by rw [IntKind.wrap_u64]; omega
theorem mix_eq_ref (a : Int) (h : (Lit.int .u64 a).wf = true) : mixI a = refI a := by
  obtain ⟨x, rfl⟩ := as_bv a h; rw [mix_bv, ref_bv]
theorem back_mix (a : Int) (h : (Lit.int .u64 a).wf = true) : backI (mixI a) = a := by
  obtain ⟨x, rfl⟩ := as_bv a h; rw [mix_bv, back_bv, backB_mixB]
theorem mix_back (a : Int) (h : (Lit.int .u64 a).wf = true) : mixI (backI a) = a := by
  obtain ⟨x, rfl⟩ := as_bv a h; rw [back_bv, mix_bv, mixB_backB]
theorem mix_inj (a b : Int) (h : (Lit.int .u64 a).wf = true) (h' : (Lit.int .u64 b).wf = true) (e : mixI a = mixI b) : a = b := by
  rw [← back_mix a h, ← back_mix b h', e]
theorem mix_nonneg (a : Int) (h : (Lit.int .u64 a).wf = true) : 0 ≤ mixI a := by
  obtain ⟨x, rfl⟩ := as_bv a h; rw [mix_bv]; omega
theorem back_nonneg (a : Int) (h : (Lit.int .u64 a).wf = true) : 0 ≤ backI a := by
  obtain ⟨x, rfl⟩ := as_bv a h; rw [back_bv]; omega
end Go.Proofs.Ytihcaldaknidcaa
