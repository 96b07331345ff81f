/-
  What the functions on single words return: a contract a function.
-/
import Derived.Test.YtjdapbianbikpaaDoorChecked
import Derived.Test.YtjdapbianbikpaaDoorWords
import Derived.Lib.Hide
import Derived.Below
import Derived.WalkKit
import Derived.ProofKit
import Derived.OpenShut
import Derived.WalkLawsBesides
import Derived.BigQuiet
import Derived.Deep.QuietTactic
namespace Go.Proofs.YtjdapbianbikpaaDoor
open Go.ChangeShapes Go.WideShapes Go.ChangeAt Go.RowKit
set_option linter.unusedVariables false

theorem ret_int {k : IntKind} {a b : Int} (h : a = b) : Ending.returned (.int k a) = .returned (.int k b) := by rw [h]

/-- a number of 64 bits -/
def Wd (x : Int) : Prop := 0 ≤ x ∧ x < 18446744073709551616

set_option maxHeartbeats 400000 in
theorem ones_raw (x : Int) (w : World) (h : 0 ≤ x) :
    Calls Tryd.prog 29 #[.int .u64 x] w fun e w' => e = .returned (.int .i64 (ocI x)) ∧ w = w' := by
  go_enter Tryd.func29, Tryd.ntmps29
  go_wp2
  go_ret
  exact ⟨ret_int rfl, rfl⟩
theorem ones_any (x : Int) (w : World) (h : Wd x) :
    Calls Tryd.prog 29 #[.int .u64 x] w fun e w' => e = .returned (.int .i64 ((cn x.toNat.testBit 64 : Nat) : Int)) ∧ w = w' := by
  refine (ones_raw x w h.1).mono ?_
  rintro e w' ⟨rfl, rfl⟩
  have h0 := h.1
  have h1 := h.2
  obtain ⟨n, rfl⟩ := Int.eq_ofNat_of_zero_le h0
  rw [ocI_eq n (by omega), Int.toNat_natCast]
  exact ⟨rfl, rfl⟩

/-- the table lies where it was laid -/
def Tab (w : World) : Prop := ∀ i : Nat, i < 64 → w.cell? ⟨0, i, none⟩ = some (.int .u8 ((tab[i]?.getD 0 : Nat) : Int))
theorem Tab.below {w w' : World} {B : Nat} (h : Tab w) (hb : Below B w w') (h0 : 0 < B) : Tab w' :=
  fun i hi => (hb.cell (p := ⟨0, i, none⟩) h0).trans (h i hi)

set_option maxHeartbeats 400000 in
theorem tz_any (x : Int) (w : World) (h : Wd x) (hx : 0 < x) (ht : Tab w) :
    Calls Tryd.prog 31 #[.int .u64 x] w fun e w' => e = .returned (.int .i64 ((low x.toNat : Nat) : Int)) ∧ w = w' := by
  have h0 := h.1
  have h1 := h.2
  obtain ⟨n, rfl⟩ := Int.eq_ofNat_of_zero_le h0
  obtain ⟨q, hq, he, hl⟩ := tzI_eq n (by omega) (by omega)
  rw [Int.toNat_natCast, ← hl]
  have hc := ht q hq
  have hz : ((n : Int) == 0) = false := beq_eq_false_iff_ne.2 (by omega)
  have hle := tab_le q hq
  generalize tab[q]?.getD 0 = z at *
  clear hl ht h1 hx h h0
  unfold tzI at he
  go_enter Tryd.func31, Tryd.ntmps31
  go_wp2
  go_ret
  exact ⟨ret_int rfl, rfl⟩

theorem pow_lt64 {r : Nat} (h : r < 64) : 2 ^ r ≤ 9223372036854775808 := Nat.pow_le_pow_right (n := 2) (j := 63) (by decide) (by omega)
/-- the bit of a number -/
def bt (i : Int) : Nat := 2 ^ (i.toNat % 64)
theorem bt_le (i : Int) : bt i ≤ 9223372036854775808 := pow_lt64 (Nat.mod_lt _ (by decide))
theorem bt_pos (i : Int) : 0 < bt i := Nat.two_pow_pos _
theorem and_bt (x : Nat) (i : Int) (hx : x < 18446744073709551616) : (bits .and .u64 (x : Int) ((bt i : Nat) : Int) != 0) = x.testBit (i.toNat % 64) := by
  rw [u64_and_nat _ _ hx (by have := bt_le i; omega)]
  unfold bt
  rw [nat_bit, Nat.testBit_eq_decide_div_mod_eq]
  have hp : 0 < 2 ^ (i.toNat % 64) := Nat.two_pow_pos _
  rcases Nat.mod_two_eq_zero_or_one (x / 2 ^ (i.toNat % 64)) with h | h
  · rw [h]; simp
  · rw [h]
    generalize 2 ^ (i.toNat % 64) = q at *
    have : ((1 * q : Nat) : Int) ≠ 0 := by omega
    simp only [bne_iff_ne.2 this, decide_true]
theorem wrap_bit (i : Int) (h : 0 ≤ i) : IntKind.u64.wrap (2 ^ (i % 64).toNat) = ((2 ^ (i.toNat % 64) : Nat) : Int) := by
  rw [show (i % 64).toNat = i.toNat % 64 by omega, IntKind.wrap_u64]
  have := pow_lt64 (show i.toNat % 64 < 64 by omega)
  have e : ((2 ^ (i.toNat % 64) : Nat) : Int) = 2 ^ (i.toNat % 64) := by simp
  rw [← e]
  generalize 2 ^ (i.toNat % 64) = q at *
  omega
set_option maxHeartbeats 400000 in
theorem bit_any (i : Int) (w : World) (h : 0 ≤ i) :
    Calls Tryd.prog 25 #[.int .i64 i] w fun e w' => e = .returned (.int .u64 ((bt i : Nat) : Int)) ∧ w = w' := by
  go_enter Tryd.func25, Tryd.ntmps25
  go_wp2
  go_ret
  refine ⟨ret_int (wrap_bit i h), rfl⟩
end Go.Proofs.YtjdapbianbikpaaDoor
