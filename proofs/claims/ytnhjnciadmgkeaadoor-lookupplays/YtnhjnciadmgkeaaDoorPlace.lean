/-
  The slot of a key: place, and what it calls: a contract a function.
-/
import Derived.Test.YtnhjnciadmgkeaaDoorChecked
import Derived.Test.YtnhjnciadmgkeaaDoorBase
import Derived.Test.YtnhjnciadmgkeaaDoorSlot
import Derived.WalkKit
import Derived.ProofKit
import Derived.OpenShut
namespace Go.Proofs.YtnhjnciadmgkeaaDoor
open Go.ChangeShapes Go.WideShapes Go.ChangeAt Go.RowKit
set_option linter.unusedVariables false

theorem ret_int {k : IntKind} {a b : Int} (h : a = b) : Ending.returned (.int k a) = .returned (.int k b) := by rw [h]
theorem sh_any (a s : Int) (w : World) (h : 0 ≤ a) (h0 : 0 ≤ s) (h1 : s ≤ 31) :
    Calls Tryd.prog 57 #[.int .u64 a, .int .u64 s] w fun e w' => e = .returned (.int .u64 (shI a s)) ∧ w = w' := by
  go_enter Tryd.func57, Tryd.ntmps57
  go_wp2
  go_ret
  exact ⟨rfl, rfl⟩
theorem mix_any (a : Int) (w : World) (h : 0 ≤ a) :
    Calls Tryd.prog 53 #[.int .u64 a] w fun e w' => e = .returned (.int .u64 (mixI a)) ∧ w = w' := by
  go_enter Tryd.func53, Tryd.ntmps53
  go_wp2_with (go_at_call 57; refine (sh_any _ _ _ (by first | exact h | exact nonneg_wrap _) (by omega) (by omega)).mono ?_; rintro e w' ⟨rfl, rfl⟩)
  go_ret
  exact ⟨rfl, rfl⟩
theorem slot_yes (a b : Int) (w : World) (h : 0 ≤ a) (h0 : 1 ≤ b) (h1 : b ≤ 30) :
    Calls Tryd.prog 45 #[.int .u64 a, .int .i64 b] w fun e w' => e = .returned (.int .i64 (slotI a b)) ∧ w = w' := by
  unfold slotI
  go_enter Tryd.func45, Tryd.ntmps45
  go_wp2_with (go_at_call 53; refine (mix_any _ _ h).mono ?_; rintro e w' ⟨rfl, rfl⟩)
  go_ret
  exact ⟨rfl, rfl⟩
/-- the table lies where it was laid -/
def Tab (w : World) : Prop := ∀ i : Nat, i < 64 → w.cell? ⟨1, i, none⟩ = some (.int .u8 ((tab[i]?.getD 0 : Nat) : Int))
set_option maxHeartbeats 400000 in
theorem tz64_pow (k : Nat) (w : World) (h : k ≤ 62) (ht : Tab w) :
    Calls Tryd.prog 55 #[.int .u64 ((2 ^ k : Nat) : Int)] w fun e w' => e = .returned (.int .i64 (k : Int)) ∧ w = w' := by
  obtain ⟨q, hq, he, hl⟩ := tzI_pow k h
  have hp := pow_lt h
  have hp0 := Nat.two_pow_pos k
  have hc := ht q hq
  rw [hl] at hc
  generalize 2 ^ k = n at *
  have hz : ((n : Int) == 0) = false := beq_eq_false_iff_ne.2 (by omega)
  clear hl ht hp
  unfold tzI at he
  go_enter Tryd.func55, Tryd.ntmps55
  go_wp2
  go_ret
  exact ⟨ret_int rfl, rfl⟩
theorem tz_pow (k : Nat) (w : World) (h : k ≤ 62) (ht : Tab w) :
    Calls Tryd.prog 46 #[.int .u64 ((2 ^ k : Nat) : Int)] w fun e w' => e = .returned (.int .i64 (k : Int)) ∧ w = w' := by
  have h0 := tz64_pow k w h ht
  have hp := pow_lt h
  generalize 2 ^ k = n at *
  have H0 := Lib.hid h0
  clear h0
  go_enter Tryd.func46, Tryd.ntmps46
  go_wp2_with (go_at_call 55; refine H0.out.mono ?_; rintro e w' ⟨rfl, rfl⟩)
  go_ret
  exact ⟨rfl, rfl⟩
/-- a slot's address -/
theorem ix47 (g p n c : Nat) (hp : p < n) (w : World) : (Instr.indexAt 47 (Value.slice (some { block := g, off := 0 }) n c) (Value.int .i64 p)).run Tryd.prog w = .ok (.pointer (some ⟨g, p, none⟩)) w := by
  simp [go_sem, hp]
theorem place_at (g k : Nat) (key : Int) (w : World) (h0 : 1 ≤ k) (h1 : k ≤ 30) (hk : Wd key) (ht : Tab w) :
    Calls Tryd.prog 33 #[.slice (some ⟨g, 0, none⟩) (2 ^ k) (2 ^ k), .int .u64 key] w fun e w' => e = .returned (.int .i64 ((slotN k key : Nat) : Int)) ∧ w = w' := by
  have H0 := Lib.hid (tz_pow k w (by omega) ht)
  have h2 := slot_yes key k w hk.1 (by omega) (by omega)
  rw [slotN_eq hk h0 h1] at h2
  have H2 := Lib.hid h2
  have hp : 2 ^ k ≤ 4611686018427387904 := pow_lt (by omega)
  clear h2
  generalize 2 ^ k = n at *
  have hw : IntKind.u64.wrap (n : Int) = (n : Int) := by rw [IntKind.wrap_u64]; omega
  go_enter Tryd.func33, Tryd.ntmps33
  go_wp2_with (first | (go_at_call 46; refine H0.out.mono ?_; rintro e w' ⟨rfl, rfl⟩) | (go_at_call 45; refine H2.out.mono ?_; rintro e w' ⟨rfl, rfl⟩))
  go_ret
  exact ⟨rfl, rfl⟩
end Go.Proofs.YtnhjnciadmgkeaaDoor
