/-
  What the document's answer tells of slots.
-/
import Derived.Test.YtihcaldaknidcaaAlive
import Derived.Test.YtihcaldaknidcaaSlotMath
namespace Go.Proofs.Ytihcaldaknidcaa
open Go.ChangeShapes Go.WideShapes Go.ChangeAt Go.RowKit
set_option linter.unusedVariables false

theorem slot_at (a b : Int) (w : World) (h : 0 ≤ a) (h0 : 1 ≤ b) (h1 : b ≤ 30) :
    Calls Try.prog 11 #[.int .u64 a, .int .i64 b] w fun e w' => e = .returned (.int .i64 (slotI a b)) ∧ w = w' :=
  slot_yes a b w h h0 h1

set_option maxHeartbeats 400000 in
theorem rslot_at (a b : Int) (w : World) (h : 0 ≤ a) (h0 : 1 ≤ b) (h1 : b ≤ 30) :
    Calls Try.prog 12 #[.int .u64 a, .int .i64 b] w fun e w' => e = .returned (.int .i64 (rslotI a b)) ∧ w = w' := by
  go_enter Try.func12, Try.ntmps12
  go_wp2_with (go_at_call 8; refine (ref_any _ _ h).mono ?_; rintro e w' ⟨rfl, rfl⟩)
  go_loop [5, 6] (fun n i => ∃ k : Nat, b + k ≤ 64 ∧ i = .int .i64 (b + k) ∧ n = .int .u64 (refN a k)) (fun _ i => (64 - intOf i).toNat)
  case atStart => exact ⟨0, by omega, by go_num, by rw [refN_zero]⟩
  case round =>
    obtain ⟨k, hk, rfl, rfl⟩ := hrel
    have hn := (refN_bd a k).1
    by_cases hlt : b + k < 64
    · go_wp2
      go_round
      case rel => exact ⟨k + 1, by omega, by go_num, by rw [refN_succ]⟩
      case measure => simp [intOf]; omega
    · go_wp2
      go_ret
      exact ⟨ret_int (by unfold rslotI; rw [show (64 - b).toNat = k by omega]), rfl⟩
end Go.Proofs.Ytihcaldaknidcaa
