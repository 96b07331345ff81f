/-
  What package mix tells of slots and of no bytes, and that the document's examples hold ('alive').
-/
import Derived.Test.YtihcaldaknidcaaWalks
import Derived.LoopTactic
namespace Go.Proofs.Ytihcaldaknidcaa
open Go.ChangeShapes Go.WideShapes Go.ChangeAt Go.RowKit
set_option linter.unusedVariables false

theorem slot_yes (a b : Int) (w : World) (h : 0 ≤ a) (h0 : 1 ≤ b) (h1 : b ≤ 30) :
    Calls Try.prog 11 #[.int .u64 a, .int .i64 b] w fun e w' => e = .returned (.int .i64 (wrap64 (mixI a / 2 ^ (64 - b).toNat))) ∧ w = w' := by
  go_enter Try.func11, Try.ntmps11
  go_wp2_with (go_at_call 7; refine (mix_any _ _ h).mono ?_; rintro e w' ⟨rfl, rfl⟩)
  go_ret
  exact ⟨rfl, rfl⟩

theorem slot_no (a b : Int) (w : World) (h : b < 1 ∨ 30 < b) :
    Calls Try.prog 11 #[.int .u64 a, .int .i64 b] w fun e w' => e = .returned (.int .i64 0) ∧ w = w' := by
  rcases h with h | h
  · go_enter Try.func11, Try.ntmps11
    go_wp2
    go_ret
    exact ⟨rfl, rfl⟩
  · have h' : 1 ≤ b := by omega
    go_enter Try.func11, Try.ntmps11
    go_wp2
    go_ret
    exact ⟨rfl, rfl⟩

/-- no bytes -/
theorem bytes_none (ad : Option Addr) (cap : Nat) (w : World) :
    Calls Try.prog 13 #[.slice ad 0 cap] w fun e w' => e = .returned (.int .u64 11400714819323198485) ∧ w = w' := by
  go_enter Try.func13, Try.ntmps13
  go_wp2
  refine wp_loop_rounds 1 ?_
  rw [rounds_succ]
  go_wp2
  go_ret
  exact ⟨rfl, rfl⟩

theorem mix0 : (mixI 0 == 0) = true := by decide +kernel
theorem back7 : (backI (mixI 7) == 7) = true := by decide +kernel
theorem mix7 : (mixI 7 != 7) = true := by decide +kernel
theorem mix7_nonneg : 0 ≤ mixI 7 := by decide +kernel

theorem alive_any (w : World) : Calls Try.prog 9 #[] w fun e w' => e = .returned (.bool true) ∧ w = w' := by
  have e0 := mix0
  have e1 := back7
  have e2 := mix7
  have e3 := mix7_nonneg
  go_enter Try.func9, Try.ntmps9
  go_wp2_with (first
    | (go_at_call 7; refine (mix_any _ _ (by omega)).mono ?_; rintro e w' ⟨rfl, rfl⟩)
    | (go_at_call 10; refine (back_any _ _ (by exact mix7_nonneg)).mono ?_; rintro e w' ⟨rfl, rfl⟩)
    | (go_at_call 11; refine (slot_no _ _ _ (Or.inl (by omega))).mono ?_; rintro e w' ⟨rfl, rfl⟩)
    | (go_at_call 13; refine (bytes_none _ _ _).mono ?_; rintro e w' ⟨rfl, rfl⟩))
  go_ret
  exact ⟨rfl, rfl⟩
end Go.Proofs.Ytihcaldaknidcaa
