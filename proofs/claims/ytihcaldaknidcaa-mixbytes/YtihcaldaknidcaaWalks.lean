/-
  What each function of package mix, and of the document's answer to it, returns: a contract a function.
-/
import Derived.Test.YtihcaldaknidcaaRows
import Derived.Test.YtihcaldaknidcaaMath
import Derived.WalkKit
import Derived.ProofKit
import Derived.OpenShut
import Derived.WalkLawsBesides
import Derived.BigQuiet
import Derived.Deep.QuietTactic
namespace Go.Proofs.Ytihcaldaknidcaa
open Go.ChangeShapes Go.WideShapes Go.ChangeAt Go.RowKit
set_option linter.unusedVariables false

theorem ret_int {k : IntKind} {a b : Int} (h : a = b) : Ending.returned (.int k a) = .returned (.int k b) := by rw [h]

theorem sh_any (a s : Int) (w : World) (h : 0 ≤ a) (h0 : 0 ≤ s) (h1 : s ≤ 31) :
    Calls Try.prog 15 #[.int .u64 a, .int .u64 s] w fun e w' => e = .returned (.int .u64 (shI a s)) ∧ w = w' := by
  go_enter Try.func15, Try.ntmps15
  go_wp2
  go_ret
  exact ⟨rfl, rfl⟩

theorem un_any (a s : Int) (w : World) (h : 0 ≤ a) (h0 : 0 ≤ s) (h1 : s ≤ 31) :
    Calls Try.prog 17 #[.int .u64 a, .int .u64 s] w fun e w' => e = .returned (.int .u64 (unI a s)) ∧ w = w' := by
  go_enter Try.func17, Try.ntmps17
  go_wp2
  go_ret
  exact ⟨rfl, rfl⟩

theorem hf_any (a d : Int) (w : World) (h : 0 ≤ a) (h0 : 1 ≤ d) :
    Calls Try.prog 16 #[.int .u64 a, .int .u64 d] w fun e w' => e = .returned (.int .u64 (hfI a d)) ∧ w = w' := by
  go_enter Try.func16, Try.ntmps16
  go_wp2
  go_ret
  exact ⟨rfl, rfl⟩

theorem mix_any (a : Int) (w : World) (h : 0 ≤ a) :
    Calls Try.prog 7 #[.int .u64 a] w fun e w' => e = .returned (.int .u64 (mixI a)) ∧ w = w' := by
  go_enter Try.func7, Try.ntmps7
  go_wp2_with (go_at_call 15; refine (sh_any _ _ _ (by first | exact h | exact nonneg_wrap _) (by omega) (by omega)).mono ?_; rintro e w' ⟨rfl, rfl⟩)
  go_ret
  exact ⟨rfl, rfl⟩

theorem back_any (a : Int) (w : World) (h : 0 ≤ a) :
    Calls Try.prog 10 #[.int .u64 a] w fun e w' => e = .returned (.int .u64 (backI a)) ∧ w = w' := by
  go_enter Try.func10, Try.ntmps10
  go_wp2_with (go_at_call 17; refine (un_any _ _ _ (by first | exact h | exact nonneg_wrap _) (by omega) (by omega)).mono ?_; rintro e w' ⟨rfl, rfl⟩)
  go_ret
  exact ⟨rfl, rfl⟩

theorem ref_any (a : Int) (w : World) (h : 0 ≤ a) :
    Calls Try.prog 8 #[.int .u64 a] w fun e w' => e = .returned (.int .u64 (refI a)) ∧ w = w' := by
  go_enter Try.func8, Try.ntmps8
  go_wp2_with (go_at_call 16; refine (hf_any _ _ _ (by first | exact h | exact nonneg_wrap _) (by omega)).mono ?_; rintro e w' ⟨rfl, rfl⟩)
  go_ret
  exact ⟨rfl, rfl⟩
end Go.Proofs.Ytihcaldaknidcaa
