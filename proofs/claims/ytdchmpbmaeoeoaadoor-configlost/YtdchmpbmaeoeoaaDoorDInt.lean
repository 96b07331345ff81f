/-
  Numbers that may be below 0 told: Itoa; Int.
-/
import Derived.Test.YtdchmpbmaeoeoaaDoorDEnvT
namespace Go.Proofs.YtdchmpbmaeoeoaaDoor
open Go.Shelf Go.RowKit Go.Sort Go.Lib
set_option linter.unusedVariables false
theorem itoa_at (i : Int) (hi : Is64 i) (w : World) (he : EnvT w) :
    Calls Tryd.prog 31 #[.int .i64 i] w fun e w' => e = .returned (.string (istr i)) ∧ Below w.heap.size w w' := by
  have c : Calls Tryd.prog 31 #[.int .i64 i] w fun e w' => e = .returned (.string (istr i)) ∧ ∃ k os, w' = grow (w.drewN k) os := Any.strconv_Itoa lI i hi.1 hi.2 w he.tab
  exact c.mono fun e w' ⟨h1, k, os, h2⟩ => ⟨h1, h2 ▸ grow_below _ _ _⟩
theorem int_at (i : Int) (hi : Is64 i) (w : World) (he : EnvT w) :
    Calls Tryd.prog 25 #[.int .i64 i] w fun e w' => e = .returned (.string (istr i)) ∧ Below w.heap.size w w' := by
  go_enter Tryd.func25, Tryd.ntmps25
  go_wp2_with (go_at_call 31; refine (itoa_at i hi _ he).mono ?_; rintro e w' ⟨rfl, hb⟩)
  go_ret
  exact ⟨rfl, hb⟩
end Go.Proofs.YtdchmpbmaeoeoaaDoor
