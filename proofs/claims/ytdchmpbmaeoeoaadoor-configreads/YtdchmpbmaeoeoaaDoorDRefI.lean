/-
  The document's Int.
-/
import Derived.Test.YtdchmpbmaeoeoaaDoorDRefN
namespace Go.Proofs.YtdchmpbmaeoeoaaDoor
open Go.Shelf Go.RowKit Go.Sort
open Go.Lib hiding intOf
set_option linter.unusedVariables false
set_option maxHeartbeats 400000 in
set_option maxRecDepth 100000 in
theorem rint_at (i : Int) (hi : Is64 i) (w : World) :
    Calls Tryd.prog 26 #[.int .i64 i] w fun e w' => e = .returned (.string (istr i)) ∧ Below w.heap.size w w' := by
  obtain ⟨h1, h2⟩ := hi
  by_cases hn : 0 ≤ i
  · obtain ⟨u, rfl⟩ : ∃ u : Nat, i = u := ⟨i.toNat, by omega⟩
    have c := rprint_at u (by omega) w
    obtain ⟨U, hU⟩ : ∃ U : Int, U = (u : Int) := ⟨_, rfl⟩
    have e : istr u = dstr u := by rw [istr, dstr, itoa_nonneg]
    rw [e]
    rw [← hU] at h1 h2 hn c ⊢
    have HU := Lib.hid hU
    clear hU
    have hw := wrap64 U hn (by omega)
    go_enter Tryd.func26, Tryd.ntmps26
    go_wp2_with (go_at_call 32; refine c.mono ?_; rintro e w' ⟨rfl, hb⟩)
    go_ret
    exact ⟨rfl, hb⟩
  · obtain ⟨u, hu⟩ : ∃ u : Nat, i = -(u : Int) := ⟨i.natAbs, by omega⟩
    have c := rprint_at u (by omega) w
    have e : istr i = ⟨(45 :: decDigits u).toArray⟩ := by rw [istr, hu, itoa_neg u (by omega)]
    have hl := dec_len u (by omega)
    rw [e]
    obtain ⟨U, hU⟩ : ∃ U : Int, U = (u : Int) := ⟨_, rfl⟩
    rw [← hU] at c hu
    have hw1 : IntKind.u64.wrap (IntKind.u64.wrap (-(i + 1)) + 1) = U := by rw [IntKind.wrap_u64, IntKind.wrap_u64]; omega
    have hw2 : IntKind.u64.wrap (-(i + 1) + 1) = U := by rw [IntKind.wrap_u64]; omega
    have HU := Lib.hid (And.intro hU hu)
    have HE := Lib.hid e
    clear hU hu e
    have e2 : dstr u = ⟨(decDigits u).toArray⟩ := rfl
    rw [e2] at c
    clear e2
    go_enter Tryd.func26, Tryd.ntmps26
    go_wp2_with (go_at_call 32; refine c.mono ?_; rintro e w' ⟨rfl, hb⟩)
    go_ret
    refine ⟨?_, hb⟩
    rw [str_app]
    rfl
end Go.Proofs.YtdchmpbmaeoeoaaDoor
