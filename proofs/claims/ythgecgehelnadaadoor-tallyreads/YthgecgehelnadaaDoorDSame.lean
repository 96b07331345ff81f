/-
  The document's Same.
-/
import Derived.Test.YthgecgehelnadaaDoorDRow
namespace Go.Proofs.YthgecgehelnadaaDoor
open Go.Shelf Go.RowKit Go.Sort
open Go.Lib hiding intOf
set_option linter.unusedVariables false
set_option maxHeartbeats 400000 in
set_option maxRecDepth 100000 in
theorem same_at (l : List (List UInt8)) (A B : Option Addr) (n cA cB : Nat) (hn : n = l.length) (h50 : n ≤ 1000000) (w : World) (hA : SRow w A l) (hB : SRow w B l) :
    Calls Tryd.prog 10 #[.slice A n cA, .slice B n cB] w fun e w' => e = .returned (.bool true) ∧ Below w.heap.size w w' := by
  have HL := Lib.hid hn
  have HA := Lib.hid hA
  have HB := Lib.hid hB
  clear hn hA hB
  go_enter Tryd.func10, Tryd.ntmps10
  go_wp2
  go_loopw [5] (fun i wr => ∃ (k q : Nat), k ≤ n ∧ i = .int .i64 (k : Int) ∧ wr = w.drewN q) (fun i _ => n - (intOf i).toNat)
  case atStart => exact ⟨0, 0, by omega, by go_num, rfl⟩
  case round =>
    obtain ⟨k, q, hk, rfl, rfl⟩ := hrel
    by_cases hlt : k < n
    · have hkl : k < l.length := by have := HL.out; omega
      rcases HA.out with e | ⟨b, off, e, hc⟩
      · rw [e] at hkl; simp at hkl
      · rcases HB.out with e2 | ⟨b2, off2, e2, hc2⟩
        · rw [e2] at hkl; simp at hkl
        · subst e e2
          obtain ⟨x, hx⟩ : ∃ x, x = mkS l[k] := ⟨_, rfl⟩
          have d1 : w.cell? ⟨b, off + k, none⟩ = some (.string x) := by rw [hc k hkl, hx]
          have d2 : w.cell? ⟨b2, off2 + k, none⟩ = some (.string x) := by rw [hc2 k hkl, hx]
          clear hc hc2 hx
          go_wp2_with fail
          go_quiet (fail)
          rename_i nq
          go_wp2
          go_round
          case rel => exact ⟨k + 1, q + nq, by omega, by go_num, rfl⟩
          case measure => simp only [intOf]; omega
    · go_wp2
      go_ret
      exact ⟨rfl, below_drew (Below.refl _ _) q⟩
end Go.Proofs.YthgecgehelnadaaDoor
