/-
  The document's table: Same, where both rows hold the same keys; New.
-/
import Derived.Test.YtnhjnciadmgkeaaDoorRef
namespace Go.Proofs.YtnhjnciadmgkeaaDoor
open Go.ChangeShapes Go.WideShapes Go.ChangeAt Go.RowKit
set_option linter.unusedVariables false

set_option maxHeartbeats 1000000 in
theorem same_at {w : World} {A B : Option Addr} {n c c' : Nat} {d e : Nat → Int} (hA : 0 < n → ∃ g, A = some ⟨g, 0, none⟩ ∧ DAt w g n d) (hB : 0 < n → ∃ g, B = some ⟨g, 0, none⟩ ∧ DAt w g n e) (he : ∀ i, i < n → d i = e i) (hn : n ≤ 1000000) :
    Calls Tryd.prog 10 #[.slice A n c, .slice B n c'] w fun r w' => r = .returned (.bool true) ∧ ∃ q, w' = w.drewN q := by
  have HA := Lib.hid hA
  have HB := Lib.hid hB
  have HE := Lib.hid he
  clear hA hB he
  go_enter Tryd.func10, Tryd.ntmps10
  go_wp2_with fail
  go_loopg [5] n (fun m v wr => ∃ (i q : Nat), v = .int .i64 (i : Int) ∧ m + i = n ∧ wr = w.drewN q)
  case atStart => exact ⟨0, 0, by go_num, by omega, (World.drewN_zero w).symm⟩
  case round =>
    obtain ⟨i, q, rfl, hmi, rfl⟩ := hrel
    by_cases hlt : i < n
    · obtain ⟨g, rfl, h1⟩ := HA.out (by omega)
      obtain ⟨g2, rfl, h2⟩ := HB.out (by omega)
      have hlb : decide ((i : Int) < (n : Int)) = true := by simp; omega
      have c1 := h1.cell hlt
      have c2 := h2.cell hlt
      rw [← HE.out i hlt] at c2
      have ix1 := ix34 g i n c hlt
      have ix2 := ix34 g2 i n c' hlt
      go_wp2_with fail
      go_quiet (fail)
      go_wp2_with fail
      go_roundg (n - (i + 1))
      case measure => omega
      case rel => exact ⟨i + 1, _, by go_num, by omega, rfl⟩
    · have hlb : decide ((i : Int) < (n : Int)) = false := by simp; omega
      go_wp2
      go_ret
      exact ⟨rfl, q, rfl⟩
theorem results_ref {fn : Func} {p : Tmp} (h : fn.results = #[.cell p 29]) (tmps : Array Value) (w : World) (g : Nat) (t : TypeId) (fr : Nat × Nat) (x y : Value)
    (hp : tmps.getD p undef = .pointer (some ⟨g, 0, none⟩)) (hg : w.heap[g]? = some (.cells #[x, y] t fr)) : (results fn tmps).run Tryd.prog w = .ok (.agg #[x, y]) w := by
  have hp' : tmps[p]?.getD undef = .pointer (some ⟨g, 0, none⟩) := by simpa using hp
  simp only [results, h]
  simp [hp', asAddr, run_loadVar_row w g t 29 #[x, y] fr _ hg Tryd.underlying29 rfl (by kernel_rfl)]
theorem rnew_at (w : World) : Calls Tryd.prog 9 #[] w fun r w' => r = .returned (.agg #[.slice none 0 0, .int .i64 8]) ∧ w.grownBy w' none := by
  go_enter Tryd.func9, Tryd.ntmps9
  go_wp2
  refine bodyPost_ret (results_ref rfl _ _ _ _ _ _ _ rfl (heap_alloc_new w _)) rfl ?_
  exact ⟨rfl, World.grownBy_alloc w _ none⟩
end Go.Proofs.YtnhjnciadmgkeaaDoor
