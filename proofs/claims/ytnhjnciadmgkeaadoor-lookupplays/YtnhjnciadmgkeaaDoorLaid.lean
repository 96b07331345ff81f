/-
  What the listed tables give the walks, and a start that meets them.
-/
import Derived.Test.YtnhjnciadmgkeaaDoorPlace
import Derived.Test.YtnhjnciadmgkeaaDoorRows
import Derived.Lib.LaidTab
import Derived.LaidMore
import Derived.Stop.Joined
namespace Go.Proofs.YtnhjnciadmgkeaaDoor
open Go.ChangeShapes Go.WideShapes Go.ChangeAt Go.WideMaps Go.WideElems Go.RowKit

theorem gTab : Tryd.prog.globalNamed "math/bits.deBruijn64tab" = some 1 := by kernel_rfl
theorem tTab : (Tryd.prog.globals[1]?).map (·.type) = some 93 := by kernel_rfl
theorem u93 : Tryd.prog.underlying 93 = some (.array 64 5) := by kernel_rfl
abbrev laid1 : List (String × DataW Unit) := [("math/bits.deBruijn32tab", Rows.laid_math_bits_deBruijn32tab), ("math/bits.deBruijn64tab", Rows.laid_math_bits_deBruijn64tab)]

theorem door_met (os : Os) (args : Array Value) : laidMetH Tryd.prog laid1 ((World.doorLaid Tryd.prog 400 os).forCall (fun _ _ => 0) ⟨#[], args, []⟩).memory :=
  laidMetH_of_parts3 (fuel := 8) (laidMet_of_run' 8 (by kernel_rfl) (by kernel_rfl)) (by kernel_rfl) (by kernel_rfl)

theorem laid_tab {W : World} (h : laidMetH Tryd.prog laid1 W) : Tab W ∧ 1 < W.heap.size := by
  rw [MakeChecks.laidMetH_plain _ _ _ (by kernel_rfl)] at h
  have h2 : laidMet Tryd.prog [("math/bits.deBruijn64tab", Rows.laid_math_bits_deBruijn64tab)] W := by
    obtain ⟨ps, ⟨g, t, cs, fuel, p, q, _, _, _, _, hr, rfl⟩, hn, hc⟩ := h
    exact ⟨q, hr, (List.nodup_append.1 hn).2.1, fun b off hb => hc b off (by simp [hb])⟩
  have hT : Lib.TabIs Tryd.prog W "math/bits.deBruijn64tab" .u8 (tab.map fun n : Nat => (n : Int)) := Lib.tabIs_of_head gTab tTab u93 Tryd.underlying5 (by kernel_rfl) (by kernel_rfl) (rest := []) h2
  have hc : Tab W := fun i hi => by
    have := hT.cell gTab i (by simpa [tab] using hi)
    rw [this]
    congr 2
    simp only [List.getD, List.getElem?_map]
    cases tab[i]? <;> rfl
  exact ⟨hc, block_lt_of_cell (hc 0 (by decide))⟩
end Go.Proofs.YtnhjnciadmgkeaaDoor
