/-
  What the listed table gives the walks, and a start that meets it.
-/
import Derived.Test.YtjdapbianbikpaaDoorWalks
import Derived.Test.YtjdapbianbikpaaDoorRows
import Derived.Lib.LaidTab
import Derived.LaidMore
import Derived.Stop.Joined
namespace Go.Proofs.YtjdapbianbikpaaDoor
open Go.ChangeShapes Go.WideShapes Go.ChangeAt Go.WideMaps Go.WideElems Go.RowKit

theorem gTab : Tryd.prog.globalNamed "math/bits.deBruijn64tab" = some 0 := by kernel_rfl
theorem tTab : (Tryd.prog.globals[0]?).map (·.type) = some 59 := by kernel_rfl
theorem u59 : Tryd.prog.underlying 59 = some (.array 64 5) := by kernel_rfl
abbrev laid1 : List (String × DataW Unit) := [("math/bits.deBruijn64tab", Rows.laid_math_bits_deBruijn64tab)]

theorem door_met (os : Os) (args : Array Value) : laidMetH Tryd.prog laid1 ((World.doorLaid Tryd.prog 400 os).forCall (fun _ _ => 0) ⟨#[], args, []⟩).memory :=
  laidMetH_of_parts3 (fuel := 8) (laidMet_of_run' 8 (by kernel_rfl) (by kernel_rfl)) (by kernel_rfl) (by kernel_rfl)

theorem laid_tab {W : World} (h : laidMetH Tryd.prog laid1 W) : Tab W ∧ 0 < W.heap.size := by
  rw [MakeChecks.laidMetH_plain _ _ _ (by kernel_rfl)] at h
  have hT : Lib.TabIs Tryd.prog W "math/bits.deBruijn64tab" .u8 (tab.map fun n : Nat => (n : Int)) := Lib.tabIs_of_head gTab tTab u59 Tryd.underlying5 (by kernel_rfl) (by kernel_rfl) (rest := []) h
  have hc : Tab W := fun i hi => by
    have := hT.cell gTab i (by simpa [tab] using hi)
    rw [this]
    congr 2
    simp only [List.getD, List.getElem?_map]
    cases tab[i]? <;> rfl
  exact ⟨hc, block_lt_of_cell (hc 0 (by decide))⟩
end Go.Proofs.YtjdapbianbikpaaDoor
