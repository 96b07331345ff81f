/-
  The document's vault: first.
-/
import Derived.Test.YthpcjgfbngemiaaRefF
import Derived.Deep.RegionWith
namespace Go.Proofs.Ythpcjgfbngemiaa
open Go.ChangeShapes Go.WideShapes Go.ChangeAt Go.RowKit
set_option linter.unusedVariables false
set_option maxRecDepth 100000
def rStep (room : Int) (l : List RB) (m best e : Int) : Int := if rFit room l e m = true ∧ (best < 0 ∨ e < best) then e else best
def rBest (room : Int) (l : List RB) (m : Int) (es : List Int) : Int := es.foldl (rStep room l m) (-1)
theorem rBest_take {room : Int} {l : List RB} {m : Int} {es : List Int} {k : Nat} {e : Int} (h : es[k]? = some e) : rBest room l m (es.take (k + 1)) = rStep room l m (rBest room l m (es.take k)) e := by
  unfold rBest
  rw [List.take_add_one, h]
  simp [List.foldl_append]
theorem rE_sm {l : List RB} (h : RSm l) : ∀ e ∈ rE l, 0 ≤ e ∧ e ≤ 20000000 := by
  intro e he
  unfold rE at he
  rcases List.mem_cons.1 he with rfl | he
  · omega
  · obtain ⟨x, hx, rfl⟩ := List.mem_map.1 he
    have := h x hx
    omega
end Go.Proofs.Ythpcjgfbngemiaa
