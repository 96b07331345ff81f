/-
  A config that is handed in: four numbers.
-/
import Derived.Test.YtdchmpbmaeoeoaaDoorPrn
import Derived.WalkKit
import Derived.ProofKit
import Derived.OpenShut
import Derived.ChangeOld
import Derived.Below
import Derived.ChangeSame
namespace Go.Proofs.YtdchmpbmaeoeoaaDoor
open Go.ChangeShapes Go.WideShapes Go.ChangeAt Go.RowKit
set_option linter.unusedVariables false
theorem list4 {α : Type} {l : List α} (h : l.length = 4) : ∃ a0 a1 a2 a3, l = [a0, a1, a2, a3] := by
  match l, h with
  | [a0, a1, a2, a3], _ => exact ⟨a0, a1, a2, a3, rfl⟩
theorem cells24 : Tryd.prog.cellsOf 24 = 4 := by kernel_rfl
theorem cells22 : Tryd.prog.cellsOf 22 = 1 := by kernel_rfl
theorem cells3 : Tryd.prog.cellsOf 3 = 1 := by kernel_rfl
theorem wf_i64 {n : Int} (h : (Lit.int .i64 n).wf = true) : Is64 n := by
  have := Go.bounds_i64 h; unfold Is64; omega
theorem open_four {H : Type} {enc : TypeId × Value → H} {w : World} {base : Nat} {spare : Nat → Bool} {held : Bool} {fuel : Nat} {cs : Array Value} {x : DataW H × List MemPlace} (h : DataW.trod enc Tryd.prog w base spare held fuel 24 (Value.agg cs).cells.toList = some x) :
    ∃ p c q g : Int, (Is64 p ∧ Is64 c ∧ Is64 q ∧ Is64 g) ∧ cs = #[.int .i64 p, .int .i64 c, .int .i64 q, .int .i64 g] := by
  obtain ⟨xs, n, _, _, hl, hlen, hf⟩ := DataW.trod_struct Tryd.underlying24 h
  rw [cells24] at hl
  obtain ⟨l⟩ := cs
  simp only [Value.cells] at hl hf
  have hlen' : xs.length = 4 := hlen
  obtain ⟨v0, v1, v2, v3, rfl⟩ := list4 hl
  obtain ⟨y0, y1, y2, y3, rfl⟩ := list4 hlen'
  have g : ∀ (T : TypeId) (hT : Tryd.prog.cellsOf T = 1) (hU : Tryd.prog.underlying T = some (.int .i64)) (i : Nat) (f : Field) (v : Value) (y : DataW H × List MemPlace), #[v0, v1, v2, v3].toList[f.offset]? = some v → DataW.trod enc Tryd.prog w base spare held n f.type (([v0, v1, v2, v3].drop f.offset).take (Tryd.prog.cellsOf f.type)) = some y → f.type = T → ∃ p : Int, v = .int .i64 p ∧ Is64 p := by
    intro T hT hU i f v y hv hy ht
    rw [ht, hT] at hy
    have e : (([v0, v1, v2, v3].drop f.offset).take 1) = [v] := by
      have hv' : [v0, v1, v2, v3][f.offset]? = some v := hv
      obtain ⟨h1, h2⟩ := List.getElem?_eq_some_iff.1 hv'
      rw [List.drop_eq_getElem_cons h1, h2]
      rfl
    rw [e] at hy
    obtain ⟨p, hp, _, hw⟩ := DataW.trod_int hU hy
    cases hp
    exact ⟨p, rfl, wf_i64 hw⟩
  obtain ⟨p0, rfl, u0⟩ := g 22 cells22 Tryd.underlying22 0 _ v0 y0 rfl (hf 0 _ rfl) rfl
  obtain ⟨p1, rfl, u1⟩ := g 3 cells3 Tryd.underlying3 1 _ v1 y1 rfl (hf 1 _ rfl) rfl
  obtain ⟨p2, rfl, u2⟩ := g 3 cells3 Tryd.underlying3 2 _ v2 y2 rfl (hf 2 _ rfl) rfl
  obtain ⟨p3, rfl, u3⟩ := g 3 cells3 Tryd.underlying3 3 _ v3 y3 rfl (hf 3 _ rfl) rfl
  exact ⟨p0, p1, p2, p3, ⟨u0, u1, u2, u3⟩, rfl⟩
end Go.Proofs.YtdchmpbmaeoeoaaDoor
