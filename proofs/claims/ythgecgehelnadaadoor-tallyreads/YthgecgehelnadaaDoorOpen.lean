/-
  Counts that are handed in: ten numbers.
-/
import Derived.Test.YthgecgehelnadaaDoorText
import Derived.WalkKit
import Derived.ProofKit
import Derived.OpenShut
import Derived.ChangeOld
import Derived.Below
import Derived.ChangeSame
namespace Go.Proofs.YthgecgehelnadaaDoor
open Go.ChangeShapes Go.WideShapes Go.ChangeAt Go.RowKit
set_option linter.unusedVariables false
theorem list10 {α : Type} {l : List α} (h : l.length = 10) : ∃ a0 a1 a2 a3 a4 a5 a6 a7 a8 a9, l = [a0, a1, a2, a3, a4, a5, a6, a7, a8, a9] := by
  match l, h with
  | [a0, a1, a2, a3, a4, a5, a6, a7, a8, a9], _ => exact ⟨a0, a1, a2, a3, a4, a5, a6, a7, a8, a9, rfl⟩
theorem cells24 : Tryd.prog.cellsOf 24 = 10 := by kernel_rfl
theorem cells22 : Tryd.prog.cellsOf 22 = 1 := by kernel_rfl
theorem wf_u64 {n : Int} (h : (Lit.int .u64 n).wf = true) : 0 ≤ n ∧ n < 18446744073709551616 := by
  have := Go.bounds_u64 h; omega
theorem open_ten {H : Type} {enc : TypeId × Value → H} {w : World} {base : Nat} {spare : Nat → Bool} {held : Bool} {fuel : Nat} {cs : Array Value} {x : DataW H × List MemPlace} (h : DataW.trod enc Tryd.prog w base spare held fuel 24 (Value.agg cs).cells.toList = some x) :
    ∃ c : List Int, c.length = 10 ∧ U64s c ∧ cs = ca c := by
  obtain ⟨xs, n, _, _, hl, hlen, hf⟩ := DataW.trod_struct Tryd.underlying24 h
  rw [cells24] at hl
  obtain ⟨l⟩ := cs
  simp only [Value.cells] at hl hf
  have hlen' : xs.length = 10 := hlen
  obtain ⟨v0, v1, v2, v3, v4, v5, v6, v7, v8, v9, rfl⟩ := list10 hl
  obtain ⟨y0, y1, y2, y3, y4, y5, y6, y7, y8, y9, rfl⟩ := list10 hlen'
  have g : ∀ (i : Nat) (f : Field) (v : Value) (y : DataW H × List MemPlace), #[v0, v1, v2, v3, v4, v5, v6, v7, v8, v9].toList[f.offset]? = some v → DataW.trod enc Tryd.prog w base spare held n f.type (([v0, v1, v2, v3, v4, v5, v6, v7, v8, v9].drop f.offset).take (Tryd.prog.cellsOf f.type)) = some y → f.type = 22 → ∃ p : Int, v = .int .u64 p ∧ 0 ≤ p ∧ p < 18446744073709551616 := by
    intro i f v y hv hy ht
    rw [ht, cells22] at hy
    have e : (([v0, v1, v2, v3, v4, v5, v6, v7, v8, v9].drop f.offset).take 1) = [v] := by
      have hv' : [v0, v1, v2, v3, v4, v5, v6, v7, v8, v9][f.offset]? = some v := hv
      obtain ⟨h1, h2⟩ := List.getElem?_eq_some_iff.1 hv'
      rw [List.drop_eq_getElem_cons h1, h2]
      rfl
    rw [e] at hy
    obtain ⟨p, hp, _, hw⟩ := DataW.trod_int Tryd.underlying22 hy
    cases hp
    exact ⟨p, rfl, wf_u64 hw⟩
  obtain ⟨p0, rfl, u0⟩ := g 0 _ v0 y0 rfl (hf 0 _ rfl) rfl
  obtain ⟨p1, rfl, u1⟩ := g 1 _ v1 y1 rfl (hf 1 _ rfl) rfl
  obtain ⟨p2, rfl, u2⟩ := g 2 _ v2 y2 rfl (hf 2 _ rfl) rfl
  obtain ⟨p3, rfl, u3⟩ := g 3 _ v3 y3 rfl (hf 3 _ rfl) rfl
  obtain ⟨p4, rfl, u4⟩ := g 4 _ v4 y4 rfl (hf 4 _ rfl) rfl
  obtain ⟨p5, rfl, u5⟩ := g 5 _ v5 y5 rfl (hf 5 _ rfl) rfl
  obtain ⟨p6, rfl, u6⟩ := g 6 _ v6 y6 rfl (hf 6 _ rfl) rfl
  obtain ⟨p7, rfl, u7⟩ := g 7 _ v7 y7 rfl (hf 7 _ rfl) rfl
  obtain ⟨p8, rfl, u8⟩ := g 8 _ v8 y8 rfl (hf 8 _ rfl) rfl
  obtain ⟨p9, rfl, u9⟩ := g 9 _ v9 y9 rfl (hf 9 _ rfl) rfl
  refine ⟨[p0, p1, p2, p3, p4, p5, p6, p7, p8, p9], rfl, fun x hx => ?_, rfl⟩
  simp only [List.mem_cons, List.not_mem_nil, or_false] at hx
  rcases hx with rfl | rfl | rfl | rfl | rfl | rfl | rfl | rfl | rfl | rfl <;> assumption
end Go.Proofs.YthgecgehelnadaaDoor
