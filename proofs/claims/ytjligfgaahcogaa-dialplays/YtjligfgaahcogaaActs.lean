/-
  Acts that came in.
-/
import Derived.Test.YtjligfgaahcogaaStep
import Derived.Lib.SmallJoins
import Derived.Deep.Strs
import Derived.ChangeSame
import Derived.Below
namespace Go.Proofs.Ytjligfgaahcogaa
open Go.ChangeShapes Go.WideShapes Go.ChangeAt Go.RowKit
set_option linter.unusedVariables false

structure ActV where
  kind : Int
  hand : Int
  n : Int
def ActV.ok (a : ActV) : Prop := (Lit.int .i64 a.kind).wf = true ∧ (Lit.int .i64 a.hand).wf = true ∧ (Lit.int .i32 a.n).wf = true
theorem ActV.ok.n32 {a : ActV} (h : a.ok) : i32in a.n := by
  have := bounds_i32 h.2.2
  constructor <;> omega
/-- the slice at A reads as the acts -/
def ActsAt (w : World) (A : Option Addr) (l : List ActV) : Prop :=
  l = [] ∨ ∃ b off, A = some ⟨b, off, none⟩ ∧ b < w.heap.size ∧ ∀ (i : Nat) (a : ActV), l[i]? = some a → w.cell? ⟨b, off + i * 3, none⟩ = some (.int .i64 a.kind) ∧ w.cell? ⟨b, off + i * 3 + 1, none⟩ = some (.int .i64 a.hand) ∧
    w.cell? ⟨b, off + i * 3 + 2, none⟩ = some (.int .i32 a.n)
theorem ActsAt.kept {w w' : World} {A : Option Addr} {l : List ActV} (h : ActsAt w A l) (hg : w.grownBy w' none) : ActsAt w' A l := by
  rcases h with h | ⟨b, off, rfl, hlt, hc⟩
  · exact .inl h
  · refine .inr ⟨b, off, rfl, Nat.lt_of_lt_of_le hlt hg.size, fun i a hi => ?_⟩
    obtain ⟨h0, h1, h2⟩ := hc i a hi
    exact ⟨hg.cell h0 (by simp), hg.cell h1 (by simp), hg.cell h2 (by simp)⟩
theorem ActsAt.some {w : World} {A : Option Addr} {l : List ActV} (h : ActsAt w A l) {i : Nat} {a : ActV} (hi : l[i]? = some a) :
    ∃ b off, A = some ⟨b, off, none⟩ ∧ b < w.heap.size ∧ w.cell? ⟨b, off + i * 3, none⟩ = some (.int .i64 a.kind) ∧ w.cell? ⟨b, off + i * 3 + 1, none⟩ = some (.int .i64 a.hand) ∧
    w.cell? ⟨b, off + i * 3 + 2, none⟩ = some (.int .i32 a.n) := by
  rcases h with rfl | ⟨b, off, rfl, hlt, hc⟩
  · simp at hi
  · exact ⟨b, off, rfl, hlt, hc i a hi⟩

section
variable {H : Type} {enc : TypeId × Value → H} {w : World} {base : Nat} {spare : Nat → Bool} {held : Bool}
theorem cells22 : Try.prog.cellsOf 35 = 3 := by kernel_rfl
theorem addr_plain {x : Addr} {v : Value} (h : w.cell? (x.add 0) = some v) : ∃ b off, x = ⟨b, off, none⟩ := by
  obtain ⟨b, off, sp⟩ := x
  cases sp with
  | none => exact ⟨b, off, rfl⟩
  | some s =>
    exfalso
    unfold World.cell? Addr.add at h
    simp at h
    split at h <;> simp at h
theorem list3 {α : Type} {l : List α} (h : l.length = 3) : ∃ a b c, l = [a, b, c] := by
  match l, h with
  | [a, b, c], _ => exact ⟨a, b, c, rfl⟩
theorem open_acts {fuel : Nat} {A : Option Addr} {len cap : Nat} {x : DataW H × List MemPlace} (h : DataW.trod enc Try.prog w base spare held fuel 22 (Value.slice A len cap).cells.toList = some x) :
    ∃ l : List ActV, l.length = len ∧ (∀ a ∈ l, a.ok) ∧ ActsAt w A l := by
  rcases Go.Deep.open_slice Try.underlying22 h with ⟨hcs, _⟩ | ⟨a, l, c, m, n, D, Pl, hcs, _, hl, hm, hmm, _, hel⟩
  · simp [Value.cells] at hcs
    obtain ⟨rfl, rfl, rfl⟩ := hcs
    exact ⟨[], rfl, by simp, .inl rfl⟩
  · simp [Value.cells] at hcs
    obtain ⟨rfl, rfl, rfl⟩ := hcs
    have hml : len ≤ m := by rw [hmm]; split <;> omega
    have key : ∀ i, i < len → ∃ av : ActV, av.ok ∧ w.cell? (a.add (i * 3)) = some (.int .i64 av.kind) ∧ w.cell? (a.add (i * 3 + 1)) = some (.int .i64 av.hand) ∧ w.cell? (a.add (i * 3 + 2)) = some (.int .i32 av.n) := by
      intro i hi
      obtain ⟨cs', hc, ht⟩ := hel i (by omega)
      rw [cells22] at hc
      obtain ⟨y0, y1, y2, n', _, hlen, t0, t1, t2⟩ := Go.Deep.trod_struct3 Try.underlying35 ht
      rw [cells22] at hlen
      obtain ⟨v0, v1, v2, rfl⟩ := list3 hlen
      · clear hlen
        have e0 : ([v0, v1, v2].drop 0).take (Try.prog.cellsOf 3) = [v0] := by rw [show Try.prog.cellsOf 3 = 1 by kernel_rfl]; rfl
        have e1 : ([v0, v1, v2].drop 1).take (Try.prog.cellsOf 3) = [v1] := by rw [show Try.prog.cellsOf 3 = 1 by kernel_rfl]; rfl
        have e2 : ([v0, v1, v2].drop 2).take (Try.prog.cellsOf 21) = [v2] := by rw [show Try.prog.cellsOf 21 = 1 by kernel_rfl]; rfl
        simp only at t0 t1 t2
        rw [e0] at t0
        rw [e1] at t1
        rw [e2] at t2
        obtain ⟨k, hk, _, wk⟩ := DataW.trod_int Try.underlying3 t0
        obtain ⟨p, hp, _, wp⟩ := DataW.trod_int Try.underlying3 t1
        obtain ⟨t, htt, _, wt⟩ := DataW.trod_int Try.underlying21 t2
        cases hk; cases hp; cases htt
        refine ⟨⟨k, p, t⟩, ⟨wk, wp, wt⟩, ?_⟩
        have hcc : ∀ j u, [Value.int .i64 k, .int .i64 p, .int .i32 t][j]? = some u → w.cell? ((a.add (i * 3)).add j) = some u := fun j u hj => by
          have hj4 : j < 3 := by have := (List.getElem?_eq_some_iff.1 hj).1; simpa using this
          exact ((World.cells?_some hc).2.2 j hj4).trans hj
        have q0 := hcc 0 _ rfl
        have q1 := hcc 1 _ rfl
        have q2 := hcc 2 _ rfl
        rw [Go.Deep.add_add] at q0 q1 q2
        exact ⟨q0, q1, q2⟩
    by_cases h0 : len = 0
    · subst h0; exact ⟨[], rfl, by simp, .inl rfl⟩
    · have key' : ∃ f : Nat → ActV, ∀ i, i < len → (f i).ok ∧ w.cell? (a.add (i * 3)) = some (.int .i64 (f i).kind) ∧ w.cell? (a.add (i * 3 + 1)) = some (.int .i64 (f i).hand) ∧ w.cell? (a.add (i * 3 + 2)) = some (.int .i32 (f i).n) := by
        refine ⟨fun i => if h : i < len then (key i h).choose else ⟨0, 0, 0⟩, fun i hi => ?_⟩
        simp only [dif_pos hi]
        exact (key i hi).choose_spec
      obtain ⟨f, hf⟩ := key'
      obtain ⟨b, off, rfl⟩ := addr_plain (x := a) (by have := (hf 0 (by omega)).2.1; simpa using this)
      have hb := block_lt_of_cell (hf 0 (by omega)).2.1
      rw [Go.WideShapes.add_plain] at hb
      refine ⟨(List.range len).map f, by simp, fun x hx => ?_, .inr ⟨b, off, rfl, hb, fun i x hi => ?_⟩⟩
      · obtain ⟨i, hi, rfl⟩ := List.mem_map.1 hx
        exact (hf i (List.mem_range.1 hi)).1
      · have hil : i < len := by have := (List.getElem?_eq_some_iff.1 hi).1; simpa using this
        rw [List.getElem?_map, List.getElem?_range hil] at hi
        injection hi with hi
        subst hi
        have h := (hf i hil).2
        simp only [Go.WideShapes.add_plain] at h
        exact h
end
end Go.Proofs.Ytjligfgaahcogaa
