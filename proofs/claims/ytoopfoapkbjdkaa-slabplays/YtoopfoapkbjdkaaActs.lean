/-
  Acts that came in, and handles that are stale.
-/
import Derived.Test.YtoopfoapkbjdkaaAlive
import Derived.Deep.Strs
import Derived.ChangeSame
import Derived.Below
namespace Go.Proofs.Ytoopfoapkbjdkaa
open Go.ChangeShapes Go.WideShapes Go.ChangeAt Go.RowKit
set_option linter.unusedVariables false

structure ActV where
  kind : Int
  place : Int
  turn : Int
  v : Int
def ActV.ok (a : ActV) : Prop := (Lit.int .i64 a.kind).wf = true ∧ (Lit.int .i32 a.place).wf = true ∧ (Lit.int .u32 a.turn).wf = true ∧ (Lit.int .i64 a.v).wf = true
theorem ActV.ok.place {a : ActV} (h : a.ok) : -2147483648 ≤ a.place ∧ a.place < 2147483648 := by
  have := h.2.1
  have := bounds_i32 this
  omega
theorem ActV.ok.turn {a : ActV} (h : a.ok) : 0 ≤ a.turn ∧ a.turn < 4294967296 := by
  have := h.2.2.1
  have := bounds_u32 this
  omega
/-- the slice at A reads as the acts -/
def ActsAt (w : World) (A : Option Addr) (l : List ActV) : Prop :=
  l = [] ∨ ∃ b off, A = some ⟨b, off, none⟩ ∧ b < w.heap.size ∧ ∀ i a, l[i]? = some a → w.cell? ⟨b, off + i * 4, none⟩ = some (.int .i64 a.kind) ∧ w.cell? ⟨b, off + i * 4 + 1, none⟩ = some (.int .i32 a.place) ∧
    w.cell? ⟨b, off + i * 4 + 2, none⟩ = some (.int .u32 a.turn) ∧ w.cell? ⟨b, off + i * 4 + 3, none⟩ = some (.int .i64 a.v)
theorem ActsAt.kept {w w' : World} {A : Option Addr} {l : List ActV} (h : ActsAt w A l) (hg : w.grownBy w' none) : ActsAt w' A l := by
  rcases h with h | ⟨b, off, rfl, hlt, hc⟩
  · exact .inl h
  · refine .inr ⟨b, off, rfl, Nat.lt_of_lt_of_le hlt hg.size, fun i a hi => ?_⟩
    obtain ⟨h0, h1, h2, h3⟩ := hc i a hi
    exact ⟨hg.cell h0 (by simp), hg.cell h1 (by simp), hg.cell h2 (by simp), hg.cell h3 (by simp)⟩
theorem ActsAt.some {w : World} {A : Option Addr} {l : List ActV} (h : ActsAt w A l) {i : Nat} {a : ActV} (hi : l[i]? = some a) :
    ∃ b off, A = some ⟨b, off, none⟩ ∧ b < w.heap.size ∧ w.cell? ⟨b, off + i * 4, none⟩ = some (.int .i64 a.kind) ∧ w.cell? ⟨b, off + i * 4 + 1, none⟩ = some (.int .i32 a.place) ∧
    w.cell? ⟨b, off + i * 4 + 2, none⟩ = some (.int .u32 a.turn) ∧ w.cell? ⟨b, off + i * 4 + 3, none⟩ = some (.int .i64 a.v) := by
  rcases h with rfl | ⟨b, off, rfl, hlt, hc⟩
  · simp at hi
  · exact ⟨b, off, rfl, hlt, hc i a hi⟩

section
variable {H : Type} {enc : TypeId × Value → H} {w : World} {base : Nat} {spare : Nat → Bool} {held : Bool}
theorem cells22 : Try.prog.cellsOf 37 = 4 := by kernel_rfl
theorem cells35 : Try.prog.cellsOf 35 = 2 := by kernel_rfl
theorem addr_plain {x : Addr} {v : Value} (h : w.cell? (x.add 0) = some v) : ∃ b off, x = ⟨b, off, none⟩ := by
  obtain ⟨b, off, sp⟩ := x
  cases sp with
  | none => exact ⟨b, off, rfl⟩
  | some s =>
    exfalso
    unfold World.cell? Addr.add at h
    simp at h
    split at h <;> simp at h
theorem list4 {α : Type} {l : List α} (h : l.length = 4) : ∃ a b c d, l = [a, b, c, d] := by
  match l, h with
  | [a, b, c, d], _ => exact ⟨a, b, c, d, rfl⟩
theorem open_acts {fuel : Nat} {A : Option Addr} {len cap : Nat} {x : DataW H × List MemPlace} (h : DataW.trod enc Try.prog w base spare held fuel 22 (Value.slice A len cap).cells.toList = some x) :
    ∃ l : List ActV, l.length = len ∧ (∀ a ∈ l, a.ok) ∧ ActsAt w A l := by
  rcases Go.Deep.open_slice Try.underlying22 h with ⟨hcs, _⟩ | ⟨a, l, c, m, n, D, Pl, hcs, _, hl, hm, hmm, _, hel⟩
  · simp [Value.cells] at hcs
    obtain ⟨rfl, rfl, rfl⟩ := hcs
    exact ⟨[], rfl, by simp, .inl rfl⟩
  · simp [Value.cells] at hcs
    obtain ⟨rfl, rfl, rfl⟩ := hcs
    have hml : len ≤ m := by rw [hmm]; split <;> omega
    have key : ∀ i, i < len → ∃ av : ActV, av.ok ∧ w.cell? (a.add (i * 4)) = some (.int .i64 av.kind) ∧ w.cell? (a.add (i * 4 + 1)) = some (.int .i32 av.place) ∧ w.cell? (a.add (i * 4 + 2)) = some (.int .u32 av.turn) ∧ w.cell? (a.add (i * 4 + 3)) = some (.int .i64 av.v) := by
      intro i hi
      obtain ⟨cs', hc, ht⟩ := hel i (by omega)
      rw [cells22] at hc
      obtain ⟨y0, y1, y2, n', _, hlen, t0, t1, t2⟩ := Go.Deep.trod_struct3 Try.underlying37 ht
      rw [cells22] at hlen
      obtain ⟨v0, v1, v2, v3, rfl⟩ := list4 hlen
      · clear hlen
        have e0 : ([v0, v1, v2, v3].drop 0).take (Try.prog.cellsOf 3) = [v0] := by rw [show Try.prog.cellsOf 3 = 1 by kernel_rfl]; rfl
        have e1 : ([v0, v1, v2, v3].drop 1).take (Try.prog.cellsOf 35) = [v1, v2] := by rw [cells35]; rfl
        have e2 : ([v0, v1, v2, v3].drop 3).take (Try.prog.cellsOf 2) = [v3] := by rw [show Try.prog.cellsOf 2 = 1 by kernel_rfl]; rfl
        simp only at t0 t1 t2
        rw [e0] at t0
        rw [e1] at t1
        rw [e2] at t2
        obtain ⟨k, hk, _, wk⟩ := DataW.trod_int Try.underlying3 t0
        obtain ⟨v, hv, _, wv⟩ := DataW.trod_int Try.underlying2 t2
        obtain ⟨z0, z1, n2, _, _, u0, u1⟩ := trod_struct2 Try.underlying35 t1
        have f0 : ([v1, v2].drop 0).take (Try.prog.cellsOf 21) = [v1] := by rw [show Try.prog.cellsOf 21 = 1 by kernel_rfl]; rfl
        have f1 : ([v1, v2].drop 1).take (Try.prog.cellsOf 33) = [v2] := by rw [show Try.prog.cellsOf 33 = 1 by kernel_rfl]; rfl
        simp only at u0 u1
        rw [f0] at u0
        rw [f1] at u1
        obtain ⟨p, hp, _, wp⟩ := DataW.trod_int Try.underlying21 u0
        obtain ⟨t, htt, _, wt⟩ := DataW.trod_int Try.underlying33 u1
        cases hk; cases hv; cases hp; cases htt
        refine ⟨⟨k, p, t, v⟩, ⟨wk, wp, wt, wv⟩, ?_⟩
        have hcc : ∀ j u, [Value.int .i64 k, .int .i32 p, .int .u32 t, .int .i64 v][j]? = some u → w.cell? ((a.add (i * 4)).add j) = some u := fun j u hj => by
          have hj4 : j < 4 := by have := (List.getElem?_eq_some_iff.1 hj).1; simpa using this
          exact ((World.cells?_some hc).2.2 j hj4).trans hj
        have q0 := hcc 0 _ rfl
        have q1 := hcc 1 _ rfl
        have q2 := hcc 2 _ rfl
        have q3 := hcc 3 _ rfl
        rw [Go.Deep.add_add] at q0 q1 q2 q3
        exact ⟨q0, q1, q2, q3⟩
    by_cases h0 : len = 0
    · subst h0; exact ⟨[], rfl, by simp, .inl rfl⟩
    · have key' : ∃ f : Nat → ActV, ∀ i, i < len → (f i).ok ∧ w.cell? (a.add (i * 4)) = some (.int .i64 (f i).kind) ∧ w.cell? (a.add (i * 4 + 1)) = some (.int .i32 (f i).place) ∧ w.cell? (a.add (i * 4 + 2)) = some (.int .u32 (f i).turn) ∧ w.cell? (a.add (i * 4 + 3)) = some (.int .i64 (f i).v) := by
        refine ⟨fun i => if h : i < len then (key i h).choose else ⟨0, 0, 0, 0⟩, fun i hi => ?_⟩
        simp only [dif_pos hi]
        exact (key i hi).choose_spec
      obtain ⟨f, hf⟩ := key'
      obtain ⟨b, off, rfl⟩ := addr_plain (x := a) (by have := (hf 0 (by omega)).2.1; simpa using this)
      have hb := block_lt_of_cell (hf 0 (by omega)).2.1
      rw [Go.WideShapes.add_plain] at hb
      refine ⟨(List.range len).map f, by simp, fun x hx => ?_, .inr ⟨b, off, rfl, hb, fun i x hi => ?_⟩⟩
      · obtain ⟨i, hi, rfl⟩ := List.mem_map.1 hx
        exact (hf i (List.mem_range.1 hi)).1
      · have hil : i < len := by have := (List.getElem?_eq_some_iff.1 hi).1; simpa using this
        rw [List.getElem?_map, List.getElem?_range hil] at hi
        injection hi with hi
        subst hi
        have h := (hf i hil).2
        simp only [Go.WideShapes.add_plain] at h
        exact h
end
end Go.Proofs.Ytoopfoapkbjdkaa
