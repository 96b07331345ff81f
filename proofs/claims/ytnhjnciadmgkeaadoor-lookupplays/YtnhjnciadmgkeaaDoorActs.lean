/-
  Acts that came in; what holds between two acts.
-/
import Derived.Test.YtnhjnciadmgkeaaDoorStands
import Derived.Lib.SmallJoins
import Derived.Deep.Strs
import Derived.ChangeSame
import Derived.Below
namespace Go.Proofs.YtnhjnciadmgkeaaDoor
open Go.ChangeShapes Go.WideShapes Go.ChangeAt Go.RowKit
set_option linter.unusedVariables false

structure ActV where
  kind : Int
  key : Int
  node : Int
def ActV.ok (a : ActV) : Prop := (Lit.int .i64 a.kind).wf = true ∧ (Lit.int .u64 a.key).wf = true ∧ (Lit.int .i32 a.node).wf = true
theorem ActV.ok.wd {a : ActV} (h : a.ok) : Wd a.key := by
  have := bounds_u64 h.2.1
  constructor <;> omega
theorem ActV.ok.n32 {a : ActV} (h : a.ok) : i32in a.node := by
  have := bounds_i32 h.2.2
  constructor <;> omega
/-- the slice at A reads as the acts; it lies below lo -/
def ActsAt (w : World) (lo : Nat) (A : Option Addr) (l : List ActV) : Prop :=
  l = [] ∨ ∃ b off, A = some ⟨b, off, none⟩ ∧ b < lo ∧ b < w.heap.size ∧ ∀ (i : Nat) (a : ActV), l[i]? = some a → w.cell? ⟨b, off + i * 3, none⟩ = some (.int .i64 a.kind) ∧ w.cell? ⟨b, off + i * 3 + 1, none⟩ = some (.int .u64 a.key) ∧
    w.cell? ⟨b, off + i * 3 + 2, none⟩ = some (.int .i32 a.node)
theorem cell_block {w w' : World} {b o : Nat} (h : w'.heap[b]? = w.heap[b]?) : w'.cell? ⟨b, o, none⟩ = w.cell? ⟨b, o, none⟩ := by
  unfold World.cell?
  simp [h]
theorem ActsAt.keep {w w' : World} {lo : Nat} {A : Option Addr} {l : List ActV} (h : ActsAt w lo A l) (hg : Keep lo w w') : ActsAt w' lo A l := by
  rcases h with h | ⟨b, off, rfl, hlo, hlt, hc⟩
  · exact .inl h
  · have e := hg.low hlo hlt
    refine .inr ⟨b, off, rfl, hlo, Nat.lt_of_lt_of_le hlt hg.size, fun i a hi => ?_⟩
    obtain ⟨h0, h1, h2⟩ := hc i a hi
    exact ⟨(cell_block e).trans h0, (cell_block e).trans h1, (cell_block e).trans h2⟩
theorem ActsAt.some {w : World} {lo : Nat} {A : Option Addr} {l : List ActV} (h : ActsAt w lo A l) {i : Nat} {a : ActV} (hi : l[i]? = some a) :
    ∃ b off, A = some ⟨b, off, none⟩ ∧ b < w.heap.size ∧ w.cell? ⟨b, off + i * 3, none⟩ = some (.int .i64 a.kind) ∧ w.cell? ⟨b, off + i * 3 + 1, none⟩ = some (.int .u64 a.key) ∧
    w.cell? ⟨b, off + i * 3 + 2, none⟩ = some (.int .i32 a.node) := by
  rcases h with rfl | ⟨b, off, rfl, hlo, hlt, hc⟩
  · simp at hi
  · exact ⟨b, off, rfl, hlt, hc i a hi⟩
section
variable {H : Type} {enc : TypeId × Value → H} {w : World} {base : Nat} {spare : Nat → Bool} {held : Bool}
theorem cells51 : Tryd.prog.cellsOf 51 = 3 := by kernel_rfl
theorem addr_plain {x : Addr} {v : Value} (h : w.cell? (x.add 0) = some v) : ∃ b off, x = ⟨b, off, none⟩ := by
  obtain ⟨b, off, sp⟩ := x
  cases sp with
  | none => exact ⟨b, off, rfl⟩
  | some s =>
    exfalso
    unfold World.cell? Addr.add at h
    simp at h
    split at h <;> simp at h
theorem list3 {α : Type} {l : List α} (h : l.length = 3) : ∃ a b c, l = [a, b, c] := by
  match l, h with
  | [a, b, c], _ => exact ⟨a, b, c, rfl⟩
theorem open_acts {fuel : Nat} {A : Option Addr} {len cap : Nat} {x : DataW H × List MemPlace} (h : DataW.trod enc Tryd.prog w base spare held fuel 22 (Value.slice A len cap).cells.toList = some x) :
    ∃ l : List ActV, l.length = len ∧ (∀ a ∈ l, a.ok) ∧ ActsAt w w.heap.size A l := by
  rcases Go.Deep.open_slice Tryd.underlying22 h with ⟨hcs, _⟩ | ⟨a, l, c, m, n, D, Pl, hcs, _, hl, hm, hmm, _, hel⟩
  · simp [Value.cells] at hcs
    obtain ⟨rfl, rfl, rfl⟩ := hcs
    exact ⟨[], rfl, by simp, .inl rfl⟩
  · simp [Value.cells] at hcs
    obtain ⟨rfl, rfl, rfl⟩ := hcs
    have hml : len ≤ m := by rw [hmm]; split <;> omega
    have key : ∀ i, i < len → ∃ av : ActV, av.ok ∧ w.cell? (a.add (i * 3)) = some (.int .i64 av.kind) ∧ w.cell? (a.add (i * 3 + 1)) = some (.int .u64 av.key) ∧ w.cell? (a.add (i * 3 + 2)) = some (.int .i32 av.node) := by
      intro i hi
      obtain ⟨cs', hc, ht⟩ := hel i (by omega)
      rw [cells51] at hc
      obtain ⟨y0, y1, y2, n', _, hlen, t0, t1, t2⟩ := Go.Deep.trod_struct3 Tryd.underlying51 ht
      rw [cells51] at hlen
      obtain ⟨v0, v1, v2, rfl⟩ := list3 hlen
      · clear hlen
        have e0 : ([v0, v1, v2].drop 0).take (Tryd.prog.cellsOf 3) = [v0] := by rw [show Tryd.prog.cellsOf 3 = 1 by kernel_rfl]; rfl
        have e1 : ([v0, v1, v2].drop 1).take (Tryd.prog.cellsOf 23) = [v1] := by rw [show Tryd.prog.cellsOf 23 = 1 by kernel_rfl]; rfl
        have e2 : ([v0, v1, v2].drop 2).take (Tryd.prog.cellsOf 21) = [v2] := by rw [show Tryd.prog.cellsOf 21 = 1 by kernel_rfl]; rfl
        simp only at t0 t1 t2
        rw [e0] at t0
        rw [e1] at t1
        rw [e2] at t2
        obtain ⟨k, hk, _, wk⟩ := DataW.trod_int Tryd.underlying3 t0
        obtain ⟨p, hp, _, wp⟩ := DataW.trod_int Tryd.underlying23 t1
        obtain ⟨t, htt, _, wt⟩ := DataW.trod_int Tryd.underlying21 t2
        cases hk; cases hp; cases htt
        refine ⟨⟨k, p, t⟩, ⟨wk, wp, wt⟩, ?_⟩
        have hcc : ∀ j u, [Value.int .i64 k, .int .u64 p, .int .i32 t][j]? = some u → w.cell? ((a.add (i * 3)).add j) = some u := fun j u hj => by
          have hj4 : j < 3 := by have := (List.getElem?_eq_some_iff.1 hj).1; simpa using this
          exact ((World.cells?_some hc).2.2 j hj4).trans hj
        have q0 := hcc 0 _ rfl
        have q1 := hcc 1 _ rfl
        have q2 := hcc 2 _ rfl
        rw [Go.Deep.add_add] at q0 q1 q2
        exact ⟨q0, q1, q2⟩
    by_cases h0 : len = 0
    · subst h0; exact ⟨[], rfl, by simp, .inl rfl⟩
    · have key' : ∃ f : Nat → ActV, ∀ i, i < len → (f i).ok ∧ w.cell? (a.add (i * 3)) = some (.int .i64 (f i).kind) ∧ w.cell? (a.add (i * 3 + 1)) = some (.int .u64 (f i).key) ∧ w.cell? (a.add (i * 3 + 2)) = some (.int .i32 (f i).node) := by
        refine ⟨fun i => if h : i < len then (key i h).choose else ⟨0, 0, 0⟩, fun i hi => ?_⟩
        simp only [dif_pos hi]
        exact (key i hi).choose_spec
      obtain ⟨f, hf⟩ := key'
      obtain ⟨b, off, rfl⟩ := addr_plain (x := a) (by have := (hf 0 (by omega)).2.1; simpa using this)
      have hb := block_lt_of_cell (hf 0 (by omega)).2.1
      rw [Go.WideShapes.add_plain] at hb
      refine ⟨(List.range len).map f, by simp, fun x hx => ?_, .inr ⟨b, off, rfl, hb, hb, fun i x hi => ?_⟩⟩
      · obtain ⟨i, hi, rfl⟩ := List.mem_map.1 hx
        exact (hf i (List.mem_range.1 hi)).1
      · have hil : i < len := by have := (List.getElem?_eq_some_iff.1 hi).1; simpa using this
        rw [List.getElem?_map, List.getElem?_range hil] at hi
        injection hi with hi
        subst hi
        have h := (hf i hil).2
        simp only [Go.WideShapes.add_plain] at h
        exact h
end
/-- what holds between two acts -/
structure PI (w : World) (lo b B k : Nat) (T : Tb) (ps : List (Int × Int)) (A : Option Addr) (n c : Nat) (s : Int) (W : World) : Prop where
  tb : IsT W lo b T
  rl : RL T ps
  row : PRow W 0 A n c ps
  box : W.heap[B]? = some (.cells #[.slice A n c, .int .i64 s] 29 (0, 0))
  res : W.heap[B + 1]? = some (.cells #[.slice none 0 0, .int .i64 0] 29 (0, 0))
  sl : s = ((2 ^ T.k : Nat) : Int)
  mv : T.mv ≤ 4 * k
  few : n ≤ k
  keep : Keep lo w W
theorem PI.cnt {w : World} {lo b B k : Nat} {T : Tb} {ps : List (Int × Int)} {A : Option Addr} {n c : Nat} {s : Int} {W : World} (h : PI w lo b B k T ps A n c s W) : T.cnt = n := by rw [h.rl.cnt, h.row.2]
theorem PI.grow {w : World} {lo b B k : Nat} {T : Tb} {ps : List (Int × Int)} {A : Option Addr} {n c : Nat} {s : Int} {W W' : World} (h : PI w lo b B k T ps A n c s W) (hg : W.grownBy W' none) : PI w lo b B k T ps A n c s W' :=
  ⟨h.tb.kept hg, h.rl, h.row.kept hg, kept2 h.box hg, kept2 h.res hg, h.sl, h.mv, h.few, h.keep.trans (Keep.of_new hg)⟩
theorem Keep.set_new {lo B i : Nat} {w W : World} {v : Value} (h : Keep lo w W) (hB : w.heap.size ≤ B) : Keep lo w (W.setCell ⟨B, i, none⟩ v) := by
  have hg := grown_setCell W B i v
  exact ⟨hg.os.trans h.os, hg.tape.trans h.tape, hg.output.trans h.output, Nat.le_trans h.size hg.size, fun k hk hc => (hg.block k (Nat.lt_of_lt_of_le hk h.size) (by simp; omega)).trans (h.block k hk hc)⟩
theorem IsT.set29 {lo b B i : Nat} {T : Tb} {W : World} {cs : Array Value} {f : Nat × Nat} {v : Value} (h : IsT W lo b T) (hB : W.heap[B]? = some (.cells cs 29 f)) : IsT (W.setCell ⟨B, i, none⟩ v) lo b T := by
  obtain ⟨⟨gN, gO, ht⟩, hG⟩ := h
  refine ⟨⟨gN, gO, ht.stay fun x hx => heap_setCell_other _ _ _ _ fun e => ?_⟩, hG⟩
  obtain ⟨_, cur, t, f', e1, e2⟩ := ht.blk_own hx
  simp only at e
  subst e
  rw [hB] at e1
  cases e1
  cases e2
theorem PRow.set29 {base B i n c : Nat} {A : Option Addr} {ps : List (Int × Int)} {W : World} {cs : Array Value} {f : Nat × Nat} {v : Value} (h : PRow W base A n c ps) (hB : W.heap[B]? = some (.cells cs 29 f)) : PRow (W.setCell ⟨B, i, none⟩ v) base A n c ps :=
  ⟨owns_stay h.1 fun k hk => by
    obtain ⟨h1, cur, h2⟩ := owns_type h.1 hk
    refine heap_setCell_other _ _ _ _ fun e => ?_
    simp only at e
    subst e
    rw [hB] at h2
    simp at h2, h.2⟩
theorem cells3 {w : World} {B : Nat} {x y z : Value} {t : TypeId} (h : w.heap[B]? = some (.cells #[x, y, z] t (0, 0))) : w.cell? ⟨B, 0, none⟩ = some x ∧ w.cell? ⟨B, 1, none⟩ = some y ∧ w.cell? ⟨B, 2, none⟩ = some z :=
  ⟨cell_of_head h 0, cell_of_head h 1, cell_of_head h 2⟩
end Go.Proofs.YtnhjnciadmgkeaaDoor
