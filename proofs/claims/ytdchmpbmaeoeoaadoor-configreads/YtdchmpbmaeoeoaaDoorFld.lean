/-
  A config in a block of its own: four cells, loaded and stored in one step.
-/
import Derived.Test.YtdchmpbmaeoeoaaDoorPol
import Derived.Test.YtdchmpbmaeoeoaaDoorDRow
import Derived.Laws.ResultCell
import Derived.Deep.WholeRow
import Derived.Deep.MidRow
namespace Go.Proofs.YtdchmpbmaeoeoaaDoor
open Go.Shelf Go.RowKit Go.Sort
open Go.Lib hiding intOf
set_option linter.unusedVariables false
def ca (c : List Int) : Array Value := (c.map (Value.int .i64)).toArray
abbrev cv (c : List Int) : Value := .agg (ca c)
def zs : List Int := [0, 0, 0, 0]
theorem ca_len (c : List Int) : (ca c).size = c.length := by simp [ca]
/-- a config in a block of its own -/
def RowAt (w : World) (b : Nat) (c : List Int) : Prop := w.heap[b]? = some (.cells (ca c) 24 (0, 0))
theorem row_alloc (w : World) (c : List Int) : RowAt (w.alloc (.cells (ca c) 24)) w.heap.size c := by
  show (w.heap.push _)[w.heap.size]? = _
  simp
theorem RowAt.kept {w w' : World} {b B : Nat} {c : List Int} (h : RowAt w b c) (hb : Below B w w') (hB : b < B) : RowAt w' b c := by
  unfold RowAt; rw [hb.block b hB]; exact h
theorem RowAt.lt {w : World} {b : Nat} {c : List Int} (h : RowAt w b c) : b < w.heap.size := (Array.getElem?_eq_some_iff.1 h).1
theorem RowAt.cell {w : World} {b : Nat} {c : List Int} (h : RowAt w b c) (k : Nat) (hk : k < c.length) : w.cell? ⟨b, k, none⟩ = some (.int .i64 c[k]) := by
  have := cell_of_row (w := w) b k (ca c) 24 (0, 0) h
  rw [this]
  simp [ca, hk]
theorem RowAt.free {w : World} {b : Nat} {c : List Int} (h : RowAt w b c) (k : Nat) : w.frozen? ⟨b, k, none⟩ = false := by
  unfold RowAt at h
  simp [World.frozen?, h]
theorem RowAt.load {w : World} {b : Nat} {c : List Int} (h : RowAt w b c) (hc : c.length = 4) : (loadVar 24 ⟨b, 0, none⟩).run Tryd.prog w = .ok (cv c) w :=
  run_loadVar_row (P := Tryd.prog) w b 24 24 (ca c) (0, 0) _ h Tryd.underlying24 rfl (by rw [ca_len, hc]; kernel_rfl)
theorem RowAt.store {w : World} {b : Nat} {c d : List Int} (h : RowAt w b c) (hc : c.length = 4) (hd : d.length = 4) : (storeVar 24 ⟨b, 0, none⟩ (cv d)).run Tryd.prog w = .ok () (w.setRow b (ca d)) :=
  run_storeVar_row (P := Tryd.prog) w b 24 24 (ca c) (ca d) h (by rw [ca_len, hd]; kernel_rfl) (by rw [ca_len, ca_len, hc, hd]) (by simp [ca, Value.oneCell'])
theorem RowAt.rowSet {w : World} {b : Nat} {c d : List Int} (h : RowAt w b c) : RowAt (w.setRow b (ca d)) b d := by
  unfold RowAt at h ⊢
  simp only [World.setRow, Array.getElem?_modify, ↓reduceIte, h, Option.map_some]
theorem below_setRow {w w' : World} {B b : Nat} {cs : Array Value} (h : Below B w w') (hB : B ≤ b) : Below B w (w'.setRow b cs) :=
  ⟨h.os, h.tape, h.output, by rw [size_setRow]; exact h.size, fun k hk => by
    rw [← h.block k hk]
    simp only [World.setRow, Array.getElem?_modify]
    rw [if_neg (by omega)]⟩
theorem info24 : (Tryd.prog.info? 24).map (·.size) = some 4 := by kernel_rfl
theorem ld24 {ops : Array Oper} {rest : List Oper} {o : Oper} {a : Act} {w : World} {Q : Exit → Act → World → Prop} (hgd : o.guard = none) (x : Operand) (ho : o.op = .load 24 x) (g : Nat) (hx : a.eval x = .pointer (some ⟨g, 0, none⟩)) (c : List Int) (h : RowAt w g c) (hc : c.length = 4)
    (hK : wpList Tryd.prog ops Q rest (a.put o.dst (cv c)) w) : wpList Tryd.prog ops Q (o :: rest) a w :=
  wpList_load_row hgd 24 x ho g hx 24 (ca c) (0, 0) _ h Tryd.underlying24 rfl (by rw [ca_len, hc]; exact info24) hK
theorem st24 {ops : Array Oper} {rest : List Oper} {o : Oper} {a : Act} {w : World} {Q : Exit → Act → World → Prop} (hgd : o.guard = none) (x y : Operand) (ho : o.op = .store 24 x y) (g : Nat) (d : List Int) (hx : a.eval x = .pointer (some ⟨g, 0, none⟩)) (hy : a.eval y = cv d) (c : List Int) (h : RowAt w g c) (hc : c.length = 4) (hd : d.length = 4)
    (hK : wpList Tryd.prog ops Q rest (a.put o.dst undef) (w.setRow g (ca d))) : wpList Tryd.prog ops Q (o :: rest) a w :=
  wpList_store_row hgd 24 x y ho g (ca d) hx hy 24 (ca c) h (by rw [ca_len, hd]; exact info24) (by rw [ca_len, ca_len, hc, hd]) (by simp [ca, Value.oneCell']) hK
theorem RowAt.other {w : World} {b g : Nat} {c : List Int} (h : RowAt w b c) (hne : g ≠ b) (cs : Array Value) : RowAt (w.setRow g cs) b c := by
  unfold RowAt at h ⊢
  simp only [World.setRow, Array.getElem?_modify]
  rw [if_neg hne]
  exact h
theorem results_cnt2 {fn : Func} {p u : Tmp} (h : fn.results = #[.cell p 24, .tmp u]) (tmps : Array Value) (w : World) (g : Nat) (c : List Int)
    (hp : tmps.getD p undef = .pointer (some ⟨g, 0, none⟩)) (hg : RowAt w g c) (hc : c.length = 4) : (results fn tmps).run Tryd.prog w = .ok (.tuple #[cv c, tmps.getD u undef]) w := by
  rw [results_cell_tmp h, hp]
  simp [asAddr, hg.load hc, Result.andThen]
theorem st24n {ops : Array Oper} {rest : List Oper} {o : Oper} {a : Act} {w : World} {Q : Exit → Act → World → Prop} (hgd : o.guard = none) (x y : Operand) (ho : o.op = .store 24 x y) (c : List Int) (hc : c.length = 4) (hx : a.eval x = .pointer (some ⟨w.heap.size, 0, none⟩)) (hy : a.eval y = cv c) (old : Array Value) (hold : old.size = 4)
    (hK : wpList Tryd.prog ops Q rest (a.put o.dst undef) (w.alloc (.cells (ca c) 24))) : wpList Tryd.prog ops Q (o :: rest) a (w.alloc (.cells old 24)) :=
  wpList_store_row hgd 24 x y ho w.heap.size (ca c) hx hy 24 old (by show (w.heap.push _)[w.heap.size]? = _; simp) (by rw [ca_len, hc]; exact info24) (by rw [ca_len, hc, hold]) (by simp [ca, Value.oneCell']) (by rw [World.setRow_alloc_new]; exact hK)
theorem RowAt.at4 {w : World} {b : Nat} {p c q g : Int} (h : RowAt w b [p, c, q, g]) : At4 w b p c q g := ⟨h.cell 0 (by simp), h.cell 1 (by simp), h.cell 2 (by simp), h.cell 3 (by simp)⟩
theorem SRow.four {w : World} {A : Option Addr} {a0 a1 a2 a3 : List UInt8} (h : SRow w A [a0, a1, a2, a3]) : ∃ b off, A = some ⟨b, off, none⟩ ∧ b < w.heap.size ∧ w.cell? ⟨b, off, none⟩ = some (.string (mkS a0)) ∧ w.cell? ⟨b, off + 1, none⟩ = some (.string (mkS a1)) ∧ w.cell? ⟨b, off + 2, none⟩ = some (.string (mkS a2)) ∧ w.cell? ⟨b, off + 3, none⟩ = some (.string (mkS a3)) := by
  rcases h with e | ⟨b, off, e, hc⟩
  · cases e
  · have h0 := hc 0 (by simp)
    exact ⟨b, off, e, Lib.lt_of_cell h0, h0, hc 1 (by simp), hc 2 (by simp), hc 3 (by simp)⟩
theorem ca4 (p c q g : Int) : ca [p, c, q, g] = #[.int .i64 p, .int .i64 c, .int .i64 q, .int .i64 g] := rfl
end Go.Proofs.YtdchmpbmaeoeoaaDoor
