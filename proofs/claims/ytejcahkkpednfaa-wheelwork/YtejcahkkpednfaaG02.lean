/-
  The document's rows: Less, More, Without, Top.
  A state in a block of its own: twenty cells; the world while a function goes on with it.
  The world while a function goes on with a state in a box of its own.
  Worlds that only grow; regions that draw their order.
  The document's states: Small, room, Is, Kept, New, gone.
  The document's states: the frame of a function that tells a state.
-/
import Derived.Test.YtejcahkkpednfaaG01
import Derived.BigQuiet
import Derived.Deep.QuietTactic
import Derived.Deep.Quiet
namespace Go.Proofs.Ytejcahkkpednfaa
open Go.RowKit
open Go.Proofs.StackM
set_option linter.unusedVariables false
theorem ls_len (l : List Int) (k : Int) : (ls l k).length ≤ l.length := List.length_filter_le _ _
/-- rows with what they are worth -/
structure PR (w : World) (A : Option Addr) (cap : Nat) (l : List Pg) : Prop where
  row : PRow w A cap l
  lt : ∀ a, A = some a → a.block < w.heap.size
  le : l.length ≤ cap
structure UR (w : World) (A : Option Addr) (cap : Nat) (l : List Int) : Prop where
  row : URow w A cap l
  lt : ∀ a, A = some a → a.block < w.heap.size
  le : l.length ≤ cap
theorem PR.kept {w w' : World} {A : Option Addr} {cap : Nat} {l : List Pg} (h : PR w A cap l) (hb : Below w.heap.size w w') : PR w' A cap l := ⟨h.row.kept hb, fun a e => Nat.lt_of_lt_of_le (h.lt a e) hb.size, h.le⟩
theorem UR.kept {w w' : World} {A : Option Addr} {cap : Nat} {l : List Int} (h : UR w A cap l) (hb : Below w.heap.size w w') : UR w' A cap l := ⟨h.row.kept hb, fun a e => Nat.lt_of_lt_of_le (h.lt a e) hb.size, h.le⟩
/-- what a function that makes a row of keys tells -/
def UPost (w : World) (l : List Int) (e : Ending) (w' : World) : Prop := ∃ A n cap, e = .returned (.slice A n cap) ∧ n = l.length ∧ UR w' A cap l ∧ (∀ a, A = some a → w.heap.size ≤ a.block) ∧ Below w.heap.size w w'
def PPost (w : World) (l : List Pg) (e : Ending) (w' : World) : Prop := ∃ A n cap, e = .returned (.slice A n cap) ∧ n = l.length ∧ PR w' A cap l ∧ (∀ a, A = some a → w.heap.size ≤ a.block) ∧ Below w.heap.size w w'
theorem UPost.of {w w' : World} {l : List Int} {n : Nat} {v : Value} (ho : w'.ownsRow w.heap.size 27 1 v n (uvals l)) (hb : Below w.heap.size w w') : UPost w l (.returned v) w' := by
  have hl := ho.1
  rw [uvals_len] at hl
  obtain ⟨A, cap, rfl, hcap, hv, hf⟩ := owns_vrow ho
  exact ⟨A, n, cap, rfl, by omega, ⟨hv, fun a e => (hf a e).2, by omega⟩, fun a e => (hf a e).1, hb⟩
theorem PPost.of {w w' : World} {l : List Pg} {n : Nat} {v : Value} (ho : w'.ownsRow w.heap.size 58 4 v n (pvals l)) (hb : Below w.heap.size w w') : PPost w l (.returned v) w' := by
  have hl := ho.1
  rw [pvals_len] at hl
  obtain ⟨A, cap, rfl, hcap, hv, hf⟩ := owns_vrow ho
  exact ⟨A, n, cap, rfl, by omega, ⟨hv, fun a e => (hf a e).2, by omega⟩, fun a e => (hf a e).1, hb⟩
theorem one_u (w : World) (x : Int) : URow (w.alloc (.cells #[.int .u64 x] 27)) (some ⟨w.heap.size, 0, none⟩) 1 [x] := alloc_vrow w (uvals [x]) 27 1
theorem one_p (w : World) (p : Pg) : PRow (w.alloc (.cells #[.int .u64 p.key, .int .i64 p.kind, .bool p.test, .bool p.mark] 58)) (some ⟨w.heap.size, 0, none⟩) 1 [p] := alloc_vrow w (pvals [p]) 58 1
end Go.Proofs.Ytejcahkkpednfaa
namespace Go.Proofs.Ytejcahkkpednfaa
open Go.RowKit
open Go.Proofs.StackM
set_option linter.unusedVariables false
/-- where a state's rows lie -/
structure R3 where
  a1 : Option Addr
  c1 : Nat
  a2 : Option Addr
  c2 : Nat
  a3 : Option Addr
  c3 : Nat
def sA (s : St) (r : R3) : Array Value := #[.int .i64 s.cf.p, .int .i64 s.cf.c, .int .i64 s.cf.q, .int .i64 s.cf.g, .int .i64 s.tg, .slice r.a1 s.pg.length r.c1, .slice r.a2 s.qu.length r.c2, .slice r.a3 s.gh.length r.c3, .int .i64 s.co, .int .i64 s.te,
  .int .u64 s.ct.hi, .int .u64 s.ct.mi, .int .u64 s.ct.ra, .int .u64 s.ct.lo, .int .u64 s.ct.pr, .int .u64 s.ct.ev, .int .u64 s.ct.fo, .int .u64 s.ct.cl, .int .u64 s.ct.en, .int .u64 s.ct.st]
abbrev sV (s : St) (r : R3) : Value := .agg (sA s r)
theorem sA_len (s : St) (r : R3) : (sA s r).size = 20 := rfl
theorem sA_one (s : St) (r : R3) : ((sA s r).all fun x => x.oneCell') = true := by simp [sA, Value.oneCell']
/-- twenty cells of a state's type -/
def Box (w : World) (b : Nat) (cs : Array Value) : Prop := w.heap[b]? = some (.cells cs 31 (0, 0)) ∧ cs.size = 20
abbrev SAt (w : World) (b : Nat) (s : St) (r : R3) : Prop := Box w b (sA s r)
theorem box_alloc (w : World) (cs : Array Value) (h : cs.size = 20) : Box (w.alloc (.cells cs 31)) w.heap.size cs := by
  refine ⟨?_, h⟩
  show (w.heap.push _)[w.heap.size]? = _
  simp
theorem Box.kept {w w' : World} {b B : Nat} {cs : Array Value} (h : Box w b cs) (hb : Below B w w') (hB : b < B) : Box w' b cs := ⟨by rw [hb.block b hB]; exact h.1, h.2⟩
theorem Box.lt {w : World} {b : Nat} {cs : Array Value} (h : Box w b cs) : b < w.heap.size := (Array.getElem?_eq_some_iff.1 h.1).1
theorem Box.cell {w : World} {b : Nat} {cs : Array Value} (h : Box w b cs) (k : Nat) (v : Value) (hv : cs[k]? = some v) : w.cell? ⟨b, k, none⟩ = some v := by
  rw [cell_of_row (w := w) b k cs 31 (0, 0) h.1]; exact hv
theorem Box.free {w : World} {b : Nat} {cs : Array Value} (h : Box w b cs) (k : Nat) : w.frozen? ⟨b, k, none⟩ = false := by
  simp [World.frozen?, h.1]
theorem Box.set {w : World} {b : Nat} {cs : Array Value} (h : Box w b cs) (k : Nat) (v : Value) : Box (w.setCell ⟨b, k, none⟩ v) b (cs.setIfInBounds k v) := by
  refine ⟨?_, by simpa using h.2⟩
  simp only [World.setCell, Array.getElem?_modify, ↓reduceIte, h.1, Option.map_some]
  rfl
theorem Box.rowSet {w : World} {b : Nat} {cs ds : Array Value} (h : Box w b cs) (hd : ds.size = 20) : Box (w.setRow b ds) b ds := by
  refine ⟨?_, hd⟩
  simp only [World.setRow, Array.getElem?_modify, ↓reduceIte, h.1, Option.map_some]
theorem Box.other {w : World} {b g : Nat} {cs : Array Value} (h : Box w b cs) (hne : g ≠ b) (ds : Array Value) : Box (w.setRow g ds) b cs := by
  refine ⟨?_, h.2⟩
  simp only [World.setRow, Array.getElem?_modify]
  rw [if_neg hne]
  exact h.1
theorem Box.cellOther {w : World} {b : Nat} {cs : Array Value} {p : Addr} {v : Value} (h : Box w b cs) (hne : b ≠ p.block) : Box (w.setCell p v) b cs :=
  ⟨by rw [Below.heap_setCell w p v b hne]; exact h.1, h.2⟩
theorem info31 : (Try.prog.info? 31).map (·.size) = some 20 := by kernel_rfl
theorem Box.load {w : World} {b : Nat} {cs : Array Value} (h : Box w b cs) : (loadVar 31 ⟨b, 0, none⟩).run Try.prog w = .ok (.agg cs) w :=
  run_loadVar_row (P := Try.prog) w b 31 31 cs (0, 0) _ h.1 Try.underlying31 rfl (by rw [h.2]; kernel_rfl)
theorem ld31 {ops : Array Oper} {rest : List Oper} {o : Oper} {a : Act} {w : World} {Q : Exit → Act → World → Prop} (hgd : o.guard = none) (x : Operand) (ho : o.op = .load 31 x) (g : Nat) (hx : a.eval x = .pointer (some ⟨g, 0, none⟩)) (cs : Array Value) (h : Box w g cs)
    (hK : wpList Try.prog ops Q rest (a.put o.dst (.agg cs)) w) : wpList Try.prog ops Q (o :: rest) a w :=
  wpList_load_row hgd 31 x ho g hx 31 cs (0, 0) _ h.1 Try.underlying31 rfl (by rw [h.2]; exact info31) hK
theorem st31 {ops : Array Oper} {rest : List Oper} {o : Oper} {a : Act} {w : World} {Q : Exit → Act → World → Prop} (hgd : o.guard = none) (x y : Operand) (ho : o.op = .store 31 x y) (g : Nat) (s : St) (r : R3) (hx : a.eval x = .pointer (some ⟨g, 0, none⟩)) (hy : a.eval y = sV s r) (cs : Array Value) (h : Box w g cs)
    (hK : wpList Try.prog ops Q rest a (w.setRow g (sA s r))) (hd : o.dst = none := by rfl) : wpList Try.prog ops Q (o :: rest) a w :=
  wpList_store_row hgd 31 x y ho g (sA s r) hx hy 31 cs h.1 (by rw [sA_len]; exact info31) (by rw [sA_len, h.2]) (sA_one s r) (by rw [hd]; exact hK)
theorem st31n {ops : Array Oper} {rest : List Oper} {o : Oper} {a : Act} {w : World} {Q : Exit → Act → World → Prop} (hgd : o.guard = none) (x y : Operand) (ho : o.op = .store 31 x y) (s : St) (r : R3) (hx : a.eval x = .pointer (some ⟨w.heap.size, 0, none⟩)) (hy : a.eval y = sV s r) (old : Array Value) (hold : old.size = 20)
    (hK : wpList Try.prog ops Q rest a (w.alloc (.cells (sA s r) 31))) (hd : o.dst = none := by rfl) : wpList Try.prog ops Q (o :: rest) a (w.alloc (.cells old 31)) :=
  wpList_store_row hgd 31 x y ho w.heap.size (sA s r) hx hy 31 old (by show (w.heap.push _)[w.heap.size]? = _; simp) (by rw [sA_len]; exact info31) (by rw [sA_len, hold]) (sA_one s r) (by rw [World.setRow_alloc_new, hd]; exact hK)
theorem Box.loadI {w : World} {b : Nat} {cs : Array Value} (h : Box w b cs) : (Instr.loadAt 31 (.pointer (some ⟨b, 0, none⟩))).run Try.prog w = .ok (.agg cs) w := by
  have := h.load
  simp [Instr.loadAt, Instr.sureAddr, this]
/-- a guarded load of a whole state, where the guard lets it run -/
theorem ld31g {ops : Array Oper} {rest : List Oper} {o : Oper} {a : Act} {w : World} {Q : Exit → Act → World → Prop} (hw : Region.wanted o (yielded ops a.tmps) = true) (x : Operand) (ho : o.op = .load 31 x) (g : Nat) (hx : a.eval x = .pointer (some ⟨g, 0, none⟩)) (cs : Array Value) (h : Box w g cs)
    (hK : wpList Try.prog ops Q rest (a.put o.dst (.agg cs)) w) : wpList Try.prog ops Q (o :: rest) a w := by
  refine wpList_step fun K hK2 => ?_
  rw [if_pos hw]
  unfold Oper.wp
  simp [execOp, ho, hx, h.loadI]
  exact hK2 _ _ hK
theorem qld31 {ops : Array Oper} {rest : List Oper} {o : Oper} {a : Act} {C : World → Prop} {Q : Act → Prop} (hw : Region.wanted o (yielded ops a.tmps) = true) (x : Operand) (ho : o.op = .load 31 x) (g : Nat) (hx : a.eval x = .pointer (some ⟨g, 0, none⟩)) (cs : Array Value) (h : ∀ w, C w → Box w g cs)
    (hK : wpQuiet Try.prog ops C Q rest (a.put o.dst (.agg cs))) : wpQuiet Try.prog ops C Q (o :: rest) a := by
  refine wpQuiet_step fun K hK2 => ?_
  rw [if_pos hw]
  refine ⟨.agg cs, fun w hC => ?_, hK2 _ hK⟩
  unfold Oper.quietAt
  have hb := h w hC
  simp [execOp, ho, hx, hb.loadI, Oper.quietUpon]
theorem results_s {fn : Func} {p : Tmp} (h : fn.results = #[.cell p 31]) (tmps : Array Value) (w : World) (g : Nat) (cs : Array Value)
    (hp : tmps.getD p undef = .pointer (some ⟨g, 0, none⟩)) (hg : Box w g cs) : (results fn tmps).run Try.prog w = .ok (.agg cs) w := by
  have hp' : tmps[p]?.getD undef = .pointer (some ⟨g, 0, none⟩) := by simpa using hp
  simp only [results, h]
  simp [hp', asAddr, hg.load]
theorem results_s2 {fn : Func} {p u : Tmp} (h : fn.results = #[.cell p 31, .tmp u]) (tmps : Array Value) (w : World) (g : Nat) (cs : Array Value)
    (hp : tmps.getD p undef = .pointer (some ⟨g, 0, none⟩)) (hg : Box w g cs) : (results fn tmps).run Try.prog w = .ok (.tuple #[.agg cs, tmps.getD u undef]) w := by
  rw [results_cell_tmp h, hp]
  simp [asAddr, hg.load, Result.andThen]
theorem at0 {w : World} {b : Nat} {s : St} {r : R3} (h : Box w b (sA s r)) : w.cell? ⟨b, 0, none⟩ = some (.int .i64 s.cf.p) := h.cell 0 _ (show (sA s r)[0]? = some (.int .i64 s.cf.p) from rfl)
theorem at1 {w : World} {b : Nat} {s : St} {r : R3} (h : Box w b (sA s r)) : w.cell? ⟨b, 1, none⟩ = some (.int .i64 s.cf.c) := h.cell 1 _ (show (sA s r)[1]? = some (.int .i64 s.cf.c) from rfl)
theorem at2 {w : World} {b : Nat} {s : St} {r : R3} (h : Box w b (sA s r)) : w.cell? ⟨b, 2, none⟩ = some (.int .i64 s.cf.q) := h.cell 2 _ (show (sA s r)[2]? = some (.int .i64 s.cf.q) from rfl)
theorem at3 {w : World} {b : Nat} {s : St} {r : R3} (h : Box w b (sA s r)) : w.cell? ⟨b, 3, none⟩ = some (.int .i64 s.cf.g) := h.cell 3 _ (show (sA s r)[3]? = some (.int .i64 s.cf.g) from rfl)
theorem at4 {w : World} {b : Nat} {s : St} {r : R3} (h : Box w b (sA s r)) : w.cell? ⟨b, 4, none⟩ = some (.int .i64 s.tg) := h.cell 4 _ (show (sA s r)[4]? = some (.int .i64 s.tg) from rfl)
theorem at5 {w : World} {b : Nat} {s : St} {r : R3} (h : Box w b (sA s r)) : w.cell? ⟨b, 5, none⟩ = some (.slice r.a1 s.pg.length r.c1) := h.cell 5 _ (show (sA s r)[5]? = some (.slice r.a1 s.pg.length r.c1) from rfl)
theorem at6 {w : World} {b : Nat} {s : St} {r : R3} (h : Box w b (sA s r)) : w.cell? ⟨b, 6, none⟩ = some (.slice r.a2 s.qu.length r.c2) := h.cell 6 _ (show (sA s r)[6]? = some (.slice r.a2 s.qu.length r.c2) from rfl)
theorem at7 {w : World} {b : Nat} {s : St} {r : R3} (h : Box w b (sA s r)) : w.cell? ⟨b, 7, none⟩ = some (.slice r.a3 s.gh.length r.c3) := h.cell 7 _ (show (sA s r)[7]? = some (.slice r.a3 s.gh.length r.c3) from rfl)
theorem at8 {w : World} {b : Nat} {s : St} {r : R3} (h : Box w b (sA s r)) : w.cell? ⟨b, 8, none⟩ = some (.int .i64 s.co) := h.cell 8 _ (show (sA s r)[8]? = some (.int .i64 s.co) from rfl)
theorem at9 {w : World} {b : Nat} {s : St} {r : R3} (h : Box w b (sA s r)) : w.cell? ⟨b, 9, none⟩ = some (.int .i64 s.te) := h.cell 9 _ (show (sA s r)[9]? = some (.int .i64 s.te) from rfl)
theorem at10 {w : World} {b : Nat} {s : St} {r : R3} (h : Box w b (sA s r)) : w.cell? ⟨b, 10, none⟩ = some (.int .u64 s.ct.hi) := h.cell 10 _ (show (sA s r)[10]? = some (.int .u64 s.ct.hi) from rfl)
theorem at11 {w : World} {b : Nat} {s : St} {r : R3} (h : Box w b (sA s r)) : w.cell? ⟨b, 11, none⟩ = some (.int .u64 s.ct.mi) := h.cell 11 _ (show (sA s r)[11]? = some (.int .u64 s.ct.mi) from rfl)
theorem at12 {w : World} {b : Nat} {s : St} {r : R3} (h : Box w b (sA s r)) : w.cell? ⟨b, 12, none⟩ = some (.int .u64 s.ct.ra) := h.cell 12 _ (show (sA s r)[12]? = some (.int .u64 s.ct.ra) from rfl)
theorem at13 {w : World} {b : Nat} {s : St} {r : R3} (h : Box w b (sA s r)) : w.cell? ⟨b, 13, none⟩ = some (.int .u64 s.ct.lo) := h.cell 13 _ (show (sA s r)[13]? = some (.int .u64 s.ct.lo) from rfl)
theorem at14 {w : World} {b : Nat} {s : St} {r : R3} (h : Box w b (sA s r)) : w.cell? ⟨b, 14, none⟩ = some (.int .u64 s.ct.pr) := h.cell 14 _ (show (sA s r)[14]? = some (.int .u64 s.ct.pr) from rfl)
theorem at15 {w : World} {b : Nat} {s : St} {r : R3} (h : Box w b (sA s r)) : w.cell? ⟨b, 15, none⟩ = some (.int .u64 s.ct.ev) := h.cell 15 _ (show (sA s r)[15]? = some (.int .u64 s.ct.ev) from rfl)
theorem at16 {w : World} {b : Nat} {s : St} {r : R3} (h : Box w b (sA s r)) : w.cell? ⟨b, 16, none⟩ = some (.int .u64 s.ct.fo) := h.cell 16 _ (show (sA s r)[16]? = some (.int .u64 s.ct.fo) from rfl)
theorem at17 {w : World} {b : Nat} {s : St} {r : R3} (h : Box w b (sA s r)) : w.cell? ⟨b, 17, none⟩ = some (.int .u64 s.ct.cl) := h.cell 17 _ (show (sA s r)[17]? = some (.int .u64 s.ct.cl) from rfl)
theorem at18 {w : World} {b : Nat} {s : St} {r : R3} (h : Box w b (sA s r)) : w.cell? ⟨b, 18, none⟩ = some (.int .u64 s.ct.en) := h.cell 18 _ (show (sA s r)[18]? = some (.int .u64 s.ct.en) from rfl)
theorem at19 {w : World} {b : Nat} {s : St} {r : R3} (h : Box w b (sA s r)) : w.cell? ⟨b, 19, none⟩ = some (.int .u64 s.ct.st) := h.cell 19 _ (show (sA s r)[19]? = some (.int .u64 s.ct.st) from rfl)
/-- the same two, the operation asked ahead of its guard -/
theorem ld31q {ops : Array Oper} {rest : List Oper} {o : Oper} {a : Act} {w : World} {Q : Exit → Act → World → Prop} (x : Operand) (ho : o.op = .load 31 x) (hw : Region.wanted o (yielded ops a.tmps) = true) (g : Nat) (hx : a.eval x = .pointer (some ⟨g, 0, none⟩)) (cs : Array Value) (h : Box w g cs)
    (hK : wpList Try.prog ops Q rest (a.put o.dst (.agg cs)) w) : wpList Try.prog ops Q (o :: rest) a w := ld31g hw x ho g hx cs h hK
theorem qld31q {ops : Array Oper} {rest : List Oper} {o : Oper} {a : Act} {C : World → Prop} {Q : Act → Prop} (x : Operand) (ho : o.op = .load 31 x) (hw : Region.wanted o (yielded ops a.tmps) = true) (g : Nat) (hx : a.eval x = .pointer (some ⟨g, 0, none⟩)) (cs : Array Value) (h : ∀ w, C w → Box w g cs)
    (hK : wpQuiet Try.prog ops C Q rest (a.put o.dst (.agg cs))) : wpQuiet Try.prog ops C Q (o :: rest) a := qld31 hw x ho g hx cs h hK
end Go.Proofs.Ytejcahkkpednfaa
namespace Go.Proofs.Ytejcahkkpednfaa
open Go.RowKit
open Go.Proofs.StackM
set_option linter.unusedVariables false
/-- a state's rows -/
structure SR (w : World) (s : St) (r : R3) : Prop where
  pg : PR w r.a1 r.c1 s.pg
  qu : UR w r.a2 r.c2 s.qu
  gh : UR w r.a3 r.c3 s.gh
theorem SR.kept {w w' : World} {s : St} {r : R3} (h : SR w s r) (hb : Below w.heap.size w w') : SR w' s r := ⟨h.pg.kept hb, h.qu.kept hb, h.gh.kept hb⟩
/-- r' are rows of r, or ones made from block t on -/
def Frm (t : Nat) (r r' : R3) : Prop := (r'.a1 = r.a1 ∨ ∀ a, r'.a1 = some a → t ≤ a.block) ∧ (r'.a2 = r.a2 ∨ ∀ a, r'.a2 = some a → t ≤ a.block) ∧ (r'.a3 = r.a3 ∨ ∀ a, r'.a3 = some a → t ≤ a.block)
theorem Frm.refl (t : Nat) (r : R3) : Frm t r r := ⟨.inl rfl, .inl rfl, .inl rfl⟩
theorem frm_one {t u : Nat} (h : u ≤ t) {A B C : Option Addr} (h1 : B = A ∨ ∀ a, B = some a → u ≤ a.block) (h2 : C = B ∨ ∀ a, C = some a → t ≤ a.block) : C = A ∨ ∀ a, C = some a → u ≤ a.block := by
  rcases h2 with rfl | h2
  · exact h1
  · exact .inr fun a e => Nat.le_trans h (h2 a e)
theorem Frm.trans {t u : Nat} {r r1 r2 : R3} (h1 : Frm u r r1) (h2 : Frm t r1 r2) (h : u ≤ t) : Frm u r r2 :=
  ⟨frm_one h h1.1 h2.1, frm_one h h1.2.1 h2.2.1, frm_one h h1.2.2 h2.2.2⟩
theorem Frm.weak {t u : Nat} {r r' : R3} (h1 : Frm t r r') (h : u ≤ t) : Frm u r r' := (Frm.refl u r).trans h1 h
def Old (t : Nat) (r : R3) : Prop := (∀ a, r.a1 = some a → a.block < t) ∧ (∀ a, r.a2 = some a → a.block < t) ∧ (∀ a, r.a3 = some a → a.block < t)
theorem SR.old {w : World} {s : St} {r : R3} (h : SR w s r) : Old w.heap.size r := ⟨h.pg.lt, h.qu.lt, h.gh.lt⟩
/-- what a function that tells a state tells -/
def SPost (w : World) (r : R3) (s' : St) (e : Ending) (w' : World) : Prop := ∃ r', e = .returned (sV s' r') ∧ SR w' s' r' ∧ Frm w.heap.size r r' ∧ Below w.heap.size w w'
theorem apart_of {lo hi B : Nat} {A0 A : Option Addr} (h0 : ∀ a, A0 = some a → a.block < lo) (h : A = A0 ∨ ∀ a, A = some a → hi ≤ a.block) (h1 : lo ≤ B) (h2 : B < hi) : ∀ a, A = some a → a.block ≠ B := by
  intro a e
  rcases h with h | h
  · have := h0 a (by rw [← h]; exact e); omega
  · have := h a e; omega
theorem vrow_set {w : World} {A : Option Addr} {cap : Nat} {vs : List Value} (h : VRow w A cap vs) {B k : Nat} {v : Value} (hB : ∀ a, A = some a → a.block ≠ B) : VRow (w.setCell ⟨B, k, none⟩ v) A cap vs := by
  rcases h with h | ⟨b, off, e, h⟩
  · exact .inl h
  · exact .inr ⟨b, off, e, fun j hj => by
      have hne : b ≠ B := hB _ e
      rw [← h j hj]
      simp only [World.cell?]
      rw [Below.heap_setCell w ⟨B, k, none⟩ v b hne]⟩
theorem vrow_row {w : World} {A : Option Addr} {cap : Nat} {vs : List Value} (h : VRow w A cap vs) {B : Nat} {cs : Array Value} (hB : ∀ a, A = some a → a.block ≠ B) : VRow (w.setRow B cs) A cap vs := by
  rcases h with h | ⟨b, off, e, h⟩
  · exact .inl h
  · exact .inr ⟨b, off, e, fun j hj => by
      have hne : b ≠ B := hB _ e
      rw [← h j hj]
      simp only [World.cell?, World.setRow, Array.getElem?_modify]
      rw [if_neg (fun h => hne h.symm)]⟩
theorem below_setRow {w w' : World} {B b : Nat} {cs : Array Value} (h : Below B w w') (hB : B ≤ b) : Below B w (w'.setRow b cs) :=
  ⟨h.os, h.tape, h.output, by rw [size_setRow]; exact h.size, fun k hk => by
    rw [← h.block k hk]
    simp only [World.setRow, Array.getElem?_modify]
    rw [if_neg (by omega)]⟩
/-- the world while a function goes on with a state: lo, its first block; hi, behind its boxes; r0, the rows that it was given; B, the box -/
structure Fr (w : World) (hi : Nat) (r0 : R3) (w' : World) (B : Nat) (s : St) (r : R3) : Prop where
  box : SAt w' B s r
  rows : SR w' s r
  frm : Frm hi r0 r
  old : Old w.heap.size r0
  bel : Below w.heap.size w w'
  lo : w.heap.size ≤ B
  up : B < hi
  hi : hi ≤ w'.heap.size
section
variable {w w1 w2 : World} {hi B : Nat} {r0 r : R3} {s : St}
theorem Fr.keep (x : Fr w hi r0 w1 B s r) (hb : Below w1.heap.size w1 w2) : Fr w hi r0 w2 B s r :=
  ⟨x.box.kept hb x.box.lt, x.rows.kept hb, x.frm, x.old, x.bel.trans (hb.mono x.bel.size), x.lo, x.up, Nat.le_trans x.hi hb.size⟩
theorem Fr.alloc (x : Fr w hi r0 w1 B s r) (o : Obj) : Fr w hi r0 (w1.alloc o) B s r := x.keep (alloc_below w1 o)
theorem Fr.drewN (x : Fr w hi r0 w1 B s r) (n : Nat) : Fr w hi r0 (w1.drewN n) B s r := x.keep (below_drew (Below.refl _ _) n)
theorem sr_set {s' : St} {r' : R3} (hr : SR w1 s' r') (hf : Frm hi r0 r') (ho : Old w.heap.size r0) (h1 : w.heap.size ≤ B) (h2 : B < hi) (k : Nat) (v : Value) : SR (w1.setCell ⟨B, k, none⟩ v) s' r' := by
  have hs : (w1.setCell ⟨B, k, none⟩ v).heap.size = w1.heap.size := by simp [World.setCell]
  refine ⟨⟨vrow_set hr.pg.row (apart_of ho.1 hf.1 h1 h2), fun a e => by rw [hs]; exact hr.pg.lt a e, hr.pg.le⟩, ⟨vrow_set hr.qu.row (apart_of ho.2.1 hf.2.1 h1 h2), fun a e => by rw [hs]; exact hr.qu.lt a e, hr.qu.le⟩, ⟨vrow_set hr.gh.row (apart_of ho.2.2 hf.2.2 h1 h2), fun a e => by rw [hs]; exact hr.gh.lt a e, hr.gh.le⟩⟩
theorem sr_row {s' : St} {r' : R3} (hr : SR w1 s' r') (hf : Frm hi r0 r') (ho : Old w.heap.size r0) (h1 : w.heap.size ≤ B) (h2 : B < hi) (cs : Array Value) : SR (w1.setRow B cs) s' r' := by
  have hs : (w1.setRow B cs).heap.size = w1.heap.size := size_setRow _ _ _
  refine ⟨⟨vrow_row hr.pg.row (apart_of ho.1 hf.1 h1 h2), fun a e => by rw [hs]; exact hr.pg.lt a e, hr.pg.le⟩, ⟨vrow_row hr.qu.row (apart_of ho.2.1 hf.2.1 h1 h2), fun a e => by rw [hs]; exact hr.qu.lt a e, hr.qu.le⟩, ⟨vrow_row hr.gh.row (apart_of ho.2.2 hf.2.2 h1 h2), fun a e => by rw [hs]; exact hr.gh.lt a e, hr.gh.le⟩⟩
theorem below_setCell {w w' : World} {L b k : Nat} {v : Value} (h : Below L w w') (hB : L ≤ b) : Below L w (w'.setCell ⟨b, k, none⟩ v) :=
  ⟨h.os, h.tape, h.output, by simpa [World.setCell] using h.size, fun j hj => by
    rw [← h.block j hj]
    exact Below.heap_setCell w' ⟨b, k, none⟩ v j (by show j ≠ b; omega)⟩
/-- one cell of the box is set -/
theorem Fr.set (x : Fr w hi r0 w1 B s r) (k : Nat) (v : Value) (s' : St) (r' : R3) (he : (sA s r).setIfInBounds k v = sA s' r') (hr : SR w1 s' r') (hf : Frm hi r0 r') : Fr w hi r0 (w1.setCell ⟨B, k, none⟩ v) B s' r' :=
  ⟨by have := x.box.set k v; rw [he] at this; exact this, sr_set hr hf x.old x.lo x.up k v, hf, x.old, below_setCell x.bel x.lo, x.lo, x.up, by simpa [World.setCell] using x.hi⟩
theorem Fr.setPg (x : Fr w hi r0 w1 B s r) {l : List Pg} {A : Option Addr} {c n : Nat} (h : PR w1 A c l) (hf : ∀ a, A = some a → hi ≤ a.block) (hn : n = l.length) : Fr w hi r0 (w1.setCell ⟨B, 5, none⟩ (.slice A n c)) B { s with pg := l } { r with a1 := A, c1 := c } := by
  subst hn
  exact x.set 5 _ _ _ rfl ⟨h, x.rows.qu, x.rows.gh⟩ ⟨.inr hf, x.frm.2.1, x.frm.2.2⟩
theorem Fr.setQu (x : Fr w hi r0 w1 B s r) {l : List Int} {A : Option Addr} {c n : Nat} (h : UR w1 A c l) (hf : ∀ a, A = some a → hi ≤ a.block) (hn : n = l.length) : Fr w hi r0 (w1.setCell ⟨B, 6, none⟩ (.slice A n c)) B { s with qu := l } { r with a2 := A, c2 := c } := by
  subst hn
  exact x.set 6 _ _ _ rfl ⟨x.rows.pg, h, x.rows.gh⟩ ⟨x.frm.1, .inr hf, x.frm.2.2⟩
theorem Fr.setGh (x : Fr w hi r0 w1 B s r) {l : List Int} {A : Option Addr} {c n : Nat} (h : UR w1 A c l) (hf : ∀ a, A = some a → hi ≤ a.block) (hn : n = l.length) : Fr w hi r0 (w1.setCell ⟨B, 7, none⟩ (.slice A n c)) B { s with gh := l } { r with a3 := A, c3 := c } := by
  subst hn
  exact x.set 7 _ _ _ rfl ⟨x.rows.pg, x.rows.qu, h⟩ ⟨x.frm.1, x.frm.2.1, .inr hf⟩
theorem Fr.setHi (x : Fr w hi r0 w1 B s r) (n : Int) : Fr w hi r0 (w1.setCell ⟨B, 10, none⟩ (.int .u64 n)) B { s with ct := { s.ct with hi := n } } r := x.set 10 _ _ _ rfl ⟨x.rows.pg, x.rows.qu, x.rows.gh⟩ x.frm
theorem Fr.setMi (x : Fr w hi r0 w1 B s r) (n : Int) : Fr w hi r0 (w1.setCell ⟨B, 11, none⟩ (.int .u64 n)) B { s with ct := { s.ct with mi := n } } r := x.set 11 _ _ _ rfl ⟨x.rows.pg, x.rows.qu, x.rows.gh⟩ x.frm
theorem Fr.setRa (x : Fr w hi r0 w1 B s r) (n : Int) : Fr w hi r0 (w1.setCell ⟨B, 12, none⟩ (.int .u64 n)) B { s with ct := { s.ct with ra := n } } r := x.set 12 _ _ _ rfl ⟨x.rows.pg, x.rows.qu, x.rows.gh⟩ x.frm
theorem Fr.setLo (x : Fr w hi r0 w1 B s r) (n : Int) : Fr w hi r0 (w1.setCell ⟨B, 13, none⟩ (.int .u64 n)) B { s with ct := { s.ct with lo := n } } r := x.set 13 _ _ _ rfl ⟨x.rows.pg, x.rows.qu, x.rows.gh⟩ x.frm
theorem Fr.setPr (x : Fr w hi r0 w1 B s r) (n : Int) : Fr w hi r0 (w1.setCell ⟨B, 14, none⟩ (.int .u64 n)) B { s with ct := { s.ct with pr := n } } r := x.set 14 _ _ _ rfl ⟨x.rows.pg, x.rows.qu, x.rows.gh⟩ x.frm
theorem Fr.setEv (x : Fr w hi r0 w1 B s r) (n : Int) : Fr w hi r0 (w1.setCell ⟨B, 15, none⟩ (.int .u64 n)) B { s with ct := { s.ct with ev := n } } r := x.set 15 _ _ _ rfl ⟨x.rows.pg, x.rows.qu, x.rows.gh⟩ x.frm
theorem Fr.setFo (x : Fr w hi r0 w1 B s r) (n : Int) : Fr w hi r0 (w1.setCell ⟨B, 16, none⟩ (.int .u64 n)) B { s with ct := { s.ct with fo := n } } r := x.set 16 _ _ _ rfl ⟨x.rows.pg, x.rows.qu, x.rows.gh⟩ x.frm
/-- the box is written over by a state that a call told -/
theorem Fr.setAll (x : Fr w hi r0 w1 B s r) {s' : St} {r' : R3} (hr : SR w1 s' r') (hf : Frm hi r0 r') : Fr w hi r0 (w1.setRow B (sA s' r')) B s' r' :=
  ⟨x.box.rowSet (sA_len _ _), sr_row hr hf x.old x.lo x.up _, hf, x.old, below_setRow x.bel x.lo, x.lo, x.up, by rw [size_setRow]; exact x.hi⟩
/-- what a call told of the state in the box -/
theorem Fr.told (x : Fr w hi r0 w1 B s r) {s' : St} {r' : R3} (hr : SR w2 s' r') (hf : Frm w1.heap.size r r') : Frm hi r0 r' := x.frm.trans hf x.hi
/-- the box's cells -/
theorem Fr.c (x : Fr w hi r0 w1 B s r) (k : Nat) (v : Value) (hv : (sA s r)[k]? = some v) : w1.cell? ⟨B, k, none⟩ = some v := x.box.cell k v hv
/-- a fresh box -/
theorem Fr.start {s : St} {r : R3} (h : SR w s r) (o : Obj) : Fr w (w.heap.size + 2) r ((w.alloc (.cells (sA s r) 31)).alloc o) w.heap.size s r := by
  have b1 := alloc_below w (.cells (sA s r) 31)
  have b2 := alloc_in b1 b1.size o
  exact ⟨(box_alloc w (sA s r) (sA_len _ _)).kept (alloc_below _ o) (by simp), h.kept b2, Frm.refl _ _, h.old, b2, Nat.le_refl _, by omega, by simp⟩
theorem Fr.start1 {s : St} {r : R3} (h : SR w s r) : Fr w (w.heap.size + 1) r (w.alloc (.cells (sA s r) 31)) w.heap.size s r := by
  have b1 := alloc_below w (.cells (sA s r) 31)
  exact ⟨box_alloc w (sA s r) (sA_len _ _), h.kept b1, Frm.refl _ _, h.old, b1, Nat.le_refl _, by omega, by simp⟩
/-- the result's block is written, and told -/
theorem Fr.ret (x : Fr w hi r0 w1 B s r) {R : Nat} (h1 : w.heap.size ≤ R) (h2 : R < hi) {s' : St} {r' : R3} (hr : SR w1 s' r') (hf : Frm hi r0 r') (hh : w.heap.size ≤ hi) {e : Ending} (he : e = .returned (sV s' r')) : SPost w r0 s' e (w1.setRow R (sA s' r')) :=
  ⟨r', he, sr_row hr hf x.old h1 h2 _, hf.weak hh, below_setRow x.bel h1⟩
end
end Go.Proofs.Ytejcahkkpednfaa
namespace Go.Proofs.Ytejcahkkpednfaa
open Go.RowKit
set_option linter.unusedVariables false
structure GrB (w : World) where
  v : World
  h : Below w.heap.size w v
instance (w : World) : Inhabited (GrB w) := ⟨⟨w, Below.refl _ _⟩⟩
theorem region_grown {P : Program} {id : Nat} {Q : Exit → Act → World → Prop} {a : Act} {w : World} {l : List Oper} (hm : P.follows .mixedOrders = true) (hB : Region.lexB .any l.toArray = true)
    (h : wpQuiet P l.toArray (fun w' => ∃ p : GrB w, w' = p.v) (fun a' => ∀ w', (∃ p : GrB w, w' = p.v) → Q .normal a' w') l a) : (Code.region id l.toArray true).wp P Q a w :=
  wp_region_quiet (C := fun w' => ∃ p : GrB w, w' = p.v) hm hB ⟨⟨w.drewN 1, below_drew (Below.refl _ _) 1⟩, rfl⟩ (by simpa using h)
theorem region_grown_tail {P : Program} {id : Nat} {Q : Exit → Act → World → Prop} {a : Act} {w : World} {l : List Oper} (n : Nat) (hm : P.follows .mixedOrders = true) (hB : Region.lexTailB .any l.toArray n = true)
    (h : wpQuiet P l.toArray (fun w' => ∃ p : GrB w, w' = p.v) (fun a' => ∀ w', (∃ p : GrB w, w' = p.v) → wpList P l.toArray Q (l.drop n) a' w') (l.take n) a) : (Code.region id l.toArray true).wp P Q a w :=
  region_quiet_tail (C := fun w' => ∃ p : GrB w, w' = p.v) n hm hB ⟨⟨w.drewN 1, below_drew (Below.refl _ _) 1⟩, rfl⟩ h
/-- a contract, in any world that has only grown -/
theorem grown_call {P : Program} {w : World} {f : FuncId} {args : Array Value} {v : Value} (h : ∀ V, Below w.heap.size w V → Calls P f args V fun e w' => e = .returned v ∧ Below V.heap.size V w') (p : GrB w) : Calls P f args p.v fun e w' => e = .returned v ∧ ∃ p' : GrB w, w' = p'.v :=
  (h p.v p.h).mono fun e w' ⟨h1, h2⟩ => ⟨h1, ⟨w', p.h.trans (h2.mono p.h.size)⟩, rfl⟩
end Go.Proofs.Ytejcahkkpednfaa
namespace Go.Proofs.Ytejcahkkpednfaa
open Go.RowKit
open Go.Proofs.StackM
set_option linter.unusedVariables false
/-- what the walks lean on: rows of at most so many -/
def Lim (s : St) (m : Nat) : Prop := s.pg.length ≤ m ∧ s.qu.length ≤ m ∧ s.gh.length ≤ m
instance (s : St) (m : Nat) : Decidable (Lim s m) := by unfold Lim; infer_instance
set_option maxHeartbeats 1000000 in
set_option maxRecDepth 100000 in
theorem small_at (s : St) (r : R3) (m : Nat) (hm : m ≤ 100000) (w : World) : Calls Try.prog 8 #[sV s r, .int .i64 (m : Int)] w fun e w' => e = .returned (.bool (decide (Lim s m))) ∧ Below w.heap.size w w' := by
  have hB := box_alloc w (sA s r) (sA_len _ _)
  have d5 := at5 hB
  have d6 := at6 hB
  have d7 := at7 hB
  have HQ := Lib.hid (alloc_below w (.cells (sA s r) 31))
  obtain ⟨b, hb⟩ : ∃ b, b = decide (Lim s m) := ⟨_, rfl⟩
  rw [← hb]
  obtain ⟨n1, h1⟩ : ∃ n, n = s.pg.length := ⟨_, rfl⟩
  obtain ⟨n2, h2⟩ : ∃ n, n = s.qu.length := ⟨_, rfl⟩
  obtain ⟨n3, h3⟩ : ∃ n, n = s.gh.length := ⟨_, rfl⟩
  have hb2 : b = decide (n1 ≤ m ∧ n2 ≤ m ∧ n3 ≤ m) := by rw [hb, h1, h2, h3]; rfl
  rw [← h1] at d5
  rw [← h2] at d6
  rw [← h3] at d7
  have HB := Lib.hid hb2
  clear hB hb h1 h2 h3 hb2
  by_cases g1 : (n1 : Int) ≤ (m : Int)
  · by_cases g2 : (n2 : Int) ≤ (m : Int)
    · by_cases g3 : (n3 : Int) ≤ (m : Int)
      · obtain rfl : b = true := by rw [HB.out]; exact decide_eq_true ⟨by omega, by omega, by omega⟩
        go_enter Try.func8, Try.ntmps8
        go_wp2
        go_ret
        exact ⟨rfl, HQ.out⟩
      · obtain rfl : b = false := by rw [HB.out]; exact decide_eq_false (fun h => g3 (by omega))
        go_enter Try.func8, Try.ntmps8
        go_wp2
        go_ret
        exact ⟨rfl, HQ.out⟩
    · obtain rfl : b = false := by rw [HB.out]; exact decide_eq_false (fun h => g2 (by omega))
      go_enter Try.func8, Try.ntmps8
      go_wp2
      go_ret
      exact ⟨rfl, HQ.out⟩
  · obtain rfl : b = false := by rw [HB.out]; exact decide_eq_false (fun h => g1 (by omega))
    go_enter Try.func8, Try.ntmps8
    go_wp2
    go_ret
    exact ⟨rfl, HQ.out⟩
/-- a config that bounds are reckoned with -/
def Cok (c : Cf) : Prop := (0 ≤ c.c ∧ c.c ≤ 100000) ∧ (0 ≤ c.q ∧ c.q ≤ 100000) ∧ (0 ≤ c.g ∧ c.g ≤ 100000)
theorem many_le (l : List Pg) (d : Int) : many l d ≤ l.length := List.countP_le_length
/-- of which kind a key's page is -/
theorem fnd_find {l : List Pg} {k : Int} {i : Nat} (h : fnd l k = some i) : ∃ hi : i < l.length, l[i].key = k ∧ l.find? (fun p => decide (p.key = k)) = some l[i] := by
  unfold fnd at h
  have h2 := List.findIdx?_eq_some_iff_getElem.1 h
  obtain ⟨hi, h3, h4⟩ := h2
  refine ⟨hi, by simpa using h3, ?_⟩
  rw [List.find?_eq_some_iff_getElem]
  exact ⟨h3, i, hi, rfl, fun j hj => by simpa using h4 j hj⟩
theorem fnd_none_find {l : List Pg} {k : Int} (h : fnd l k = none) : l.find? (fun p => decide (p.key = k)) = none := by
  unfold fnd at h
  rw [List.findIdx?_eq_none_iff] at h
  rw [List.find?_eq_none]
  intro p hp
  simp [h p hp]
theorem fi_cases (l : List Pg) (k : Int) : (∃ i, ∃ hi : i < l.length, fi l k = (i : Int) ∧ l[i].key = k ∧ l.find? (fun p => decide (p.key = k)) = some l[i]) ∨ (fi l k = -1 ∧ l.find? (fun p => decide (p.key = k)) = none) := by
  unfold fi
  cases h : fnd l k with
  | none => exact .inr ⟨rfl, fnd_none_find h⟩
  | some i =>
    obtain ⟨hi, h1, h2⟩ := fnd_find h
    exact .inl ⟨i, hi, rfl, h1, h2⟩
end Go.Proofs.Ytejcahkkpednfaa
namespace Go.Proofs.Ytejcahkkpednfaa
open Go.RowKit
open Go.Proofs.StackM
set_option linter.unusedVariables false
def S0 : St := ⟨⟨0, 0, 0, 0⟩, 0, [], [], [], 0, 0, ⟨0, 0, 0, 0, 0, 0, 0, 0, 0, 0⟩⟩
def R0 : R3 := ⟨none, 0, none, 0, none, 0⟩
/-- the frame with the result's block behind the box -/
structure F2 (w : World) (r0 : R3) (w' : World) (s : St) (r : R3) : Prop where
  fr : Fr w (w.heap.size + 2) r0 w' w.heap.size s r
  res : Box w' (w.heap.size + 1) (sA S0 R0)
section
variable {w w1 w2 : World} {r0 r : R3} {s : St}
theorem F2.keep (x : F2 w r0 w1 s r) (hb : Below w1.heap.size w1 w2) : F2 w r0 w2 s r := ⟨x.fr.keep hb, x.res.kept hb x.res.lt⟩
theorem F2.cellset (x : F2 w r0 w1 s r) {k : Nat} {v : Value} {s' : St} {r' : R3} (y : Fr w (w.heap.size + 2) r0 (w1.setCell ⟨w.heap.size, k, none⟩ v) w.heap.size s' r') : F2 w r0 (w1.setCell ⟨w.heap.size, k, none⟩ v) s' r' := ⟨y, x.res.cellOther (by simp)⟩
theorem F2.setAll (x : F2 w r0 w1 s r) {s' : St} {r' : R3} (hr : SR w1 s' r') (hf : Frm (w.heap.size + 2) r0 r') : F2 w r0 (w1.setRow w.heap.size (sA s' r')) s' r' := ⟨x.fr.setAll hr hf, x.res.other (by omega) _⟩
theorem F2.start {s : St} {r : R3} (h : SR w s r) : F2 w r ((w.alloc (.cells (sA s r) 31)).alloc (.cells (sA S0 R0) 31)) s r :=
  ⟨Fr.start h _, by have := box_alloc (w.alloc (.cells (sA s r) 31)) (sA S0 R0) rfl; simpa using this⟩
theorem F2.fresh (x : F2 w r0 w1 s r) {A : Option Addr} (h : ∀ a, A = some a → w1.heap.size ≤ a.block) : ∀ a, A = some a → w.heap.size + 2 ≤ a.block := fun a e => Nat.le_trans x.fr.hi (h a e)
theorem F2.ret (x : F2 w r0 w1 s r) {s' : St} {r' : R3} (hr : SR w1 s' r') (hf : Frm (w.heap.size + 2) r0 r') {e : Ending} (he : e = .returned (sV s' r')) : SPost w r0 s' e (w1.setRow (w.heap.size + 1) (sA s' r')) :=
  x.fr.ret (Nat.le_succ _) (by omega) hr hf (by omega) he
end
theorem wrap_up (n : Int) : IntKind.u64.wrap (n + 1) = up n := by
  simp [IntKind.wrap, up, IntKind.bits, IntKind.signed]
theorem info59 : (Try.prog.info? 58).map (·.size) = some 4 := by kernel_rfl
theorem st59n {ops : Array Oper} {rest : List Oper} {o : Oper} {a : Act} {w : World} {Q : Exit → Act → World → Prop} (hgd : o.guard = none) (x y : Operand) (ho : o.op = .store 58 x y) (p0 p1 : Int) (p2 p3 : Bool) (hx : a.eval x = .pointer (some ⟨w.heap.size, 0, none⟩)) (hy : a.eval y = .agg #[.int .u64 p0, .int .i64 p1, .bool p2, .bool p3]) (old : Array Value) (hold : old.size = 4)
    (hK : wpList Try.prog ops Q rest a (w.alloc (.cells #[.int .u64 p0, .int .i64 p1, .bool p2, .bool p3] 58))) (hd : o.dst = none := by rfl) : wpList Try.prog ops Q (o :: rest) a (w.alloc (.cells old 58)) :=
  wpList_store_row hgd 58 x y ho w.heap.size #[.int .u64 p0, .int .i64 p1, .bool p2, .bool p3] hx hy 58 old (by show (w.heap.push _)[w.heap.size]? = _; simp) info59 (by rw [hold]; rfl) (by simp [Value.oneCell']) (by rw [World.setRow_alloc_new, hd]; exact hK)
/-- the length of a row that a cell holds: the measure of a loop -/
def lenAt (w : World) (B k : Nat) : Nat := match w.cell? ⟨B, k, none⟩ with | some (.slice _ n _) => n | _ => 0
theorem lenAt_of {w : World} {B k n c : Nat} {A : Option Addr} (h : w.cell? ⟨B, k, none⟩ = some (.slice A n c)) : lenAt w B k = n := by rw [lenAt, h]
/-- what a function that tells a state and a truth tells -/
def S2Post (w : World) (r : R3) (s' : St) (b : Bool) (e : Ending) (w' : World) : Prop := ∃ r', e = .returned (.tuple #[sV s' r', .bool b]) ∧ SR w' s' r' ∧ Frm w.heap.size r r' ∧ Below w.heap.size w w'
theorem F2.ret2 {w w1 : World} {r0 r : R3} {s : St} (x : F2 w r0 w1 s r) {s' : St} {r' : R3} {b : Bool} (hr : SR w1 s' r') (hf : Frm (w.heap.size + 2) r0 r') {e : Ending} (he : e = .returned (.tuple #[sV s' r', .bool b])) : S2Post w r0 s' b e (w1.setRow (w.heap.size + 1) (sA s' r')) :=
  ⟨r', he, sr_row hr hf x.fr.old (Nat.le_succ _) (by omega) _, hf.weak (by omega), below_setRow x.fr.bel (Nat.le_succ _)⟩
theorem F2.grow {w w1 : World} {r0 r r1 r2 : R3} {s : St} (x : F2 w r0 w1 s r) (h1 : Frm (w.heap.size + 2) r0 r1) (h2 : Frm w1.heap.size r1 r2) : Frm (w.heap.size + 2) r0 r2 := h1.trans h2 x.fr.hi
theorem Lim.up {s : St} {m n : Nat} (h : Lim s m) (hmn : m ≤ n) : Lim s n := ⟨by have := h.1; omega, by have := h.2.1; omega, by have := h.2.2; omega⟩
end Go.Proofs.Ytejcahkkpednfaa
