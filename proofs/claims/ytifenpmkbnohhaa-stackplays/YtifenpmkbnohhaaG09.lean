/-
  Worlds that grow, rows that are owned, copies and clears of rows: no program is named here.
  A page is put into a row of pages: slices.Insert.
  A key is taken out of a row of keys: slices.Delete.
-/
import Derived.Test.YtifenpmkbnohhaaG06
import Derived.Maps.AppendAt
import Derived.Deep.RegionLaw
import Derived.Laws.CopyRow
import Derived.Lib.AppendZerosOnto
import Derived.Lib.Overlaps
import Derived.Laws.Externs
import Derived.StillTailTactics
import Derived.OwnWalk
namespace Go.Proofs.Ytifenpmkbnohhaa
open Go.RowKit
set_option linter.unusedVariables false
theorem grown_trans {a b c : World} {row : Option Nat} (h1 : a.grownBy b row) (h2 : b.grownBy c row) : a.grownBy c row :=
  ⟨h2.os.trans h1.os, h2.tape.trans h1.tape, h2.output.trans h1.output, Nat.le_trans h1.size h2.size, fun k hk hr => (h2.block k (Nat.lt_of_lt_of_le hk h1.size) hr).trans (h1.block k hk hr)⟩
theorem grown_drewN (w : World) (q : Nat) (row : Option Nat) : w.grownBy (w.drewN q) row := ⟨rfl, rfl, rfl, Nat.le_refl _, fun _ _ _ => rfl⟩
theorem grown_setCell (w : World) (g k : Nat) (v : Value) : w.grownBy (w.setCell ⟨g, k, none⟩ v) (some g) :=
  ⟨rfl, rfl, rfl, by simp, fun j _ hj => heap_setCell_other w ⟨g, k, none⟩ j v (fun e => hj (by rw [e]))⟩
theorem grown_new {a b c : World} {g : Nat} (h1 : a.grownBy b none) (h2 : b.grownBy c (some g)) (hg : a.heap.size ≤ g) : a.grownBy c none :=
  ⟨h2.os.trans h1.os, h2.tape.trans h1.tape, h2.output.trans h1.output, Nat.le_trans h1.size h2.size,
    fun k hk hr => (h2.block k (Nat.lt_of_lt_of_le hk h1.size) (by intro e; cases e; omega)).trans (h1.block k hk hr)⟩

theorem type_eq {x : Option Obj} {cur cur' : Array Value} {t t' : TypeId} {f f' : Nat × Nat} (h : x = some (.cells cur t f)) (h' : x = some (.cells cur' t' f')) : t = t' := by
  rw [h] at h'; injection h' with h'; injection h'

section
variable {w w' : World} {b : Nat}
theorem cell_of_head {cs : Array Value} {t : TypeId} (h : w.heap[b]? = some (.cells cs t (0, 0))) (i : Nat) : w.cell? ⟨b, i, none⟩ = cs[i]? := by
  simp [World.cell?, h]
theorem frozen_of_head {cs : Array Value} {t : TypeId} (h : w.heap[b]? = some (.cells cs t (0, 0))) (i : Nat) : w.frozen? ⟨b, i, none⟩ = false := by
  simp [World.frozen?, h]
theorem owns_slice {base n : Nat} {e : TypeId} {size : Nat} {v : Value} {xs : List Value} (h : w.ownsRow base e size v n xs) : ∃ A cap, v = .slice A n cap := by
  rcases h.2 with ⟨rfl, h0⟩ | ⟨g, cap, cur, rfl, _⟩
  · exact ⟨none, 0, by rw [h0]⟩
  · exact ⟨_, _, rfl⟩
theorem owns_stay {base n : Nat} {e : TypeId} {size : Nat} {v : Value} {xs : List Value} (h : w.ownsRow base e size v n xs) (hb : ∀ k, v.ownBlock = some k → w'.heap[k]? = w.heap[k]?) : w'.ownsRow base e size v n xs := by
  refine ⟨h.1, ?_⟩
  rcases h.2 with h' | ⟨g, cap, cur, rfl, hg, hgb, r⟩
  · exact .inl h'
  · exact .inr ⟨g, cap, cur, rfl, hg, (hb g rfl).trans hgb, r⟩
theorem owns_type {base n : Nat} {e : TypeId} {size : Nat} {v : Value} {xs : List Value} (h : w.ownsRow base e size v n xs) {k : Nat} (hk : v.ownBlock = some k) : base ≤ k ∧ ∃ cur, w.heap[k]? = some (.cells cur e (0, 0)) := by
  rcases h.2 with ⟨rfl, _⟩ | ⟨g, cap, cur, rfl, hg, hgb, r⟩
  · cases hk
  · injection hk with hk
    have hk : g = k := hk
    subst hk
    exact ⟨hg, cur, hgb⟩
theorem head_set {cs : Array Value} {t : TypeId} (h : w.heap[b]? = some (.cells cs t (0, 0))) (i : Nat) (v : Value) :
    (w.setCell ⟨b, i, none⟩ v).heap[b]? = some (.cells (cs.setIfInBounds i v) t (0, 0)) := heap_setCell_same w b i cs t v h
end
theorem step_append_run {P : Program} {w : World} {ops : Array Oper} {o : Oper} {a : Act} {K : Act → World → Prop} {Q : Exit → Act → World → Prop} {E : Prop} (hgd : o.guard = none) (s x : Operand) (t : TypeId)
    (hop : o.op = Op.call { callee := Callee.builtin Builtin.append, args := #[s, x], argTypes := #[t, t] }) {v u v' : Value} {w' : World} (hs : a.eval s = v) (hx : a.eval x = u)
    (hrun : (Builtin.append_ #[t, t] o.type #[v, u]).run P w = .ok v' w') (hK : K (a.put o.dst v') w') : if Region.wanted o (yielded ops a.tmps) = true then Oper.wp P o a w K Q else E := by
  have hw : Region.wanted o (yielded ops a.tmps) = true := by simp [Region.wanted, hgd]
  rw [if_pos hw]
  unfold Oper.wp
  simp [execOp, hop, resolve, invoke, builtin, hs, hx, hrun, Result.andThen]
  exact hK

structure But (X : Nat → Prop) (w w' : World) : Prop where
  os : w'.os = w.os
  tape : w'.tape = w.tape
  output : w'.output = w.output
  size : w.heap.size ≤ w'.heap.size
  block : ∀ k, k < w.heap.size → ¬ X k → w'.heap[k]? = w.heap[k]?
theorem But.refl (X : Nat → Prop) (w : World) : But X w w := ⟨rfl, rfl, rfl, Nat.le_refl _, fun _ _ _ => rfl⟩
theorem But.trans {X : Nat → Prop} {a b c : World} (h : But X a b) (g : But X b c) : But X a c :=
  ⟨g.os.trans h.os, g.tape.trans h.tape, g.output.trans h.output, Nat.le_trans h.size g.size, fun k hk hc => (g.block k (Nat.lt_of_lt_of_le hk h.size) hc).trans (h.block k hk hc)⟩
theorem But.wide {X Y : Nat → Prop} {a b : World} (h : But X a b) (hy : ∀ k, X k → Y k) : But Y a b := ⟨h.os, h.tape, h.output, h.size, fun k hk hc => h.block k hk (fun hx => hc (hy k hx))⟩
theorem But.of_grown {X : Nat → Prop} {w w' : World} {row : Option Nat} (hg : w.grownBy w' row) (hr : ∀ r, row = some r → X r) : But X w w' :=
  ⟨hg.os, hg.tape, hg.output, hg.size, fun k hk hc => hg.block k hk (fun e => hc (hr k e.symm))⟩
theorem But.of_new {X : Nat → Prop} {w w' : World} (hg : w.grownBy w' none) : But X w w' := But.of_grown hg (by intro r h; cases h)
theorem But.of_set (w : World) (g i : Nat) (v : Value) {X : Nat → Prop} (hx : X g) : But X w (w.setCell ⟨g, i, none⟩ v) := But.of_grown (grown_setCell w g i v) (by intro r e; cases e; exact hx)
theorem run_storeVar_cell {P : Program} (w : World) (g o : Nat) (ty : TypeId) (v v0 : Value) (hc : w.cell? ⟨g, o, none⟩ = some v0) (hf : w.frozen? ⟨g, o, none⟩ = false) (hi : (P.info? ty).map (·.size) = some 1)
    (h1 : v.oneCell' = true) : (storeVar ty ⟨g, o, none⟩ v).run P w = .ok () (w.setCell ⟨g, o, none⟩ v) := by
  have := run_storeCells_cells (P := P) g o [v] 0 w (fun j hj => by
      simp only [List.length_cons, List.length_nil] at hj
      obtain rfl : j = 0 := by omega
      show (w.cell? ⟨g, o, none⟩).isSome = true
      rw [hc]; rfl) (fun j hj => by
      simp only [List.length_cons, List.length_nil] at hj
      obtain rfl : j = 0 := by omega
      exact hf) (fun x hx => by simp at hx; subst hx; exact h1)
  have hcc : v.cells = #[v] := by cases v <;> first | rfl | cases h1
  cases hq : P.info? ty with
  | none => simp [hq] at hi
  | some i =>
    have hs : i.size = 1 := by simpa [hq] using hi
    simp only [Nat.add_zero, World.setCells] at this
    simp [storeVar, sizeOf, typeInfo, hq, hcc, hs, this]
theorem wpList_store_cell {P : Program} {ops : Array Oper} {rest : List Oper} {op : Oper} {a : Act} {w : World} {Q : Exit → Act → World → Prop} (hgd : op.guard = none) (ty : TypeId) (x y : Operand) (ho : op.op = .store ty x y)
    {g o : Nat} {v v0 : Value} (hx : a.eval x = .pointer (some ⟨g, o, none⟩)) (hy : a.eval y = v) (h1 : v.oneCell' = true) (hi : (P.info? ty).map (·.size) = some 1) (hc : w.cell? ⟨g, o, none⟩ = some v0) (hf : w.frozen? ⟨g, o, none⟩ = false)
    (h : wpList P ops Q rest (a.put op.dst undef) (w.setCell ⟨g, o, none⟩ v)) : wpList P ops Q (op :: rest) a w := by
  refine wpList_plain hgd fun K hK => ?_
  unfold Oper.wp execOp
  simp only [ho, hx, hy, Instr.storeAt, Instr.sureAddr, Sem.run_bind, Sem.run_pure, Result.andThen_ok, run_storeVar_cell w g o ty v v0 hc hf hi h1]
  exact hK _ _ h

theorem region_tail {P : Program} {id : Nat} {Q : Exit → Act → World → Prop} {a : Act} {w : World} {l : List Oper} (n : Nat) (hm : P.follows .mixedOrders = true) (hB : Region.lexTailB .any l.toArray n = true)
    (h : ∀ w2 : World, w2 = w.drewN 1 → wpStill P l.toArray w2 (fun a' => wpList P l.toArray Q (l.drop n) a' w2) (l.take n) a) : (Code.region id l.toArray true).wp P Q a w :=
  wp_region_still_tail n hm hB (h _ rfl)
theorem kept2 {w w' : World} {B : Nat} {o : Obj} (h : w.heap[B]? = some o) (hg : w.grownBy w' none) : w'.heap[B]? = some o := (hg.block B (Array.getElem?_eq_some_iff.1 h).1 (by simp)).trans h
theorem owns_base {W : World} {a b : Nat} {e : TypeId} {size : Nat} {v : Value} {n : Nat} {xs : List Value} (h : W.ownsRow a e size v n xs) (hb : b ≤ a) : W.ownsRow b e size v n xs := by
  refine ⟨h.1, ?_⟩
  rcases h.2 with h | ⟨g, cap, cur, hv, hg, r⟩
  · exact .inl h
  · exact .inr ⟨g, cap, cur, hv, Nat.le_trans hb hg, r⟩
theorem owns_cut {W : World} {lo n m cap size : Nat} {e : TypeId} {A : Option Addr} {xs : List Value} (h : W.ownsRow lo e size (.slice A n cap) n xs) (hm : m ≤ n) : W.ownsRow lo e size (.slice A m cap) m (xs.take (m * size)) := by
  have hl : m * size ≤ n * size := Nat.mul_le_mul_right _ hm
  refine ⟨by rw [List.length_take, h.1]; omega, ?_⟩
  rcases h.2 with ⟨e1, h0⟩ | ⟨g, cap', cur, e1, hg, hgb, hnc, hcm, hcs, ht⟩
  · injection e1 with e1 e2 e3
    subst e1 e3
    exact .inl ⟨by rw [show m = 0 by omega], by omega⟩
  · injection e1 with e1 e2 e3
    subst e1 e3
    exact .inr ⟨g, cap, cur, rfl, hg, hgb, by omega, hcm, hcs, by rw [← ht, List.take_take, Nat.min_eq_left hl]⟩
theorem owns_cap {W : World} {lo n cap size : Nat} {e : TypeId} {A : Option Addr} {xs : List Value} (h : W.ownsRow lo e size (.slice A n cap) n xs) : n ≤ cap := by
  rcases h.2 with ⟨e1, h0⟩ | ⟨g, cap', cur, e1, hg, hgb, hnc, hcm, hcs, ht⟩
  · injection e1 with e1 e2 e3; omega
  · injection e1 with e1 e2 e3; omega
/-! ### rows of elements of a fixed number of cells -/
section
variable {α : Type} {enc : α → List Value} {s : Nat}
def rvals (enc : α → List Value) (l : List α) : List Value := l.flatMap enc
theorem rvals_append (a b : List α) : rvals enc (a ++ b) = rvals enc a ++ rvals enc b := by simp [rvals]
theorem rvals_len (hs : ∀ x, (enc x).length = s) : ∀ l : List α, (rvals enc l).length = l.length * s
  | [] => by simp [rvals]
  | a :: t => by
    have := rvals_len hs t
    unfold rvals at this ⊢
    rw [List.flatMap_cons, List.length_append, this, hs, List.length_cons, Nat.add_mul]; omega
theorem rvals_take (hs : ∀ x, (enc x).length = s) : ∀ (l : List α) (k : Nat), rvals enc (l.take k) = (rvals enc l).take (k * s)
  | l, 0 => by simp [rvals]
  | [], k + 1 => by simp [rvals]
  | a :: t, k + 1 => by
    have := rvals_take hs t k
    unfold rvals at this ⊢
    have e : (k + 1) * s = (enc a).length + k * s := by rw [hs, Nat.add_mul, Nat.one_mul]; omega
    rw [List.take_succ_cons, List.flatMap_cons, List.flatMap_cons, this, e, List.take_length_add_append]
theorem rvals_drop (hs : ∀ x, (enc x).length = s) : ∀ (l : List α) (k : Nat), rvals enc (l.drop k) = (rvals enc l).drop (k * s)
  | l, 0 => by simp [rvals]
  | [], k + 1 => by simp [rvals]
  | a :: t, k + 1 => by
    have := rvals_drop hs t k
    unfold rvals at this ⊢
    have e : (k + 1) * s = (enc a).length + k * s := by rw [hs, Nat.add_mul, Nat.one_mul]; omega
    rw [List.drop_succ_cons, List.flatMap_cons, this, e, List.drop_length_add_append]
theorem rvals_get (hs : ∀ x, (enc x).length = s) {l : List α} {i j : Nat} {x : α} (h : l[i]? = some x) (hj : j < s) : (rvals enc l)[i * s + j]? = (enc x)[j]? := by
  have hd := rvals_drop hs l i
  have hc : l.drop i = x :: l.drop (i + 1) := by
    obtain ⟨hi, rfl⟩ := List.getElem?_eq_some_iff.1 h
    exact List.drop_eq_getElem_cons hi
  rw [hc] at hd
  have : (rvals enc l)[i * s + j]? = ((rvals enc l).drop (i * s))[j]? := by rw [List.getElem?_drop]
  rw [this, ← hd]
  unfold rvals
  rw [List.flatMap_cons, List.getElem?_append_left (by rw [hs]; exact hj)]
theorem rvals_one (h1 : ∀ x, ∀ v ∈ enc x, v.oneCell' = true) (l : List α) : ∀ u ∈ rvals enc l, u.oneCell' = true := by
  intro u hu
  unfold rvals at hu
  obtain ⟨x, _, hx⟩ := List.mem_flatMap.1 hu
  exact h1 x u hx
theorem rvals_set (hs : ∀ x, (enc x).length = s) {l : List α} {i : Nat} (hi : i < l.length) (y : α) : rvals enc (l.set i y) = (rvals enc l).take (i * s) ++ enc y ++ (rvals enc l).drop ((i + 1) * s) := by
  rw [List.set_eq_take_append_cons_drop, if_pos hi, rvals_append, rvals_take hs]
  have : rvals enc (y :: l.drop (i + 1)) = enc y ++ rvals enc (l.drop (i + 1)) := by simp [rvals]
  rw [this, rvals_drop hs, List.append_assoc]
end
section
variable {P : Program}
theorem run_copy_rowK (w : World) (dT sT ty elem : TypeId) (k g o dLen dCap : Nat) (a : Addr) (sLen sCap : Nat) (cur : Array Value) (t : TypeId) (cs : List Value) (m : Nat)
    (hu : P.underlying dT = some (.slice elem)) (hs : (P.info? elem).map (·.size) = some k)
    (hg : w.heap[g]? = some (.cells cur t (0, 0))) (hm : m = Nat.min sLen dLen) (hn : cs.length = m * k)
    (hsrc : ∀ j v, cs[j]? = some v → w.cell? (a.add j) = some v) (hfit : o + cs.length ≤ cur.size) (h1 : ∀ v ∈ cs, v.oneCell' = true) :
    (Builtin.copy_ #[dT, sT] ty #[.slice (some ⟨g, o, none⟩) dLen dCap, .slice (some a) sLen sCap]).run P w =
      .ok (goInt m) (w.setRow g (cur.toList.take o ++ cs ++ cur.toList.drop (o + cs.length)).toArray) := by
  have hl := run_loadCells_list (P := P) w a cs hsrc
  have hst := run_storeCells_at P g o t cs 0 cur w hg (by simpa using hfit) h1
  cases hq : P.info? elem with
  | none => simp [hq] at hs
  | some i =>
    have hi : i.size = k := by simpa [hq] using hs
    simp [Builtin.copy_, run_underlying hu, Builtin.lenOf, Builtin.firstCells, sizeOf, typeInfo, hq, hi, ← hm, ← hn, hl, hst]
theorem run_clear_rowK (w : World) (t e ty : TypeId) (z : Value) (ht : P.underlying t = some (.slice e)) (hv : ∀ w, (zeroValue e).run P w = .ok z w) (h1 : ∀ v ∈ z.cells, v.oneCell' = true) (g o c : Nat) (cur : Array Value) (t' : TypeId)
    (hg : w.heap[g]? = some (.cells cur t' (0, 0))) (hfit : o + z.cells.size ≤ cur.size) :
    (Builtin.clear_ #[t] ty #[.slice (some ⟨g, o, none⟩) 1 c]).run P w = .ok (.tuple #[]) (w.setRow g (cur.toList.take o ++ z.cells.toList ++ cur.toList.drop (o + z.cells.size)).toArray) := by
  have hzc : (Builtin.zeroCells z.cells 1).toList = z.cells.toList := by
    simp [Builtin.zeroCells]
    apply List.ext_getElem
    · simp
    · intro i h1 h2
      simp at h1
      simp [Nat.mod_eq_of_lt h1, h1]
  have hst := run_storeCells_at P g o t' z.cells.toList 0 cur w hg (by simpa using hfit) (by simpa using h1)
  simp only [Nat.add_zero, Array.length_toList] at hst
  simp [Builtin.clear_, run_underlying ht, hv, hzc, hst]
end
theorem grown_setRow {w : World} {g : Nat} (cs : Array Value) : w.grownBy (w.setRow g cs) (some g) := ⟨rfl, rfl, rfl, by simp, fun k _ hk => setRow_other w g k _ (fun e => hk (by simp [e]))⟩
end Go.Proofs.Ytifenpmkbnohhaa
namespace Go.Proofs.Ytifenpmkbnohhaa
open Go.RowKit
open Go.Proofs.StackM
set_option linter.unusedVariables false
def penc (p : Pg) : List Value := [.int .u64 p.key, .int .i64 p.kind, .bool p.test, .bool p.mark]
theorem penc_len (x : Pg) : (penc x).length = 4 := rfl
theorem pvals_take (l : List Pg) (k : Nat) : pvals (l.take k) = (pvals l).take (k * 4) := rvals_take (enc := penc) penc_len l k
theorem pvals_drop (l : List Pg) (k : Nat) : pvals (l.drop k) = (pvals l).drop (k * 4) := rvals_drop (enc := penc) penc_len l k
theorem pvals_setK (l : List Pg) (i : Nat) (hi : i < l.length) (y : Pg) : pvals (l.set i y) = (pvals l).take (i * 4) ++ penc y ++ (pvals l).drop ((i + 1) * 4) := rvals_set (enc := penc) penc_len hi y
theorem penc_one : ∀ x, ∀ v ∈ penc x, v.oneCell' = true := fun x v hv => by simp [penc] at hv; rcases hv with rfl | rfl | rfl | rfl <;> rfl
theorem size59 : (Try.prog.info? 59).map (·.size) = some 4 := by kernel_rfl
theorem zero59 (w : World) : (zeroValue 59).run Try.prog w = .ok (.agg #[.int .u64 0, .int .i64 0, .bool false, .bool false]) w := by
  obtain ⟨i, h1, h2, _⟩ := info_parts infoP
  simp [zeroValue, typeInfo, h1, h2]
def GRw (w : World) (lo : Nat) (v : Value) (l : List Pg) : Prop := w.ownsRow lo 59 4 v l.length (pvals l)
section
variable {w : World} {lo g q n c i : Nat} {l : List Pg} {x : Pg}
def ins (l : List Pg) (i : Nat) (x : Pg) : List Pg := l.take i ++ x :: l.drop i
theorem ins_len (hi : i ≤ l.length) : (ins l i x).length = l.length + 1 := by
  unfold ins
  rw [List.length_append, List.length_cons, List.length_take, List.length_drop]; omega
theorem pvals_ins : pvals (ins l i x) = pvals (l.take i) ++ penc x ++ pvals (l.drop i) := by
  unfold ins
  rw [pvals_app, List.append_assoc]
  rfl
theorem cells_x (hq : w.heap[q]? = some (.cells #[.int .u64 x.key, .int .i64 x.kind, .bool x.test, .bool x.mark] 59 (0, 0))) : ∀ j v, (penc x)[j]? = some v → w.cell? ((⟨q, 0, none⟩ : Addr).add j) = some v := fun j v hv => by
  have hj : j < 4 := (List.getElem?_eq_some_iff.1 hv).1
  have hc := fun o => cell_of_head hq o
  obtain rfl | rfl | rfl | rfl : j = 0 ∨ j = 1 ∨ j = 2 ∨ j = 3 := by omega
  · simp [penc] at hv; subst hv; exact hc 0
  · simp [penc] at hv; subst hv; exact hc 1
  · simp [penc] at hv; subst hv; exact hc 2
  · simp [penc] at hv; subst hv; exact hc 3
/-- room: the rest goes up, then the new one goes in -/
theorem ins_room (h : GRw w lo (.slice (some ⟨g, 0, none⟩) l.length c) l) (hn : l.length = n) (hi : i < n) (hc : n + 1 ≤ c) (hq : w.heap[q]? = some (.cells #[.int .u64 x.key, .int .i64 x.kind, .bool x.test, .bool x.mark] 59 (0, 0))) (hgq : q ≠ g) (ty : TypeId) :
    ∃ w1 w2, (∀ a b, (Builtin.copy_ #[25, 25] ty #[.slice (some ⟨g, (i + 1) * 4, none⟩) (n - i) a, .slice (some ⟨g, i * 4, none⟩) (n + 1 - i) b]).run Try.prog w = .ok (goInt ((n - i : Nat) : Int)) w1) ∧
      (∀ a, (Builtin.copy_ #[25, 25] ty #[.slice (some ⟨g, i * 4, none⟩) (n + 1 - i) a, .slice (some ⟨q, 0, none⟩) 1 1]).run Try.prog w1 = .ok (goInt 1) w2) ∧
      w2.ownsRow lo 59 4 (.slice (some ⟨g, 0, none⟩) (n + 1) c) (n + 1) (pvals (ins l i x)) ∧ w.grownBy w1 (some g) ∧ w1.grownBy w2 (some g) := by
  have h' := h
  rcases h'.2 with ⟨e, _⟩ | ⟨g', cap', cur, e, hbg, hgb, hnc, hcm, hcs, ht⟩
  · simp at e
  · simp only [Value.slice.injEq, Option.some.injEq, Addr.mk.injEq, and_true, true_and] at e
    obtain ⟨rfl, rfl⟩ := e
    have hlen : (pvals (l.drop i)).length = (n - i) * 4 := by rw [pvals_len, List.length_drop, hn]
    have hr1 := fun a b => run_copy_rowK (P := Try.prog) w 25 25 ty 59 4 g ((i + 1) * 4) (n - i) a ⟨g, i * 4, none⟩ (n + 1 - i) b cur 59 (pvals (l.drop i)) (n - i) Try.underlying25 size59 hgb (by show _ = min _ _; omega) hlen
      (fun j u hu => by
        have hj : j < (pvals (l.drop i)).length := (List.getElem?_eq_some_iff.1 hu).1
        rw [hlen] at hj
        rw [pvals_drop, List.getElem?_drop] at hu
        have hc := h.cellAt (i * 4 + j) (by rw [hn]; omega)
        rw [← hu, ← hc]
        congr 1
        by_cases h1 : j = 0
        · subst h1; simp [Addr.add]
        · simp [Addr.add, h1]) (by rw [hlen, hcs]; omega) (pvals_one _)
    have hg1 := setRow_heap w g cur (cur.toList.take ((i + 1) * 4) ++ pvals (l.drop i) ++ cur.toList.drop ((i + 1) * 4 + (pvals (l.drop i)).length)).toArray 59 _ hgb
    have hs1 : (cur.toList.take ((i + 1) * 4) ++ pvals (l.drop i) ++ cur.toList.drop ((i + 1) * 4 + (pvals (l.drop i)).length)).length = c * 4 := by
      simp only [List.length_append, List.length_take, List.length_drop, Array.length_toList, hlen]
      rw [hcs]; omega
    have hq1 : (w.setRow g (cur.toList.take ((i + 1) * 4) ++ pvals (l.drop i) ++ cur.toList.drop ((i + 1) * 4 + (pvals (l.drop i)).length)).toArray).heap[q]? = some (.cells #[.int .u64 x.key, .int .i64 x.kind, .bool x.test, .bool x.mark] 59 (0, 0)) := (setRow_other w g q _ hgq).trans hq
    have hr2 := fun a => run_copy_rowK (P := Try.prog) _ 25 25 ty 59 4 g (i * 4) (n + 1 - i) a ⟨q, 0, none⟩ 1 1 _ 59 (penc x) 1 Try.underlying25 size59 hg1 (by show _ = min _ _; omega) rfl (cells_x hq1) (by rw [List.size_toArray, hs1]; show i * 4 + 4 ≤ c * 4; omega) (penc_one x)
    refine ⟨_, _, hr1, hr2, ⟨?_, .inr ⟨g, c, _, rfl, hbg, setRow_heap _ g _ _ 59 _ hg1, hc, hcm, ?_, ?_⟩⟩, grown_setRow _, grown_setRow _⟩
    · rw [pvals_len, ins_len (by omega), hn]
    · simp only [List.size_toArray, List.length_append, List.length_take, List.length_drop]
      simp only [List.length_append, List.length_take, List.length_drop] at hs1
      rw [hs1]
      show min (i * 4) (c * 4) + 4 + (c * 4 - (i * 4 + 4)) = c * 4
      omega
    · have hT : (cur.toList.take ((i + 1) * 4)).length = (i + 1) * 4 := by rw [List.length_take, Array.length_toList, hcs]; omega
      have e1 : (cur.toList.take ((i + 1) * 4) ++ pvals (l.drop i) ++ cur.toList.drop ((i + 1) * 4 + (pvals (l.drop i)).length)).take (i * 4) = pvals (l.take i) := by
        rw [List.append_assoc, List.take_append_of_le_length (by rw [hT]; omega), List.take_take, Nat.min_eq_left (by omega), pvals_take, ← ht, List.take_take, Nat.min_eq_left (by rw [hn]; omega)]
      have e2 : (cur.toList.take ((i + 1) * 4) ++ pvals (l.drop i) ++ cur.toList.drop ((i + 1) * 4 + (pvals (l.drop i)).length)).drop (i * 4 + 4) = pvals (l.drop i) ++ cur.toList.drop ((i + 1) * 4 + (pvals (l.drop i)).length) := by
        rw [List.append_assoc, show i * 4 + 4 = (cur.toList.take ((i + 1) * 4)).length by rw [hT]; omega, List.drop_left]
      show (((cur.toList.take ((i + 1) * 4) ++ pvals (l.drop i) ++ cur.toList.drop ((i + 1) * 4 + (pvals (l.drop i)).length)).take (i * 4) ++ penc x ++ (cur.toList.take ((i + 1) * 4) ++ pvals (l.drop i) ++ cur.toList.drop ((i + 1) * 4 + (pvals (l.drop i)).length)).drop (i * 4 + 4)).take ((n + 1) * 4)) = _
      rw [e1, e2, pvals_ins, ← List.append_assoc]
      have hl : (pvals (l.take i) ++ penc x ++ pvals (l.drop i)).length = (n + 1) * 4 := by
        rw [← pvals_ins, pvals_len, ins_len (by omega), hn]
      rw [List.take_append_of_le_length (by rw [hl]; exact Nat.le_refl _), List.take_of_length_le (by rw [hl]; exact Nat.le_refl _)]
/-- no room: a new row, the new one goes in -/
theorem ins_grow1 (h : GRw w lo (.slice (some ⟨g, 0, none⟩) l.length c) l) (hn : l.length = n) (hi : i < n) (hc : c < n + 1) (h6 : n ≤ 1000000) (hq : w.heap[q]? = some (.cells #[.int .u64 x.key, .int .i64 x.kind, .bool x.test, .bool x.mark] 59 (0, 0))) (ty ty2 : TypeId) :
    ∃ cap' w0 w1 cur1, (∀ k : Int, k = ((n + 1 - i : Nat) : Int) → (Builtin.append_ #[25, 3] ty #[.slice (some ⟨g, 0, none⟩) i c, .int .i64 k]).run Try.prog w = .ok (.slice (some ⟨w.heap.size, 0, none⟩) (n + 1) cap') w0) ∧ n + 1 ≤ cap' ∧ cap' ≤ maxLen ∧
      (∀ a, (Builtin.copy_ #[25, 25] ty2 #[.slice (some ⟨w.heap.size, i * 4, none⟩) (n + 1 - i) a, .slice (some ⟨q, 0, none⟩) 1 1]).run Try.prog w0 = .ok (goInt 1) w1) ∧
      w1.heap[w.heap.size]? = some (.cells cur1 59 (0, 0)) ∧ cur1.size = cap' * 4 ∧ cur1.toList.take ((i + 1) * 4) = pvals (l.take i) ++ penc x ∧ w.grownBy w1 none := by
  obtain ⟨i0, hi0, hz0, hz1, hz2⟩ := info_parts infoP
  have hlt : g < w.heap.size := (h.lt g rfl).2
  have hcap := owns_cap h
  have hql : q < w.heap.size := (Array.getElem?_eq_some_iff.1 hq).1
  have hold : (Builtin.firstCells i0.size i (.slice (some ⟨g, 0, none⟩) i c)).run Try.prog w.drew = .ok (pvals (l.take i)).toArray w.drew := by
    have hl : (pvals (l.take i)).length = i * 4 := by rw [pvals_len, List.length_take]; omega
    have := run_loadCells_list (P := Try.prog) w.drew ⟨g, 0, none⟩ (pvals (l.take i)) (fun j u hu => by
      have hj : j < (pvals (l.take i)).length := (List.getElem?_eq_some_iff.1 hu).1
      rw [hl] at hj
      rw [pvals_take, List.getElem?_take, if_pos hj] at hu
      have hc := h.cellAt j (by rw [hn]; omega)
      have ha : (⟨g, 0, none⟩ : Addr).add j = ⟨g, j, none⟩ := by
        by_cases h1 : j = 0
        · subst h1; rfl
        · simp [Addr.add, h1]
      rw [ha]
      exact hc.trans hu)
    simp [Builtin.firstCells, hz1, ← hl, this]
  have hr0 := Lib.run_append_grow_zeros (P := Try.prog) w 25 3 ty 59 i0 _ .i64 .i64 Try.underlying25 Try.underlying3 hi0 hz0 (some ⟨g, 0, none⟩) i c (pvals (l.take i)) hold (n + 1 - i) (by omega) (by omega) (by omega) (by omega) (by rw [hz2]; omega) (by rw [hz2]; exact growslice_fits (by omega) (by omega))
  rw [show i + (n + 1 - i) = n + 1 by omega] at hr0
  have hge : n + 1 ≤ grownCap w (n + 1) c 59 := grownCap_ge w (n + 1) c 59
  have hle : grownCap w (n + 1) c 59 ≤ maxLen := grownCap_le_maxLen w (n + 1) c 59 (by unfold maxLen; omega)
  generalize grownCap w (n + 1) c 59 = cap' at hr0 hge hle
  have hb0 := heap_alloc_new w.drew (.cells ((pvals (l.take i)).toArray ++ Builtin.zeroCells (Value.agg #[.int .u64 0, .int .i64 0, .bool false, .bool false]).cells (n + 1 - i) ++ Builtin.zeroCells (Value.agg #[.int .u64 0, .int .i64 0, .bool false, .bool false]).cells (cap' - (n + 1))) 59)
  have hq0 := Below.heap_alloc w.drew (.cells ((pvals (l.take i)).toArray ++ Builtin.zeroCells (Value.agg #[.int .u64 0, .int .i64 0, .bool false, .bool false]).cells (n + 1 - i) ++ Builtin.zeroCells (Value.agg #[.int .u64 0, .int .i64 0, .bool false, .bool false]).cells (cap' - (n + 1))) 59) q hql
  have hsz : ((pvals (l.take i)).toArray ++ Builtin.zeroCells (Value.agg #[.int .u64 0, .int .i64 0, .bool false, .bool false]).cells (n + 1 - i) ++ Builtin.zeroCells (Value.agg #[.int .u64 0, .int .i64 0, .bool false, .bool false]).cells (cap' - (n + 1))).size = cap' * 4 := by
    simp only [Array.size_append, List.size_toArray, size_zeroCells, pvals_len, List.length_take]
    show min i l.length * 4 + (n + 1 - i) * 4 + (cap' - (n + 1)) * 4 = cap' * 4
    omega
  have hr1 := fun a => run_copy_rowK (P := Try.prog) _ 25 25 ty2 59 4 w.heap.size (i * 4) (n + 1 - i) a ⟨q, 0, none⟩ 1 1 _ 59 (penc x) 1 Try.underlying25 size59 hb0 (by show _ = min _ _; omega) rfl (cells_x (hq0.trans hq)) (by rw [hsz]; show i * 4 + 4 ≤ cap' * 4; omega) (penc_one x)
  refine ⟨cap', _, _, _, fun k hk => by rw [hk]; exact hr0, hge, hle, hr1, setRow_heap _ w.heap.size _ _ 59 _ hb0, ?_, ?_, ?_⟩
  · simp only [List.size_toArray, List.length_append, List.length_take, List.length_drop, Array.length_toList]
    rw [hsz]
    show min (i * 4) (cap' * 4) + 4 + (cap' * 4 - (i * 4 + 4)) = cap' * 4
    omega
  · have hl : (pvals (l.take i)).length = i * 4 := by rw [pvals_len, List.length_take]; omega
    have e1 : ((pvals (l.take i)).toArray ++ Builtin.zeroCells (Value.agg #[.int .u64 0, .int .i64 0, .bool false, .bool false]).cells (n + 1 - i) ++ Builtin.zeroCells (Value.agg #[.int .u64 0, .int .i64 0, .bool false, .bool false]).cells (cap' - (n + 1))).toList.take (i * 4) = pvals (l.take i) := by
      rw [Array.toList_append, Array.toList_append, List.append_assoc, ← hl]
      exact List.take_left
    show (_ ++ penc x ++ _).take ((i + 1) * 4) = _
    rw [e1, List.take_append_of_le_length (by rw [List.length_append, hl]; show (i + 1) * 4 ≤ i * 4 + 4; omega), List.take_of_length_le (by rw [List.length_append, hl]; show i * 4 + 4 ≤ (i + 1) * 4; omega)]
  · exact grown_new (g := w.heap.size) (b := World.alloc w.drew _) (⟨rfl, rfl, rfl, by simp, fun k hk _ => Below.heap_alloc w.drew _ k hk⟩) (grown_setRow _) (Nat.le_refl _)
/-- then the rest -/
theorem ins_grow2 {cap' q2 : Nat} {cur1 : Array Value} (h : GRw w lo (.slice (some ⟨g, 0, none⟩) l.length c) l) (hn : l.length = n) (hi : i < n) (hc : n + 1 ≤ cap') (hm : cap' ≤ maxLen) (hb : w.heap[q2]? = some (.cells cur1 59 (0, 0))) (hs : cur1.size = cap' * 4) (ht : cur1.toList.take ((i + 1) * 4) = pvals (l.take i) ++ penc x) (hlo : lo ≤ q2) (ty : TypeId) :
    ∃ w2, (∀ a b, (Builtin.copy_ #[25, 25] ty #[.slice (some ⟨q2, (i + 1) * 4, none⟩) (n - i) a, .slice (some ⟨g, i * 4, none⟩) (n - i) b]).run Try.prog w = .ok (goInt ((n - i : Nat) : Int)) w2) ∧
      w2.ownsRow lo 59 4 (.slice (some ⟨q2, 0, none⟩) (n + 1) cap') (n + 1) (pvals (ins l i x)) ∧ w.grownBy w2 (some q2) := by
  have hlen : (pvals (l.drop i)).length = (n - i) * 4 := by rw [pvals_len, List.length_drop, hn]
  have hr1 := fun a b => run_copy_rowK (P := Try.prog) w 25 25 ty 59 4 q2 ((i + 1) * 4) (n - i) a ⟨g, i * 4, none⟩ (n - i) b cur1 59 (pvals (l.drop i)) (n - i) Try.underlying25 size59 hb (by show _ = min _ _; omega) hlen
    (fun j u hu => by
      have hj : j < (pvals (l.drop i)).length := (List.getElem?_eq_some_iff.1 hu).1
      rw [hlen] at hj
      rw [pvals_drop, List.getElem?_drop] at hu
      have hc := h.cellAt (i * 4 + j) (by rw [hn]; omega)
      rw [← hu, ← hc]
      congr 1
      by_cases h1 : j = 0
      · subst h1; simp [Addr.add]
      · simp [Addr.add, h1]) (by rw [hlen, hs]; omega) (pvals_one _)
  refine ⟨_, hr1, ⟨?_, .inr ⟨q2, cap', _, rfl, hlo, setRow_heap w q2 cur1 _ 59 _ hb, hc, hm, ?_, ?_⟩⟩, grown_setRow _⟩
  · rw [pvals_len, ins_len (by omega), hn]
  · simp only [List.size_toArray, List.length_append, List.length_take, List.length_drop, Array.length_toList, hlen]
    rw [hs]; omega
  · show (_ ++ pvals (l.drop i) ++ _).take ((n + 1) * 4) = _
    rw [ht, pvals_ins]
    have hl : (pvals (l.take i) ++ penc x ++ pvals (l.drop i)).length = (n + 1) * 4 := by
      rw [← pvals_ins, pvals_len, ins_len (by omega), hn]
    rw [List.take_append_of_le_length (by rw [hl]; exact Nat.le_refl _), List.take_of_length_le (by rw [hl]; exact Nat.le_refl _)]
end
set_option maxRecDepth 100000
theorem append_runT {P : Program} {w : World} {ops : Array Oper} {rest : List Oper} {o : Oper} {a : Act} {Q : Exit → Act → World → Prop} (hg : o.guard = none) (s x : Operand) (t t' : TypeId)
    (hop : o.op = Op.call { callee := Callee.builtin Builtin.append, args := #[s, x], argTypes := #[t, t'] }) {v u v' : Value} {w' : World} (hs : a.eval s = v) (hx : a.eval x = u)
    (hrun : (Builtin.append_ #[t, t'] o.type #[v, u]).run P w = .ok v' w') (hK : wpList P ops Q rest (a.put o.dst v') w') : wpList P ops Q (o :: rest) a w := by
  refine wpList_plain hg fun K k => ?_
  unfold Oper.wp
  simp [execOp, hop, resolve, invoke, builtin, hs, hx, hrun, Result.andThen]
  exact k _ _ hK
section
variable {w : World} {lo g q n c i : Nat} {l : List Pg} {x : Pg}
theorem overlaps_no {cur : Array Value} {A B : Array Value} {a b la ca lb cb : Nat} (hq : w.heap[q]? = some (.cells A 59 (0, 0))) (hg : w.heap[g]? = some (.cells B 59 (0, 0))) (hB : B.size ≠ 0) (hne : q ≠ g) :
    (callFunc 83 #[.slice (some ⟨q, a, none⟩) la ca, .slice (some ⟨g, b, none⟩) lb cb]).run Try.prog w = .ok (.value (.bool false)) w := by
  rw [run_callFunc_extern Try.func83 (by kernel_rfl) (by kernel_rfl) (by kernel_rfl) (e := Extern.SlicesOverlaps.overlaps #[25, 25] #[4]) (by kernel_rfl),
    Lib.run_overlaps_apart w 25 4 59 Try.underlying25 4 (fun w => by obtain ⟨i, h1, _, h3, _⟩ := info_parts infoP; simp [sizeOf, typeInfo, h1, h3]) ⟨q, a, none⟩ ⟨g, b, none⟩ la ca lb cb hne 59 59 A.size B.size (by simp [World.shape?, hq]) (by simp [World.shape?, hg]) hB (frozen_of_head hq _) (frozen_of_head hq _)]
  rfl
/-- what Insert leaves -/
def InsPost (w : World) (lo : Nat) (v : Value) (l : List Pg) (e : Ending) (w' : World) : Prop := ∃ g' c', e = .returned (.slice (some ⟨g', 0, none⟩) l.length c') ∧ GRw w' lo (.slice (some ⟨g', 0, none⟩) l.length c') l ∧ w.grownBy w' v.ownBlock ∧ (v.ownBlock = some g' ∨ w.heap.size ≤ g')
set_option maxHeartbeats 400000 in
theorem insert_end {A : Option Addr} (h : GRw w lo (.slice A l.length c) l) (hq : w.heap[q]? = some (.cells #[.int .u64 x.key, .int .i64 x.kind, .bool x.test, .bool x.mark] 59 (0, 0))) (hn : l.length ≤ 1000000) (hlo : lo ≤ w.heap.size) :
    Calls Try.prog 61 #[.slice A l.length c, .int .i64 (l.length : Int), .slice (some ⟨q, 0, none⟩) 1 1] w (InsPost w lo (.slice A l.length c) (l ++ [x])) := by
  obtain ⟨i0, hi0, hz0, hz1, hz2⟩ := info_parts infoP
  obtain ⟨g', cap', w', hrun, ho, hg, hft⟩ := run_append_foot (P := Try.prog) w lo 25 25 59 i0 _ 4 24 Try.underlying25 hi0 hz0 hz1 hz2 rfl (by decide) (.slice A l.length c) l.length (pvals l) h ⟨q, 0, none⟩ 1 (penc x) rfl (cells_x hq) (penc_one x) (by unfold maxLen; omega) (by omega) hlo
  have HRun := Lib.hid hrun
  have HO : Hid (InsPost w lo (.slice A l.length c) (l ++ [x]) (.returned (.slice (some ⟨g', 0, none⟩) (l.length + 1) cap')) w') := Lib.hid ⟨g', cap', by simp, by
    unfold GRw
    rw [pvals_app, show pvals [x] = penc x from List.append_nil _]
    simpa using ho, hg, hft⟩
  have hcap := owns_cap h
  obtain ⟨n, HN⟩ : ∃ n, Hid (l.length = n) := ⟨_, Lib.hid rfl⟩
  rw [HN.out] at HRun HO hcap hn ⊢
  have HA : Hid (A = none → n = 0 ∧ c = 0) := Lib.hid fun hA => by
    subst hA
    rcases h.2 with ⟨e, h0⟩ | ⟨_, _, _, e, _⟩
    · injection e with _ _ e; exact ⟨by rw [← HN.out]; exact h0, e⟩
    · simp at e
  have HA2 : Hid (∀ a, A = some a → ∃ g, a = ⟨g, 0, none⟩) := Lib.hid fun a hA => by
    subst hA
    rcases h.2 with ⟨e, h0⟩ | ⟨g, _, _, e, _⟩
    · simp at e
    · injection e with e; injection e with e; exact ⟨g, e⟩
  clear h hrun ho hg hft hi0 hz0 hz1 hz2
  have k1 : (0 : Int) ≤ (n : Int) := by omega
  cases A with
  | none =>
    obtain ⟨rfl, rfl⟩ := HA.out rfl
    go_enter Try.func61, Try.ntmps61
    go_wp2_with (at_builtin; refine append_run rfl (.tmp 23) (.tmp 24) 25 rfl rfl rfl HRun.out ?_)
    go_ret
    exact HO.out
  | some a =>
    obtain ⟨g, rfl⟩ := HA2.out a rfl
    by_cases hc : c = n
    · subst hc
      go_enter Try.func61, Try.ntmps61
      go_wp2_with (at_builtin; refine append_run rfl (.tmp 23) (.tmp 24) 25 rfl rfl rfl HRun.out ?_)
      go_ret
      exact HO.out
    · have k2 : (n : Int) ≤ (c : Int) := by omega
      have k3 : ¬ (c : Int) = (n : Int) := by omega
      go_enter Try.func61, Try.ntmps61
      go_wp2_with (at_builtin; refine append_run rfl (.tmp 23) (.tmp 24) 25 rfl rfl rfl HRun.out ?_)
      go_ret
      exact HO.out
set_option maxHeartbeats 400000 in
theorem insert_room (h : GRw w lo (.slice (some ⟨g, 0, none⟩) l.length c) l) (hq : w.heap[q]? = some (.cells #[.int .u64 x.key, .int .i64 x.kind, .bool x.test, .bool x.mark] 59 (0, 0))) (hgq : q ≠ g) (hn : l.length ≤ 1000000) (hi : i < l.length) (hc : l.length + 1 ≤ c) :
    Calls Try.prog 61 #[.slice (some ⟨g, 0, none⟩) l.length c, .int .i64 (i : Int), .slice (some ⟨q, 0, none⟩) 1 1] w (InsPost w lo (.slice (some ⟨g, 0, none⟩) l.length c) (ins l i x)) := by
  obtain ⟨n, HN⟩ : ∃ n, Hid (l.length = n) := ⟨_, Lib.hid rfl⟩
  have hov : ∀ b la ca lb cb, (callFunc 83 #[.slice (some ⟨q, 0, none⟩) la ca, .slice (some ⟨g, b, none⟩) lb cb]).run Try.prog w = .ok (.value (.bool false)) w := fun b la ca lb cb => by
    rcases h.2 with ⟨e, _⟩ | ⟨g', cap', cur, e, hbg, hgb, hnc, hcm, hcs, ht⟩
    · simp at e
    · simp only [Value.slice.injEq, Option.some.injEq, Addr.mk.injEq, and_true, true_and] at e
      obtain ⟨rfl, rfl⟩ := e
      exact overlaps_no (cur := cur) hq hgb (by rw [hcs]; omega) hgq
  have HM : Hid (∀ w4, w.grownBy w4 none → _) := Lib.hid fun w4 (hg4 : w.grownBy w4 none) => ins_room (x := x) (q := q) (owns_stay h fun k hk => hg4.block k (h.lt k hk).2 (by simp)) HN.out (by rw [← HN.out]; exact hi) (by rw [← HN.out]; exact hc) (kept2 hq hg4) hgq 3
  have HLn := Lib.hid (ins_len (x := x) (Nat.le_of_lt hi))
  rw [HN.out] at hn hi hc HLn ⊢
  clear h hq
  have k1 : (0 : Int) ≤ (i : Int) := by omega
  have k2 : (i : Int) ≤ (n : Int) := by omega
  have k3 : (i : Int) ≤ (c : Int) := by omega
  have k4 : ¬ (c : Int) = (i : Int) := by omega
  have k5 : ¬ (i : Int) = (n : Int) := by omega
  have k6 : ¬ (c : Int) < (n : Int) + 1 := by omega
  have k7 : (n : Int) + 1 ≤ (c : Int) := by omega
  have k8 : (0 : Int) ≤ (i : Int) + 1 := by omega
  have k9 : (i : Int) + 1 ≤ (n : Int) + 1 := by omega
  have k10 : (i : Int) + 1 ≤ (c : Int) := by omega
  have k11 : ¬ (c : Int) = (i : Int) + 1 := by omega
  have k12 : (i : Int) ≤ (n : Int) + 1 := by omega
  have k13 : (0 : Int) ≤ (n : Int) + 1 := by omega
  go_enter Try.func61, Try.ntmps61
  go_wp2_with fail
  refine region_tail 8 (by kernel_rfl) (by kernel_rfl) ?_
  intro w4 hw4
  have HG4 : Hid (w.grownBy w4 none) := Lib.hid (by rw [hw4]; exact grown_drewN w 1 none)
  have e3 : IntKind.i64.wrap ((i : Int) + 1) = (i : Int) + 1 := by rw [IntKind.wrap_i64]; omega
  obtain ⟨w5, w6, hr5, hr6, ho6, hg5, hg6⟩ := HM.out w4 HG4.out
  have HO6 : Hid (InsPost w lo (.slice (some ⟨g, 0, none⟩) n c) (ins l i x) (.returned (.slice (some ⟨g, 0, none⟩) (n + 1) c)) w6) := Lib.hid (by
    refine ⟨g, c, by rw [HLn.out], ?_, grown_trans (grown_trans (grown_any HG4.out _) hg5) hg6, .inl rfl⟩
    unfold GRw
    rw [HLn.out]
    exact ho6)
  clear hw4 ho6 hg5 hg6 HG4 HM HLn hov
  simp only [List.take_succ_cons, List.take_zero, List.drop_succ_cons, List.drop_zero]
  repeat still_step
  refine wpStill_nil ?_
  go_wp2_with fail
  go_ret
  exact HO6.out
set_option maxHeartbeats 400000 in
theorem insert_grow (h : GRw w lo (.slice (some ⟨g, 0, none⟩) l.length c) l) (hq : w.heap[q]? = some (.cells #[.int .u64 x.key, .int .i64 x.kind, .bool x.test, .bool x.mark] 59 (0, 0))) (hn : l.length ≤ 1000000) (hi : i < l.length) (hc : c < l.length + 1) (hlo : lo ≤ w.heap.size) :
    Calls Try.prog 61 #[.slice (some ⟨g, 0, none⟩) l.length c, .int .i64 (i : Int), .slice (some ⟨q, 0, none⟩) 1 1] w (InsPost w lo (.slice (some ⟨g, 0, none⟩) l.length c) (ins l i x)) := by
  obtain ⟨n, HN⟩ : ∃ n, Hid (l.length = n) := ⟨_, Lib.hid rfl⟩
  have hcap := owns_cap h
  have HM := ins_grow1 (x := x) (i := i) h HN.out (by rw [← HN.out]; exact hi) (by rw [← HN.out]; exact hc) (by rw [← HN.out]; exact hn) hq 25 3
  obtain ⟨cap', w0, w1, cur1, hr0, hge, hle, hr1, hb1, hs1, ht1, hg1⟩ := HM
  have HM2 : Hid (∀ w4, w1.grownBy w4 none → _) := Lib.hid fun w4 (hg4 : w1.grownBy w4 none) => ins_grow2 (x := x) (i := i) (owns_stay h fun k hk => (grown_trans hg1 hg4).block k (h.lt k hk).2 (by simp)) HN.out (by rw [← HN.out]; exact hi) hge hle (kept2 hb1 hg4) hs1 ht1 hlo 3
  have HLn := Lib.hid (ins_len (x := x) (Nat.le_of_lt hi))
  rw [HN.out] at hn hi hc HLn hcap ⊢
  have HG1 := Lib.hid hg1
  have HR0 := Lib.hid hr0
  obtain rfl : c = n := by omega
  clear h hq hb1 hs1 ht1 hg1 hr0 hcap hc hle
  have k1 : (0 : Int) ≤ (i : Int) := by omega
  have k2 : (i : Int) ≤ (c : Int) := by omega
  have k4 : ¬ (c : Int) = (i : Int) := by omega
  have k5 : ¬ (i : Int) = (c : Int) := by omega
  have k6 : (c : Int) < (c : Int) + 1 := by omega
  have k8 : (0 : Int) ≤ (i : Int) + 1 := by omega
  have k9 : (i : Int) + 1 ≤ (c : Int) + 1 := by omega
  have k10 : (i : Int) + 1 ≤ (cap' : Int) := by omega
  have k11 : ¬ (cap' : Int) = (i : Int) + 1 := by omega
  have k12 : (i : Int) ≤ (c : Int) + 1 := by omega
  have k13 : (i : Int) ≤ (cap' : Int) := by omega
  have k14 : ¬ (cap' : Int) = (i : Int) := by omega
  go_enter Try.func61, Try.ntmps61
  go_wp2_with (at_builtin; refine append_runT rfl (.tmp 34) (.tmp 39) 25 3 rfl rfl rfl (HR0.out _ (by omega)) ?_)
  refine region_tail 8 (by kernel_rfl) (by kernel_rfl) ?_
  intro w4 hw4
  have HG4 : Hid (w1.grownBy w4 none) := Lib.hid (by rw [hw4]; exact grown_drewN w1 1 none)
  have e3 : IntKind.i64.wrap ((i : Int) + 1) = (i : Int) + 1 := by rw [IntKind.wrap_i64]; omega
  obtain ⟨w6, hr6, ho6, hg6⟩ := HM2.out w4 HG4.out
  have HO6 : Hid (InsPost w lo (.slice (some ⟨g, 0, none⟩) c c) (ins l i x) (.returned (.slice (some ⟨w.heap.size, 0, none⟩) (c + 1) cap')) w6) := Lib.hid (by
    refine ⟨w.heap.size, cap', by rw [HLn.out], ?_, grown_any (grown_new (grown_trans HG1.out HG4.out) hg6 (Nat.le_refl _)) _, .inr (Nat.le_refl _)⟩
    unfold GRw
    rw [HLn.out]
    exact ho6)
  clear hw4 ho6 hg6 HG4 HM2 HLn HR0 hr1
  simp only [List.take_succ_cons, List.take_zero, List.drop_succ_cons, List.drop_zero]
  repeat still_step
  refine wpStill_nil ?_
  go_wp2_with fail
  go_ret
  exact HO6.out
/-- a gap is put in at a place -/
theorem insert_at {A : Option Addr} (h : GRw w lo (.slice A l.length c) l) (hq : w.heap[q]? = some (.cells #[.int .u64 x.key, .int .i64 x.kind, .bool x.test, .bool x.mark] 59 (0, 0))) (hgq : A = none ∨ ∃ a, A = some a ∧ q ≠ a.block) (hn : l.length ≤ 1000000) (hi : i ≤ l.length) (hlo : lo ≤ w.heap.size) :
    Calls Try.prog 61 #[.slice A l.length c, .int .i64 (i : Int), .slice (some ⟨q, 0, none⟩) 1 1] w (InsPost w lo (.slice A l.length c) (ins l i x)) := by
  by_cases hil : i = l.length
  · subst hil
    have e : ins l l.length x = l ++ [x] := by unfold ins; rw [List.take_length, List.drop_length]
    rw [e]
    exact insert_end h hq hn hlo
  · obtain ⟨g, cap', e⟩ := owns_some h (by omega)
    injection e with e1 _ _
    subst e1
    have hgq' : q ≠ g := by
      rcases hgq with e | ⟨a, e, h'⟩
      · cases e
      · injection e with e; subst e; exact h'
    by_cases hc : l.length + 1 ≤ c
    · exact insert_room h hq hgq' hn (by omega) hc
    · exact insert_grow h hq hn (by omega) (by omega) hlo
end
end Go.Proofs.Ytifenpmkbnohhaa
namespace Go.Proofs.Ytifenpmkbnohhaa
open Go.RowKit
open Go.Proofs.StackM
set_option linter.unusedVariables false
set_option maxRecDepth 100000
theorem uvals_take (l : List Int) (k : Nat) : uvals (l.take k) = (uvals l).take (k * 1) := by simp [uvals, List.map_take]
theorem uvals_drop (l : List Int) (k : Nat) : uvals (l.drop k) = (uvals l).drop (k * 1) := by simp [uvals, List.map_drop]
theorem zero27 (w : World) : (zeroValue 27).run Try.prog w = .ok (.int .u64 0) w := by
  obtain ⟨i, h1, h2, _⟩ := info_parts infoU
  simp [zeroValue, typeInfo, h1, h2]
def GRu (w : World) (lo : Nat) (v : Value) (l : List Int) : Prop := w.ownsRow lo 27 1 v l.length (uvals l)
section
variable {w : World} {lo g n c : Nat} {l : List Int}
theorem clear_end {xs : List Value} (h : w.ownsRow lo 27 1 (.slice (some ⟨g, 0, none⟩) n c) n xs) (hc : n < c) (ty : TypeId) :
    ∃ w', (∀ cc, (Builtin.clear_ #[26] ty #[.slice (some ⟨g, n * 1, none⟩) 1 cc]).run Try.prog w = .ok (.tuple #[]) w') ∧ w'.ownsRow lo 27 1 (.slice (some ⟨g, 0, none⟩) n c) n xs ∧ w.grownBy w' (some g) := by
  rcases h.2 with ⟨e, _⟩ | ⟨g', cap', cur, e, hbg, hgb, hnc, hcm, hcs, ht⟩
  · simp at e
  · simp only [Value.slice.injEq, Option.some.injEq, Addr.mk.injEq, and_true, true_and] at e
    obtain ⟨rfl, rfl⟩ := e
    have hz : (Value.int .u64 0).cells = #[.int .u64 0] := rfl
    have hr := fun cc => run_clear_rowK (P := Try.prog) w 26 27 ty _ Try.underlying26 zero27 (by rw [hz]; intro v hv; simp at hv; subst hv; rfl) g (n * 1) cc cur 27 hgb (by rw [hz, hcs]; simp; omega)
    refine ⟨_, hr, ⟨h.1, .inr ⟨g, c, _, rfl, hbg, setRow_heap w g cur _ 27 _ hgb, hnc, hcm, ?_, ?_⟩⟩, grown_setRow _⟩
    · rw [hz]
      simp only [List.size_toArray, List.length_append, List.length_take, List.length_drop, Array.length_toList]
      simp
      omega
    · rw [List.append_assoc, List.take_append_of_le_length (by rw [List.length_take, Array.length_toList]; omega), List.take_take, Nat.min_self, ht]
theorem append_del (h : GRu w lo (.slice (some ⟨g, 0, none⟩) l.length c) l) {i m : Nat} (hi : i + 1 + m = l.length) (a : Addr) (ha : 0 < m → a = ⟨g, (i + 1) * 1, none⟩) (cc : Nat) (ty : TypeId) :
    ∃ w', (Builtin.append_ #[26, 26] ty #[.slice (some ⟨g, 0, none⟩) i c, .slice (some a) m cc]).run Try.prog w = .ok (.slice (some ⟨g, 0, none⟩) (i + m) c) w' ∧ w'.ownsRow lo 27 1 (.slice (some ⟨g, 0, none⟩) (i + m) c) (i + m) (uvals (l.eraseIdx i)) ∧ w.grownBy w' (some g) := by
  obtain ⟨i0, hi0, hz0, hz1, hz2⟩ := info_parts infoU
  have hcap := owns_cap h
  have hrow := owns_cut h (show i ≤ l.length by omega)
  rw [← uvals_take] at hrow
  obtain ⟨w', hr, ho, hg⟩ := run_append_fits (P := Try.prog) w lo 26 ty 27 i0 1 Try.underlying26 hi0 hz1 g i c _ hrow a m cc (uvals (l.drop (i + 1))) (by rw [uvals_len, List.length_drop]; omega)
    (fun j u hu => by
      have hj : j < (uvals (l.drop (i + 1))).length := (List.getElem?_eq_some_iff.1 hu).1
      rw [uvals_len, List.length_drop] at hj
      rw [ha (by omega)]
      rw [uvals_drop, List.getElem?_drop] at hu
      have hc := h.cellAt ((i + 1) * 1 + j) (by omega)
      rw [← hu, ← hc]
      congr 1
      by_cases h1 : j = 0
      · subst h1; simp [Addr.add]
      · simp [Addr.add, h1]) (uvals_one _) (by omega)
  refine ⟨w', hr, ?_, hg⟩
  rw [List.eraseIdx_eq_take_drop_succ, uvals_app]
  exact ho
def DelPost (w : World) (lo g n c : Nat) (l : List Int) (e : Ending) (w' : World) : Prop := e = .returned (.slice (some ⟨g, 0, none⟩) n c) ∧ GRu w' lo (.slice (some ⟨g, 0, none⟩) n c) l ∧ w.grownBy w' (some g)
set_option maxHeartbeats 400000 in
theorem delete_at (h : GRu w lo (.slice (some ⟨g, 0, none⟩) l.length c) l) (i : Nat) (hi : i < l.length) (hn : l.length ≤ 1000000) :
    Calls Try.prog 66 #[.slice (some ⟨g, 0, none⟩) l.length c, .int .i64 (i : Int), .int .i64 ((i : Int) + 1)] w (DelPost w lo g (l.length - 1) c (l.eraseIdx i)) := by
  obtain ⟨m, hm⟩ : ∃ m, i + 1 + m = l.length := ⟨l.length - (i + 1), by omega⟩
  obtain ⟨n, HN⟩ : ∃ n, Hid (l.length = n) := ⟨_, Lib.hid rfl⟩
  have hcap := owns_cap h
  have HH := Lib.hid h
  rw [HN.out] at hm hn hcap hi ⊢
  have e1 : n - 1 = i + m := by omega
  rw [e1]
  have k0 : (0 : Int) ≤ (i : Int) := by omega
  have k1 : (0 : Int) ≤ (i : Int) + 1 := by omega
  have k2 : (i : Int) ≤ (i : Int) + 1 := by omega
  have k3 : (i : Int) + 1 ≤ (n : Int) := by omega
  have k4 : (n : Int) ≤ (c : Int) := by omega
  have k5 : ¬ (n : Int) = (i : Int) := by omega
  have k6 : (i : Int) ≤ (c : Int) := by omega
  have hne : ¬ (i : Int) = (i : Int) + 1 := by omega
  clear h e1
  go_enter Try.func66, Try.ntmps66
  go_wp2_with fail
  refine region_tail 6 (by kernel_rfl) (by kernel_rfl) ?_
  intro w4 hw4
  have HG4 : Hid (w.grownBy w4 none) := Lib.hid (by rw [hw4]; exact grown_drewN w 1 none)
  have HH4 : Hid (GRu w4 lo (.slice (some ⟨g, 0, none⟩) l.length c) l) := Lib.hid (owns_stay HH.out fun k hk => HG4.out.block k (HH.out.lt k hk).2 (by simp))
  have e2 : n - (i + 1) = m := by omega
  have e3 : IntKind.i64.wrap ((i : Int) + 1) = (i : Int) + 1 := by rw [IntKind.wrap_i64]; omega
  have k7 : (i : Int) + 1 ≤ (c : Int) := by omega
  have hmn : m < c - i := by omega
  simp only [List.take_succ_cons, List.take_zero, List.drop_succ_cons, List.drop_zero]
  by_cases hm0 : c = i + 1
  · subst hm0
    clear k4 k6 k7
    have k4 : (n : Int) ≤ (i : Int) + 1 := by omega
    obtain ⟨w5, hr5, ho5, hg5⟩ := append_del HH4.out (i := i) (m := m) (by rw [HN.out]; exact hm) ⟨g, 0, none⟩ (fun h => by omega) 0 26
    try simp only [Nat.mul_one] at hr5
    have HR5 := Lib.hid hr5
    obtain ⟨w6, hr6, ho6, hg6⟩ := clear_end ho5 (by omega) 0
    have q5 : n - (i + m) = 1 := by omega
    try simp only [Nat.mul_one] at hr6
    rw [← q5] at hr6
    have HO6 := Lib.hid ho6
    have HG6 : Hid (w.grownBy w6 (some g)) := Lib.hid (grown_trans (grown_trans (grown_any HG4.out _) hg5) hg6)
    have HL6 : Hid ((l.eraseIdx i).length = i + m) := Lib.hid (by rw [List.length_eraseIdx, HN.out, if_pos hi]; omega)
    clear hw4 hr5 ho5 hg5 ho6 hg6 HH HH4 HG4 q5
    have q1 : (0 : Int) ≤ (i : Int) + (m : Int) := by omega
    have q2 : (i : Int) + (m : Int) ≤ (n : Int) := by omega
    have q3 : (n : Int) ≤ (i : Int) + 1 := by omega
    have q4 : ¬ (i : Int) + 1 = (i : Int) + (m : Int) := by omega
    repeat still_step
    refine wpStill_nil ?_
    go_wp2_with (at_builtin; refine append_run rfl (.tmp 22) (.tmp 25) 26 rfl rfl rfl HR5.out ?_)
    go_ret
    refine ⟨rfl, ?_, HG6.out⟩
    unfold GRu
    rw [HL6.out]
    exact HO6.out
  · have k8 : ¬ (c : Int) = (i : Int) + 1 := by omega
    obtain ⟨w5, hr5, ho5, hg5⟩ := append_del HH4.out (i := i) (m := m) (by rw [HN.out]; exact hm) ⟨g, (i + 1) * 1, none⟩ (fun _ => rfl) (c - (i + 1)) 26
    try simp only [Nat.mul_one] at hr5
    have HR5 := Lib.hid hr5
    obtain ⟨w6, hr6, ho6, hg6⟩ := clear_end ho5 (by omega) 0
    have q5 : n - (i + m) = 1 := by omega
    try simp only [Nat.mul_one] at hr6
    rw [← q5] at hr6
    have HO6 := Lib.hid ho6
    have HG6 : Hid (w.grownBy w6 (some g)) := Lib.hid (grown_trans (grown_trans (grown_any HG4.out _) hg5) hg6)
    have HL6 : Hid ((l.eraseIdx i).length = i + m) := Lib.hid (by rw [List.length_eraseIdx, HN.out, if_pos hi]; omega)
    clear hw4 hr5 ho5 hg5 ho6 hg6 HH HH4 HG4 q5
    have q1 : (0 : Int) ≤ (i : Int) + (m : Int) := by omega
    have q2 : (i : Int) + (m : Int) ≤ (n : Int) := by omega
    have q3 : (n : Int) ≤ (c : Int) := by omega
    have q4 : ¬ (c : Int) = (i : Int) + (m : Int) := by omega
    repeat still_step
    refine wpStill_nil ?_
    go_wp2_with (at_builtin; refine append_run rfl (.tmp 22) (.tmp 25) 26 rfl rfl rfl HR5.out ?_)
    go_ret
    refine ⟨rfl, ?_, HG6.out⟩
    unfold GRu
    rw [HL6.out]
    exact HO6.out
end
end Go.Proofs.Ytifenpmkbnohhaa
