/-
  Which configs may be: Clock; a config by value.
  Worlds that grow, rows that are owned, copies and clears of rows: no program is named here.
  Configs: which may be, how many pages may be hot.
  A page is put into a row of pages: slices.Insert.
  The library's IndexFunc and DeleteFunc with the program's own closures.
-/
import Derived.Test.YtejcahkkpednfaaG02
import Derived.Test.YtejcahkkpednfaaG01
import Derived.Maps.AppendAt
import Derived.Deep.RegionLaw
import Derived.Laws.CopyRow
import Derived.Lib.AppendZerosOnto
import Derived.Lib.Overlaps
import Derived.Laws.Externs
import Derived.StillTailTactics
import Derived.OwnWalk
import Derived.Shelf.Abstract
namespace Go.Proofs.Ytejcahkkpednfaa
open Go.RowKit
open Go.Proofs.StackM
set_option linter.unusedVariables false
abbrev cA (c : Cf) : Array Value := #[.int .i64 c.p, .int .i64 c.c, .int .i64 c.q, .int .i64 c.g]
abbrev cV (c : Cf) : Value := .agg (cA c)
def newS (c : Cf) : St := { S0 with cf := c }
theorem info24 : (Try.prog.info? 24).map (·.size) = some 4 := by kernel_rfl
theorem bld31run (c : Cf) (w : World) : (Instr.build 31 #[(0, cV c)]).run Try.prog w = .ok (sV (newS c) R0) w := by
  simp [go_sem, Instr.build, Instr.fill, sA, newS, S0, R0, Result.andThen]
theorem bld31 {ops : Array Oper} {rest : List Oper} {o : Oper} {a : Act} {w : World} {Q : Exit → Act → World → Prop} (hg : o.guard = none) (x : Operand) (ho : o.op = .build 31 #[(0, x)]) (c : Cf) (hx : a.eval x = cV c)
    (hK : wpList Try.prog ops Q rest (a.put o.dst (sV (newS c) R0)) w) : wpList Try.prog ops Q (o :: rest) a w := by
  refine wpList_plain hg fun K k => ?_
  unfold Oper.wp
  have := bld31run c w
  simp [execOp, ho, hx, this]
  exact k _ _ hK
def Mby (c : Cf) : Prop := Mb c.p c.c c.q c.g ∧ c.p = 2
instance (c : Cf) : Decidable (Mby c) := by unfold Mby; infer_instance
set_option maxHeartbeats 2000000 in
set_option maxRecDepth 100000 in
theorem lawMay_at (c : Cf) (w : World) : Calls Try.prog 20 #[cV c] w fun e w' => e = .returned (.bool (decide (Mby c))) ∧ Below w.heap.size w w' := by
  obtain ⟨w1, hw1⟩ : ∃ w1, w1 = w.alloc (.cells (cA c) 24) := ⟨_, rfl⟩
  have hb1 := alloc_below w (.cells (cA c) 24)
  have hc : w1.heap[w.heap.size]? = some (.cells (cA c) 24 (0, 0)) := by
    rw [hw1]
    exact heap_alloc_new _ _
  have hA : w.alloc (.cells #[.int .i64 c.p, .int .i64 c.c, .int .i64 c.q, .int .i64 c.g] 24) = w1 := hw1.symm
  rw [← hw1] at hb1
  have HA := Lib.hid hA
  have HC := Lib.hid hc
  have HB := Lib.hid hb1
  obtain ⟨b, hb⟩ : ∃ b, b = decide (Mby c) := ⟨_, rfl⟩
  obtain ⟨m, hm⟩ : ∃ m, m = decide (Mb c.p c.c c.q c.g) := ⟨_, rfl⟩
  have C26 := Lib.hid (may_at c.p c.c c.q c.g w1)
  rw [← hm] at C26
  have hbm : b = (m && decide (c.p = 2)) := by rw [hb, hm]; unfold Mby; exact Bool.decide_and _ _
  rw [← hb]
  clear hw1 hc hb1 hA hb hm
  show Calls Try.prog 20 #[cV c] w fun e w' => e = .returned (.bool b) ∧ Below w.heap.size w w'
  subst hbm
  go_enter Try.func20, Try.ntmps20
  go_wp2_with (first | fail | (rw [HA.out]; refine wpList_load_row rfl 24 (.tmp 1) rfl w.heap.size rfl 24 (cA c) (0, 0) _ HC.out Try.underlying24 rfl info24 ?_))
  refine C26.out.mono ?_
  rintro e w2 ⟨rfl, hb2⟩
  have c0 : w2.cell? ⟨w.heap.size, 0, none⟩ = some (.int .i64 c.p) := by
    rw [cell_of_row (w := w2) w.heap.size 0 (cA c) 24 (0, 0) (by rw [hb2.block _ (Array.getElem?_eq_some_iff.1 HC.out).1]; exact HC.out)]
    rfl
  have hbel := HB.out.trans (hb2.mono HB.out.size)
  clear HA HC HB C26 hb2
  cases m
  · go_wp2
    go_ret
    exact ⟨rfl, hbel⟩
  · by_cases hp : c.p = 2
    · go_wp2
      go_ret
      exact ⟨by simp [hp], hbel⟩
    · go_wp2
      go_ret
      exact ⟨by simp [hp], hbel⟩
end Go.Proofs.Ytejcahkkpednfaa
namespace Go.Proofs.Ytejcahkkpednfaa
open Go.RowKit
set_option linter.unusedVariables false
theorem grown_trans {a b c : World} {row : Option Nat} (h1 : a.grownBy b row) (h2 : b.grownBy c row) : a.grownBy c row :=
  ⟨h2.os.trans h1.os, h2.tape.trans h1.tape, h2.output.trans h1.output, Nat.le_trans h1.size h2.size, fun k hk hr => (h2.block k (Nat.lt_of_lt_of_le hk h1.size) hr).trans (h1.block k hk hr)⟩
theorem grown_drewN (w : World) (q : Nat) (row : Option Nat) : w.grownBy (w.drewN q) row := ⟨rfl, rfl, rfl, Nat.le_refl _, fun _ _ _ => rfl⟩
theorem grown_setCell (w : World) (g k : Nat) (v : Value) : w.grownBy (w.setCell ⟨g, k, none⟩ v) (some g) :=
  ⟨rfl, rfl, rfl, by simp, fun j _ hj => heap_setCell_other w ⟨g, k, none⟩ j v (fun e => hj (by rw [e]))⟩
theorem grown_new {a b c : World} {g : Nat} (h1 : a.grownBy b none) (h2 : b.grownBy c (some g)) (hg : a.heap.size ≤ g) : a.grownBy c none :=
  ⟨h2.os.trans h1.os, h2.tape.trans h1.tape, h2.output.trans h1.output, Nat.le_trans h1.size h2.size,
    fun k hk hr => (h2.block k (Nat.lt_of_lt_of_le hk h1.size) (by intro e; cases e; omega)).trans (h1.block k hk hr)⟩

theorem type_eq {x : Option Obj} {cur cur' : Array Value} {t t' : TypeId} {f f' : Nat × Nat} (h : x = some (.cells cur t f)) (h' : x = some (.cells cur' t' f')) : t = t' := by
  rw [h] at h'; injection h' with h'; injection h'

section
variable {w w' : World} {b : Nat}
theorem cell_of_head {cs : Array Value} {t : TypeId} (h : w.heap[b]? = some (.cells cs t (0, 0))) (i : Nat) : w.cell? ⟨b, i, none⟩ = cs[i]? := by
  simp [World.cell?, h]
theorem frozen_of_head {cs : Array Value} {t : TypeId} (h : w.heap[b]? = some (.cells cs t (0, 0))) (i : Nat) : w.frozen? ⟨b, i, none⟩ = false := by
  simp [World.frozen?, h]
theorem owns_slice {base n : Nat} {e : TypeId} {size : Nat} {v : Value} {xs : List Value} (h : w.ownsRow base e size v n xs) : ∃ A cap, v = .slice A n cap := by
  rcases h.2 with ⟨rfl, h0⟩ | ⟨g, cap, cur, rfl, _⟩
  · exact ⟨none, 0, by rw [h0]⟩
  · exact ⟨_, _, rfl⟩
theorem owns_stay {base n : Nat} {e : TypeId} {size : Nat} {v : Value} {xs : List Value} (h : w.ownsRow base e size v n xs) (hb : ∀ k, v.ownBlock = some k → w'.heap[k]? = w.heap[k]?) : w'.ownsRow base e size v n xs := by
  refine ⟨h.1, ?_⟩
  rcases h.2 with h' | ⟨g, cap, cur, rfl, hg, hgb, r⟩
  · exact .inl h'
  · exact .inr ⟨g, cap, cur, rfl, hg, (hb g rfl).trans hgb, r⟩
theorem owns_type {base n : Nat} {e : TypeId} {size : Nat} {v : Value} {xs : List Value} (h : w.ownsRow base e size v n xs) {k : Nat} (hk : v.ownBlock = some k) : base ≤ k ∧ ∃ cur, w.heap[k]? = some (.cells cur e (0, 0)) := by
  rcases h.2 with ⟨rfl, _⟩ | ⟨g, cap, cur, rfl, hg, hgb, r⟩
  · cases hk
  · injection hk with hk
    have hk : g = k := hk
    subst hk
    exact ⟨hg, cur, hgb⟩
theorem head_set {cs : Array Value} {t : TypeId} (h : w.heap[b]? = some (.cells cs t (0, 0))) (i : Nat) (v : Value) :
    (w.setCell ⟨b, i, none⟩ v).heap[b]? = some (.cells (cs.setIfInBounds i v) t (0, 0)) := heap_setCell_same w b i cs t v h
end
theorem step_append_run {P : Program} {w : World} {ops : Array Oper} {o : Oper} {a : Act} {K : Act → World → Prop} {Q : Exit → Act → World → Prop} {E : Prop} (hgd : o.guard = none) (s x : Operand) (t : TypeId)
    (hop : o.op = Op.call { callee := Callee.builtin Builtin.append, args := #[s, x], argTypes := #[t, t] }) {v u v' : Value} {w' : World} (hs : a.eval s = v) (hx : a.eval x = u)
    (hrun : (Builtin.append_ #[t, t] o.type #[v, u]).run P w = .ok v' w') (hK : K (a.put o.dst v') w') : if Region.wanted o (yielded ops a.tmps) = true then Oper.wp P o a w K Q else E := by
  have hw : Region.wanted o (yielded ops a.tmps) = true := by simp [Region.wanted, hgd]
  rw [if_pos hw]
  unfold Oper.wp
  simp [execOp, hop, resolve, invoke, builtin, hs, hx, hrun, Result.andThen]
  exact hK

structure But (X : Nat → Prop) (w w' : World) : Prop where
  os : w'.os = w.os
  tape : w'.tape = w.tape
  output : w'.output = w.output
  size : w.heap.size ≤ w'.heap.size
  block : ∀ k, k < w.heap.size → ¬ X k → w'.heap[k]? = w.heap[k]?
theorem But.refl (X : Nat → Prop) (w : World) : But X w w := ⟨rfl, rfl, rfl, Nat.le_refl _, fun _ _ _ => rfl⟩
theorem But.trans {X : Nat → Prop} {a b c : World} (h : But X a b) (g : But X b c) : But X a c :=
  ⟨g.os.trans h.os, g.tape.trans h.tape, g.output.trans h.output, Nat.le_trans h.size g.size, fun k hk hc => (g.block k (Nat.lt_of_lt_of_le hk h.size) hc).trans (h.block k hk hc)⟩
theorem But.wide {X Y : Nat → Prop} {a b : World} (h : But X a b) (hy : ∀ k, X k → Y k) : But Y a b := ⟨h.os, h.tape, h.output, h.size, fun k hk hc => h.block k hk (fun hx => hc (hy k hx))⟩
theorem But.of_grown {X : Nat → Prop} {w w' : World} {row : Option Nat} (hg : w.grownBy w' row) (hr : ∀ r, row = some r → X r) : But X w w' :=
  ⟨hg.os, hg.tape, hg.output, hg.size, fun k hk hc => hg.block k hk (fun e => hc (hr k e.symm))⟩
theorem But.of_new {X : Nat → Prop} {w w' : World} (hg : w.grownBy w' none) : But X w w' := But.of_grown hg (by intro r h; cases h)
theorem But.of_set (w : World) (g i : Nat) (v : Value) {X : Nat → Prop} (hx : X g) : But X w (w.setCell ⟨g, i, none⟩ v) := But.of_grown (grown_setCell w g i v) (by intro r e; cases e; exact hx)
theorem run_storeVar_cell {P : Program} (w : World) (g o : Nat) (ty : TypeId) (v v0 : Value) (hc : w.cell? ⟨g, o, none⟩ = some v0) (hf : w.frozen? ⟨g, o, none⟩ = false) (hi : (P.info? ty).map (·.size) = some 1)
    (h1 : v.oneCell' = true) : (storeVar ty ⟨g, o, none⟩ v).run P w = .ok () (w.setCell ⟨g, o, none⟩ v) := by
  have := run_storeCells_cells (P := P) g o [v] 0 w (fun j hj => by
      simp only [List.length_cons, List.length_nil] at hj
      obtain rfl : j = 0 := by omega
      show (w.cell? ⟨g, o, none⟩).isSome = true
      rw [hc]; rfl) (fun j hj => by
      simp only [List.length_cons, List.length_nil] at hj
      obtain rfl : j = 0 := by omega
      exact hf) (fun x hx => by simp at hx; subst hx; exact h1)
  have hcc : v.cells = #[v] := by cases v <;> first | rfl | cases h1
  cases hq : P.info? ty with
  | none => simp [hq] at hi
  | some i =>
    have hs : i.size = 1 := by simpa [hq] using hi
    simp only [Nat.add_zero, World.setCells] at this
    simp [storeVar, sizeOf, typeInfo, hq, hcc, hs, this]
theorem wpList_store_cell {P : Program} {ops : Array Oper} {rest : List Oper} {op : Oper} {a : Act} {w : World} {Q : Exit → Act → World → Prop} (hgd : op.guard = none) (ty : TypeId) (x y : Operand) (ho : op.op = .store ty x y)
    {g o : Nat} {v v0 : Value} (hx : a.eval x = .pointer (some ⟨g, o, none⟩)) (hy : a.eval y = v) (h1 : v.oneCell' = true) (hi : (P.info? ty).map (·.size) = some 1) (hc : w.cell? ⟨g, o, none⟩ = some v0) (hf : w.frozen? ⟨g, o, none⟩ = false)
    (h : wpList P ops Q rest (a.put op.dst undef) (w.setCell ⟨g, o, none⟩ v)) : wpList P ops Q (op :: rest) a w := by
  refine wpList_plain hgd fun K hK => ?_
  unfold Oper.wp execOp
  simp only [ho, hx, hy, Instr.storeAt, Instr.sureAddr, Sem.run_bind, Sem.run_pure, Result.andThen_ok, run_storeVar_cell w g o ty v v0 hc hf hi h1]
  exact hK _ _ h

theorem region_tail {P : Program} {id : Nat} {Q : Exit → Act → World → Prop} {a : Act} {w : World} {l : List Oper} (n : Nat) (hm : P.follows .mixedOrders = true) (hB : Region.lexTailB .any l.toArray n = true)
    (h : ∀ w2 : World, w2 = w.drewN 1 → wpStill P l.toArray w2 (fun a' => wpList P l.toArray Q (l.drop n) a' w2) (l.take n) a) : (Code.region id l.toArray true).wp P Q a w :=
  wp_region_still_tail n hm hB (h _ rfl)
theorem kept2 {w w' : World} {B : Nat} {o : Obj} (h : w.heap[B]? = some o) (hg : w.grownBy w' none) : w'.heap[B]? = some o := (hg.block B (Array.getElem?_eq_some_iff.1 h).1 (by simp)).trans h
theorem owns_base {W : World} {a b : Nat} {e : TypeId} {size : Nat} {v : Value} {n : Nat} {xs : List Value} (h : W.ownsRow a e size v n xs) (hb : b ≤ a) : W.ownsRow b e size v n xs := by
  refine ⟨h.1, ?_⟩
  rcases h.2 with h | ⟨g, cap, cur, hv, hg, r⟩
  · exact .inl h
  · exact .inr ⟨g, cap, cur, hv, Nat.le_trans hb hg, r⟩
theorem owns_cut {W : World} {lo n m cap size : Nat} {e : TypeId} {A : Option Addr} {xs : List Value} (h : W.ownsRow lo e size (.slice A n cap) n xs) (hm : m ≤ n) : W.ownsRow lo e size (.slice A m cap) m (xs.take (m * size)) := by
  have hl : m * size ≤ n * size := Nat.mul_le_mul_right _ hm
  refine ⟨by rw [List.length_take, h.1]; omega, ?_⟩
  rcases h.2 with ⟨e1, h0⟩ | ⟨g, cap', cur, e1, hg, hgb, hnc, hcm, hcs, ht⟩
  · injection e1 with e1 e2 e3
    subst e1 e3
    exact .inl ⟨by rw [show m = 0 by omega], by omega⟩
  · injection e1 with e1 e2 e3
    subst e1 e3
    exact .inr ⟨g, cap, cur, rfl, hg, hgb, by omega, hcm, hcs, by rw [← ht, List.take_take, Nat.min_eq_left hl]⟩
theorem owns_cap {W : World} {lo n cap size : Nat} {e : TypeId} {A : Option Addr} {xs : List Value} (h : W.ownsRow lo e size (.slice A n cap) n xs) : n ≤ cap := by
  rcases h.2 with ⟨e1, h0⟩ | ⟨g, cap', cur, e1, hg, hgb, hnc, hcm, hcs, ht⟩
  · injection e1 with e1 e2 e3; omega
  · injection e1 with e1 e2 e3; omega
/-! ### rows of elements of a fixed number of cells -/
section
variable {α : Type} {enc : α → List Value} {s : Nat}
def rvals (enc : α → List Value) (l : List α) : List Value := l.flatMap enc
theorem rvals_append (a b : List α) : rvals enc (a ++ b) = rvals enc a ++ rvals enc b := by simp [rvals]
theorem rvals_len (hs : ∀ x, (enc x).length = s) : ∀ l : List α, (rvals enc l).length = l.length * s
  | [] => by simp [rvals]
  | a :: t => by
    have := rvals_len hs t
    unfold rvals at this ⊢
    rw [List.flatMap_cons, List.length_append, this, hs, List.length_cons, Nat.add_mul]; omega
theorem rvals_take (hs : ∀ x, (enc x).length = s) : ∀ (l : List α) (k : Nat), rvals enc (l.take k) = (rvals enc l).take (k * s)
  | l, 0 => by simp [rvals]
  | [], k + 1 => by simp [rvals]
  | a :: t, k + 1 => by
    have := rvals_take hs t k
    unfold rvals at this ⊢
    have e : (k + 1) * s = (enc a).length + k * s := by rw [hs, Nat.add_mul, Nat.one_mul]; omega
    rw [List.take_succ_cons, List.flatMap_cons, List.flatMap_cons, this, e, List.take_length_add_append]
theorem rvals_drop (hs : ∀ x, (enc x).length = s) : ∀ (l : List α) (k : Nat), rvals enc (l.drop k) = (rvals enc l).drop (k * s)
  | l, 0 => by simp [rvals]
  | [], k + 1 => by simp [rvals]
  | a :: t, k + 1 => by
    have := rvals_drop hs t k
    unfold rvals at this ⊢
    have e : (k + 1) * s = (enc a).length + k * s := by rw [hs, Nat.add_mul, Nat.one_mul]; omega
    rw [List.drop_succ_cons, List.flatMap_cons, this, e, List.drop_length_add_append]
theorem rvals_get (hs : ∀ x, (enc x).length = s) {l : List α} {i j : Nat} {x : α} (h : l[i]? = some x) (hj : j < s) : (rvals enc l)[i * s + j]? = (enc x)[j]? := by
  have hd := rvals_drop hs l i
  have hc : l.drop i = x :: l.drop (i + 1) := by
    obtain ⟨hi, rfl⟩ := List.getElem?_eq_some_iff.1 h
    exact List.drop_eq_getElem_cons hi
  rw [hc] at hd
  have : (rvals enc l)[i * s + j]? = ((rvals enc l).drop (i * s))[j]? := by rw [List.getElem?_drop]
  rw [this, ← hd]
  unfold rvals
  rw [List.flatMap_cons, List.getElem?_append_left (by rw [hs]; exact hj)]
theorem rvals_one (h1 : ∀ x, ∀ v ∈ enc x, v.oneCell' = true) (l : List α) : ∀ u ∈ rvals enc l, u.oneCell' = true := by
  intro u hu
  unfold rvals at hu
  obtain ⟨x, _, hx⟩ := List.mem_flatMap.1 hu
  exact h1 x u hx
theorem rvals_set (hs : ∀ x, (enc x).length = s) {l : List α} {i : Nat} (hi : i < l.length) (y : α) : rvals enc (l.set i y) = (rvals enc l).take (i * s) ++ enc y ++ (rvals enc l).drop ((i + 1) * s) := by
  rw [List.set_eq_take_append_cons_drop, if_pos hi, rvals_append, rvals_take hs]
  have : rvals enc (y :: l.drop (i + 1)) = enc y ++ rvals enc (l.drop (i + 1)) := by simp [rvals]
  rw [this, rvals_drop hs, List.append_assoc]
end
section
variable {P : Program}
theorem run_copy_rowK (w : World) (dT sT ty elem : TypeId) (k g o dLen dCap : Nat) (a : Addr) (sLen sCap : Nat) (cur : Array Value) (t : TypeId) (cs : List Value) (m : Nat)
    (hu : P.underlying dT = some (.slice elem)) (hs : (P.info? elem).map (·.size) = some k)
    (hg : w.heap[g]? = some (.cells cur t (0, 0))) (hm : m = Nat.min sLen dLen) (hn : cs.length = m * k)
    (hsrc : ∀ j v, cs[j]? = some v → w.cell? (a.add j) = some v) (hfit : o + cs.length ≤ cur.size) (h1 : ∀ v ∈ cs, v.oneCell' = true) :
    (Builtin.copy_ #[dT, sT] ty #[.slice (some ⟨g, o, none⟩) dLen dCap, .slice (some a) sLen sCap]).run P w =
      .ok (goInt m) (w.setRow g (cur.toList.take o ++ cs ++ cur.toList.drop (o + cs.length)).toArray) := by
  have hl := run_loadCells_list (P := P) w a cs hsrc
  have hst := run_storeCells_at P g o t cs 0 cur w hg (by simpa using hfit) h1
  cases hq : P.info? elem with
  | none => simp [hq] at hs
  | some i =>
    have hi : i.size = k := by simpa [hq] using hs
    simp [Builtin.copy_, run_underlying hu, Builtin.lenOf, Builtin.firstCells, sizeOf, typeInfo, hq, hi, ← hm, ← hn, hl, hst]
theorem run_clear_rowK (w : World) (t e ty : TypeId) (z : Value) (ht : P.underlying t = some (.slice e)) (hv : ∀ w, (zeroValue e).run P w = .ok z w) (h1 : ∀ v ∈ z.cells, v.oneCell' = true) (g o c : Nat) (cur : Array Value) (t' : TypeId)
    (hg : w.heap[g]? = some (.cells cur t' (0, 0))) (hfit : o + z.cells.size ≤ cur.size) :
    (Builtin.clear_ #[t] ty #[.slice (some ⟨g, o, none⟩) 1 c]).run P w = .ok (.tuple #[]) (w.setRow g (cur.toList.take o ++ z.cells.toList ++ cur.toList.drop (o + z.cells.size)).toArray) := by
  have hzc : (Builtin.zeroCells z.cells 1).toList = z.cells.toList := by
    simp [Builtin.zeroCells]
    apply List.ext_getElem
    · simp
    · intro i h1 h2
      simp at h1
      simp [Nat.mod_eq_of_lt h1, h1]
  have hst := run_storeCells_at P g o t' z.cells.toList 0 cur w hg (by simpa using hfit) (by simpa using h1)
  simp only [Nat.add_zero, Array.length_toList] at hst
  simp [Builtin.clear_, run_underlying ht, hv, hzc, hst]
end
theorem grown_setRow {w : World} {g : Nat} (cs : Array Value) : w.grownBy (w.setRow g cs) (some g) := ⟨rfl, rfl, rfl, by simp, fun k _ hk => setRow_other w g k _ (fun e => hk (by simp [e]))⟩
open Go.Proofs.StackM (St)
def spA (s : St) (r : R3) (A : Option Addr) (n c : Nat) : Array Value := (sA s r).push (.slice A n c)
theorem spA_len (s : St) (r : R3) (A : Option Addr) (n c : Nat) : (spA s r A n c).size = 21 := rfl
theorem spA_one (s : St) (r : R3) (A : Option Addr) (n c : Nat) : ((spA s r A n c).all fun x => x.oneCell') = true := by simp [spA, sA, Value.oneCell']
theorem grown_any {w w' : World} (h : w.grownBy w' none) (row : Option Nat) : w.grownBy w' row := ⟨h.os, h.tape, h.output, h.size, fun k hk _ => h.block k hk (by simp)⟩
end Go.Proofs.Ytejcahkkpednfaa
namespace Go.Proofs.Ytejcahkkpednfaa
open Go.RowKit
open Go.Proofs.StackM
set_option linter.unusedVariables false
def nm (p : Int) : List UInt8 := if p = 1 then [108, 105, 114, 115] else if p = 2 then [99, 108, 111, 99, 107] else if p = 3 then [108, 114, 117] else if p = 4 then [115, 101, 99, 111, 110, 100] else []
def ck (p c q g : Int) : Int := if Mb p c q g then 0 else 2
def ns (p : Int) : ByteArray := ⟨(nm p).toArray⟩
theorem ns_eq {p : Int} {x : ByteArray} : ns p = x ↔ nm p = x.data.toList := by
  constructor
  · rintro rfl; simp [ns]
  · intro h; rw [ns, h]
theorem name_at (p : Int) (w : World) : Calls Try.prog 82 #[.int .i64 p] w fun e w' => e = .returned (.string (ns p)) ∧ w' = w := by
  have hn : p = 1 ∨ p = 2 ∨ p = 3 ∨ p = 4 ∨ (p ≠ 1 ∧ p ≠ 2 ∧ p ≠ 3 ∧ p ≠ 4) := by omega
  rcases hn with rfl | rfl | rfl | rfl | ⟨h1, h2, h3, h4⟩
  · go_enter Try.func82, Try.ntmps82
    go_wp2
    go_ret
    exact ⟨rfl, rfl⟩
  · go_enter Try.func82, Try.ntmps82
    go_wp2
    go_ret
    exact ⟨rfl, rfl⟩
  · go_enter Try.func82, Try.ntmps82
    go_wp2
    go_ret
    exact ⟨rfl, rfl⟩
  · go_enter Try.func82, Try.ntmps82
    go_wp2
    go_ret
    exact ⟨rfl, rfl⟩
  · have e : ns p = ⟨#[]⟩ := by rw [ns, nm, if_neg h1, if_neg h2, if_neg h3, if_neg h4]
    rw [e]
    clear e
    go_enter Try.func82, Try.ntmps82
    go_wp2
    go_ret
    exact ⟨rfl, rfl⟩
theorem within_at (n a b : Int) (w : World) : Calls Try.prog 83 #[.int .i64 n, .int .i64 a, .int .i64 b] w fun e w' => e = .returned (.bool (decide (a ≤ n ∧ n ≤ b))) ∧ w' = w := by
  by_cases h1 : a ≤ n
  · by_cases h2 : n ≤ b
    · rw [decide_eq_true (And.intro h1 h2)]
      go_enter Try.func83, Try.ntmps83
      go_wp2
      go_ret
      exact ⟨rfl, rfl⟩
    · rw [decide_eq_false (fun h => h2 h.2)]
      go_enter Try.func83, Try.ntmps83
      go_wp2
      go_ret
      exact ⟨rfl, rfl⟩
  · rw [decide_eq_false (fun h => h1 h.1)]
    go_enter Try.func83, Try.ntmps83
    go_wp2
    go_ret
    exact ⟨rfl, rfl⟩
theorem nbl_ne {a b : ByteArray} (h : a ≠ b) : (a.toList == b.toList) = false := by
  rw [ByteArray.toList_eq, ByteArray.toList_eq, beq_eq_false_iff_ne]
  exact fun e => h (ByteArray.ext (Array.toList_inj.1 e))
theorem nm_none {p : Int} (h : ¬ (1 ≤ p ∧ p ≤ 4)) : nm p = [] := by
  rw [nm, if_neg (by omega), if_neg (by omega), if_neg (by omega), if_neg (by omega)]
theorem nm_some {p : Int} (h : 1 ≤ p ∧ p ≤ 4) : nm p ≠ [] := by
  have : p = 1 ∨ p = 2 ∨ p = 3 ∨ p = 4 := by omega
  rcases this with rfl | rfl | rfl | rfl <;> decide
theorem ns_none {p : Int} (h : ¬ (1 ≤ p ∧ p ≤ 4)) : ns p = ⟨#[]⟩ := by rw [ns, nm_none h]
theorem ns_some {p : Int} (h : 1 ≤ p ∧ p ≤ 4) : ns p ≠ ⟨#[]⟩ := fun e => nm_some h (ns_eq.1 e)
theorem emp_ne {a : ByteArray} (h : a ≠ ⟨#[]⟩) : a.toList.isEmpty = false := by
  have := nbl_ne h
  simpa using this
set_option maxHeartbeats 400000 in
set_option maxRecDepth 100000 in
theorem check_at (p c q g : Int) (w : World) : Calls Try.prog 66 #[.agg #[.int .i64 p, .int .i64 c, .int .i64 q, .int .i64 g]] w fun e w' => e = .returned (.int .i64 (ck p c q g)) ∧ Below w.heap.size w w' := by
  obtain ⟨x, hx⟩ : ∃ x, x = ns p := ⟨_, rfl⟩
  have cn : ∀ W, Calls Try.prog 82 #[.int .i64 p] W fun e w' => e = .returned (.string x) ∧ w' = W := fun W => hx ▸ name_at p W
  by_cases hp : 1 ≤ p ∧ p ≤ 4
  · have hne := emp_ne (show x ≠ ⟨#[]⟩ by rw [hx]; exact ns_some hp)
    have hne2 : ¬ x.toList = [] := fun e => by rw [e] at hne; cases hne
    clear hx
    by_cases hc : 2 ≤ c ∧ c ≤ 256
    · have cc : ∀ W, Calls Try.prog 83 #[.int .i64 c, .int .i64 2, .int .i64 256] W fun e w' => e = .returned (.bool true) ∧ w' = W := fun W => decide_eq_true hc ▸ within_at c 2 256 W
      by_cases hq : 1 ≤ q ∧ q < c
      · have cq : ∀ W, Calls Try.prog 83 #[.int .i64 q, .int .i64 1, .int .i64 (c - 1)] W fun e w' => e = .returned (.bool true) ∧ w' = W := fun W => decide_eq_true (show 1 ≤ q ∧ q ≤ c - 1 by omega) ▸ within_at q 1 (c - 1) W
        by_cases hg : 0 ≤ g ∧ g ≤ 512
        · have cg : ∀ W, Calls Try.prog 83 #[.int .i64 g, .int .i64 0, .int .i64 512] W fun e w' => e = .returned (.bool true) ∧ w' = W := fun W => decide_eq_true hg ▸ within_at g 0 512 W
          rw [ck, if_pos ⟨hp, hc, hq, hg⟩]
          clear hp hq hg
          go_enter Try.func66, Try.ntmps66
          go_wp2_with (first | (with_reducible refine (cn _).mono ?_; rintro e w' ⟨rfl, rfl⟩) | (with_reducible refine (cc _).mono ?_; rintro e w' ⟨rfl, rfl⟩) | (with_reducible refine (cq _).mono ?_; rintro e w' ⟨rfl, rfl⟩) | (with_reducible refine (cg _).mono ?_; rintro e w' ⟨rfl, rfl⟩))
          go_ret
          exact ⟨rfl, alloc_below _ _⟩
        · have cg : ∀ W, Calls Try.prog 83 #[.int .i64 g, .int .i64 0, .int .i64 512] W fun e w' => e = .returned (.bool false) ∧ w' = W := fun W => decide_eq_false hg ▸ within_at g 0 512 W
          rw [ck, if_neg (fun h => hg h.2.2.2)]
          clear hp hq hg
          go_enter Try.func66, Try.ntmps66
          go_wp2_with (first | (with_reducible refine (cn _).mono ?_; rintro e w' ⟨rfl, rfl⟩) | (with_reducible refine (cc _).mono ?_; rintro e w' ⟨rfl, rfl⟩) | (with_reducible refine (cq _).mono ?_; rintro e w' ⟨rfl, rfl⟩) | (with_reducible refine (cg _).mono ?_; rintro e w' ⟨rfl, rfl⟩))
          go_ret
          exact ⟨rfl, alloc_below _ _⟩
      · have cq : ∀ W, Calls Try.prog 83 #[.int .i64 q, .int .i64 1, .int .i64 (c - 1)] W fun e w' => e = .returned (.bool false) ∧ w' = W := fun W => decide_eq_false (show ¬ (1 ≤ q ∧ q ≤ c - 1) by omega) ▸ within_at q 1 (c - 1) W
        rw [ck, if_neg (fun h => hq h.2.2.1)]
        clear hp hq
        go_enter Try.func66, Try.ntmps66
        go_wp2_with (first | (with_reducible refine (cn _).mono ?_; rintro e w' ⟨rfl, rfl⟩) | (with_reducible refine (cc _).mono ?_; rintro e w' ⟨rfl, rfl⟩) | (with_reducible refine (cq _).mono ?_; rintro e w' ⟨rfl, rfl⟩))
        go_ret
        exact ⟨rfl, alloc_below _ _⟩
    · have cc : ∀ W, Calls Try.prog 83 #[.int .i64 c, .int .i64 2, .int .i64 256] W fun e w' => e = .returned (.bool false) ∧ w' = W := fun W => decide_eq_false hc ▸ within_at c 2 256 W
      rw [ck, if_neg (fun h => hc h.2.1)]
      clear hp hc
      go_enter Try.func66, Try.ntmps66
      go_wp2_with (first | (with_reducible refine (cn _).mono ?_; rintro e w' ⟨rfl, rfl⟩) | (with_reducible refine (cc _).mono ?_; rintro e w' ⟨rfl, rfl⟩))
      go_ret
      exact ⟨rfl, alloc_below _ _⟩
  · rw [ns_none hp] at hx
    subst hx
    rw [ck, if_neg (fun h => hp h.1)]
    clear hp
    go_enter Try.func66, Try.ntmps66
    go_wp2_with (first | (with_reducible refine (cn _).mono ?_; rintro e w' ⟨rfl, rfl⟩))
    go_ret
    exact ⟨rfl, alloc_below _ _⟩
theorem ck_ok {p c q g : Int} (h : Mb p c q g) : ck p c q g = 0 := if_pos h
theorem ck_no {p c q g : Int} (h : ¬ Mb p c q g) : ck p c q g = 2 := if_neg h
def At4 (w : World) (b : Nat) (p c q g : Int) : Prop := w.cell? ⟨b, 0, none⟩ = some (.int .i64 p) ∧ w.cell? ⟨b, 1, none⟩ = some (.int .i64 c) ∧ w.cell? ⟨b, 2, none⟩ = some (.int .i64 q) ∧ w.cell? ⟨b, 3, none⟩ = some (.int .i64 g)
theorem At4.lt {w : World} {b : Nat} {p c q g : Int} (h : At4 w b p c q g) : b < w.heap.size := Lib.lt_of_cell h.1
theorem At4.kept {w w' : World} {b B : Nat} {p c q g : Int} (h : At4 w b p c q g) (hb : Below B w w') (hl : b < B) : At4 w' b p c q g :=
  ⟨by rw [hb.cell (by exact hl)]; exact h.1, by rw [hb.cell (by exact hl)]; exact h.2.1, by rw [hb.cell (by exact hl)]; exact h.2.2.1, by rw [hb.cell (by exact hl)]; exact h.2.2.2⟩
theorem at4_alloc (w : World) (p c q g : Int) : At4 (w.alloc (.cells #[.int .i64 p, .int .i64 c, .int .i64 q, .int .i64 g] 24)) w.heap.size p c q g :=
  ⟨by rw [World.cell?_alloc_new]; rfl, by rw [World.cell?_alloc_new]; rfl, by rw [World.cell?_alloc_new]; rfl, by rw [World.cell?_alloc_new]; rfl⟩
end Go.Proofs.Ytejcahkkpednfaa
namespace Go.Proofs.Ytejcahkkpednfaa
open Go.RowKit
open Go.Proofs.StackM
set_option linter.unusedVariables false
def penc (p : Pg) : List Value := [.int .u64 p.key, .int .i64 p.kind, .bool p.test, .bool p.mark]
theorem penc_len (x : Pg) : (penc x).length = 4 := rfl
theorem pvals_setK (l : List Pg) (i : Nat) (hi : i < l.length) (y : Pg) : pvals (l.set i y) = (pvals l).take (i * 4) ++ penc y ++ (pvals l).drop ((i + 1) * 4) := rvals_set (enc := penc) penc_len hi y
theorem penc_one : ∀ x, ∀ v ∈ penc x, v.oneCell' = true := fun x v hv => by simp [penc] at hv; rcases hv with rfl | rfl | rfl | rfl <;> rfl
theorem size59 : (Try.prog.info? 58).map (·.size) = some 4 := by kernel_rfl
theorem zero59 (w : World) : (zeroValue 58).run Try.prog w = .ok (.agg #[.int .u64 0, .int .i64 0, .bool false, .bool false]) w := by
  obtain ⟨i, h1, h2, _⟩ := info_parts infoP
  simp [zeroValue, typeInfo, h1, h2]
def GRw (w : World) (lo : Nat) (v : Value) (l : List Pg) : Prop := w.ownsRow lo 58 4 v l.length (pvals l)
section
variable {w : World} {lo g q n c i : Nat} {l : List Pg} {x : Pg}
end
set_option maxRecDepth 100000
theorem append_runT {P : Program} {w : World} {ops : Array Oper} {rest : List Oper} {o : Oper} {a : Act} {Q : Exit → Act → World → Prop} (hg : o.guard = none) (s x : Operand) (t t' : TypeId)
    (hop : o.op = Op.call { callee := Callee.builtin Builtin.append, args := #[s, x], argTypes := #[t, t'] }) {v u v' : Value} {w' : World} (hs : a.eval s = v) (hx : a.eval x = u)
    (hrun : (Builtin.append_ #[t, t'] o.type #[v, u]).run P w = .ok v' w') (hK : wpList P ops Q rest (a.put o.dst v') w') : wpList P ops Q (o :: rest) a w := by
  refine wpList_plain hg fun K k => ?_
  unfold Oper.wp
  simp [execOp, hop, resolve, invoke, builtin, hs, hx, hrun, Result.andThen]
  exact k _ _ hK
section
variable {w : World} {lo g q n c i : Nat} {l : List Pg} {x : Pg}
end
end Go.Proofs.Ytejcahkkpednfaa
namespace Go.Proofs.Ytejcahkkpednfaa
open Go.RowKit
open Go.Proofs.StackM
set_option linter.unusedVariables false
set_option maxHeartbeats 400000 in
theorem clo82 (p : Pg) (k : Int) (q : Nat) (w : World) (hq : w.cell? ⟨q, 0, none⟩ = some (.int .u64 k)) :
    Calls Try.prog 57 #[.agg #[.int .u64 p.key, .int .i64 p.kind, .bool p.test, .bool p.mark], .pointer (some ⟨q, 0, none⟩)] w fun e w' => e = .returned (.bool (decide (p.key = k))) ∧ Below w.heap.size w w' := by
  obtain ⟨y, hy⟩ : ∃ y, y = p.key := ⟨_, rfl⟩
  rw [← hy]
  clear hy
  have hlt := Lib.lt_of_cell hq
  by_cases hk : y = k
  · subst hk
    have hq2 : (w.alloc (.cells #[.int .u64 y, .int .i64 p.kind, .bool p.test, .bool p.mark] 58)).cell? ⟨q, 0, none⟩ = some (.int .u64 y) := by rw [(alloc_below w _).cell hlt]; exact hq
    go_enter Try.func57, Try.ntmps57
    go_wp2
    go_ret
    exact ⟨by simp, alloc_below _ _⟩
  · have hq2 : (w.alloc (.cells #[.int .u64 y, .int .i64 p.kind, .bool p.test, .bool p.mark] 58)).cell? ⟨q, 0, none⟩ = some (.int .u64 k) := by rw [(alloc_below w _).cell hlt]; exact hq
    go_enter Try.func57, Try.ntmps57
    go_wp2
    go_ret
    exact ⟨by simp [hk], alloc_below _ _⟩
theorem fi_some {l : List Pg} {k : Int} {i : Nat} (hi : i < l.length) (h : l[i].key = k) (hj : ∀ j (h1 : j < i) (h2 : j < l.length), l[j].key ≠ k) : fi l k = (i : Int) := by rw [fi, fnd_some hi h hj]
theorem fi_none {l : List Pg} {k : Int} (hj : ∀ j (h2 : j < l.length), l[j].key ≠ k) : fi l k = -1 := by rw [fi, fnd_none hj]
theorem e82 : ∀ args w, (callFunc 57 args).run Try.prog w = .ok (.enter 57 args) w := enters_of Try.func57 (by kernel_rfl) rfl
set_option maxHeartbeats 1000000 in
set_option maxRecDepth 100000 in
theorem ixp_at (l : List Pg) (k : Int) (A : Option Addr) (n cap q : Nat) (hn : n = l.length) (hb : n ≤ 1000000) (w : World) (hr : PRow w A cap l) (hq : w.cell? ⟨q, 0, none⟩ = some (.int .u64 k)) :
    Calls Try.prog 56 #[.slice A n cap, .func (.func 57) #[] #[.pointer (some ⟨q, 0, none⟩)]] w fun e w' => e = .returned (.int .i64 (fi l k)) ∧ Below w.heap.size w w' := by
  obtain ⟨r, hrr⟩ : ∃ r, r = fi l k := ⟨_, rfl⟩
  rw [← hrr]
  have HR := Lib.hid hrr
  have HN := Lib.hid hn
  have HP := Lib.hid hr
  have HQ := Lib.hid hq
  have hlq := Lib.lt_of_cell hq
  clear hrr hn hr hq
  go_enter Try.func56, Try.ntmps56
  go_wp2
  go_loopw [5, 8] (fun _ i wr => ∃ m : Nat, m ≤ n ∧ i = .int .i64 (m : Int) ∧ Hid (Below w.heap.size w wr) ∧ Hid (∀ j (h1 : j < m) (h2 : j < l.length), l[j].key ≠ k)) (fun _ i _ => n - (intOf i).toNat)
  case atStart => exact ⟨0, by omega, by go_num, Lib.hid (Below.refl _ _), Lib.hid (fun j h1 => absurd h1 (by omega))⟩
  case round =>
    obtain ⟨m, hm, rfl, HB, HK⟩ := hrel
    by_cases hlt : m < n
    · have hml : m < l.length := by have := HN.out; omega
      obtain ⟨b, off, rfl, hc⟩ := (PRow.kept HP.out HB.out).at hml
      obtain ⟨c0, c1, c2, c3⟩ := hc m hml
      have hcq : wr.cell? ⟨q, 0, none⟩ = some (.int .u64 k) := by rw [HB.out.cell hlq]; exact HQ.out
      obtain ⟨p, hp⟩ : ∃ p, p = l[m] := ⟨_, rfl⟩
      rw [← hp] at c0 c1 c2 c3
      have HY := Lib.hid hp
      have C := Lib.hid (clo82 p k q wr hcq)
      clear hc hp hcq
      by_cases hxy : p.key = k
      · rw [decide_eq_true hxy] at C
        have HXY := Lib.hid hxy
        clear hxy
        go_wp2_with fail
        refine C.out.mono ?_
        rintro e w' ⟨rfl, h⟩
        go_wp2_with fail
        go_ret
        refine ⟨?_, HB.out.trans (h.mono HB.out.size)⟩
        rw [HR.out, fi_some hml (by rw [← HY.out]; exact HXY.out) HK.out]
        rfl
      · rw [decide_eq_false hxy] at C
        have HXY := Lib.hid hxy
        clear hxy
        go_wp2_with fail
        refine C.out.mono ?_
        rintro e w' ⟨rfl, h⟩
        go_wp2_with fail
        go_round
        case rel => exact ⟨m + 1, by omega, by go_num, Lib.hid (HB.out.trans (h.mono HB.out.size)), Lib.hid (fun j h1 h2 => by
          rcases Nat.lt_succ_iff_lt_or_eq.1 h1 with h | rfl
          · exact HK.out j h h2
          · rw [← HY.out]; exact HXY.out)⟩
        case measure => simp only [intOf]; omega
    · go_wp2
      go_ret
      refine ⟨?_, HB.out⟩
      rw [HR.out, fi_none (fun j h2 => HK.out j (by have := HN.out; omega) h2)]
      rfl
end Go.Proofs.Ytejcahkkpednfaa
