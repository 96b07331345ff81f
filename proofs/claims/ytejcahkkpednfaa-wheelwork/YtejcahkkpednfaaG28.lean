/-
  A row of acts that is handed in.
  The statements' own step, on both: a Resize.
-/
import Derived.Test.YtejcahkkpednfaaG27
namespace Go.Proofs.Ytejcahkkpednfaa
open Go.ChangeShapes Go.WideShapes Go.ChangeAt Go.RowKit
open Go.Proofs.StackM (Pg Cf Ct St up many fnd fnd_at fnd_no)
open Go.Proofs.WheelM
set_option linter.unusedVariables false
structure Ac where
  kd : Int
  ky : Int
  cf : Cf
abbrev acA (a : Ac) : Array Value := #[.int .i64 a.kd, .int .u64 a.ky, .int .i64 a.cf.p, .int .i64 a.cf.c, .int .i64 a.cf.q, .int .i64 a.cf.g]
def ActsAt (w : World) (A : Option Addr) (cap : Nat) (l : List Ac) : Prop := (∀ a ∈ l, K64 a.ky) ∧ (l = [] ∨ ∃ b off, A = some ⟨b, off, none⟩ ∧ ∀ i (hi : i < l.length) (j : Nat) u, (acA l[i])[j]? = some u → w.cell? ⟨b, off + i * 6 + j, none⟩ = some u)
theorem acts_get {w V : World} {A : Option Addr} {cap : Nat} {l : List Ac} (h : ActsAt w A cap l) (hb : Below w.heap.size w V) {m : Nat} (hm : m < l.length) :
    ∃ b off, A = some ⟨b, off, none⟩ ∧ V.cell? ⟨b, off + m * 6, none⟩ = some (.int .i64 l[m].kd) ∧ V.cell? ⟨b, off + m * 6 + 1, none⟩ = some (.int .u64 l[m].ky) ∧ V.cell? ⟨b, off + m * 6 + 2, none⟩ = some (.int .i64 l[m].cf.p) ∧
      V.cell? ⟨b, off + m * 6 + 3, none⟩ = some (.int .i64 l[m].cf.c) ∧ V.cell? ⟨b, off + m * 6 + 4, none⟩ = some (.int .i64 l[m].cf.q) ∧ V.cell? ⟨b, off + m * 6 + 5, none⟩ = some (.int .i64 l[m].cf.g) := by
  obtain ⟨_, h⟩ := h
  rcases h with rfl | ⟨b, off, rfl, h⟩
  · exact absurd hm (Nat.not_lt_zero _)
  · have g : ∀ j u, (acA l[m])[j]? = some u → V.cell? ⟨b, off + m * 6 + j, none⟩ = some u := fun j u hu => by
      have := h m hm j u hu
      rw [hb.cell (by exact Lib.lt_of_cell this)]
      exact this
    exact ⟨b, off, rfl, g 0 _ rfl, g 1 _ rfl, g 2 _ rfl, g 3 _ rfl, g 4 _ rfl, g 5 _ rfl⟩
theorem list6 {α : Type} {l : List α} (h : l.length = 6) : ∃ a0 a1 a2 a3 a4 a5, l = [a0, a1, a2, a3, a4, a5] := by
  match l, h with
  | [a0, a1, a2, a3, a4, a5], _ => exact ⟨a0, a1, a2, a3, a4, a5, rfl⟩
theorem info45 : (Try.prog.info? 45).map (·.size) = some 6 := by kernel_rfl
theorem st45n {ops : Array Oper} {rest : List Oper} {o : Oper} {a : Act} {w : World} {Q : Exit → Act → World → Prop} (hgd : o.guard = none) (x y : Operand) (ho : o.op = .store 45 x y) (p0 p1 p2 p3 p4 p5 : Int) (hx : a.eval x = .pointer (some ⟨w.heap.size, 0, none⟩)) (hy : a.eval y = .agg #[.int .i64 p0, .int .u64 p1, .int .i64 p2, .int .i64 p3, .int .i64 p4, .int .i64 p5]) (old : Array Value) (hold : old.size = 6)
    (hK : wpList Try.prog ops Q rest a (w.alloc (.cells #[.int .i64 p0, .int .u64 p1, .int .i64 p2, .int .i64 p3, .int .i64 p4, .int .i64 p5] 45))) (hd : o.dst = none := by rfl) : wpList Try.prog ops Q (o :: rest) a (w.alloc (.cells old 45)) :=
  wpList_store_row hgd 45 x y ho w.heap.size #[.int .i64 p0, .int .u64 p1, .int .i64 p2, .int .i64 p3, .int .i64 p4, .int .i64 p5] hx hy 45 old (by show (w.heap.push _)[w.heap.size]? = _; simp) info45 (by rw [hold]; rfl) (by simp [Value.oneCell']) (by rw [World.setRow_alloc_new, hd]; exact hK)
section
variable {H : Type} {enc : TypeId × Value → H} {w : World} {base : Nat} {spare : Nat → Bool} {held : Bool}
set_option maxRecDepth 100000 in
theorem open_arow {b off len cap fuel : Nat} {x : DataW H × List MemPlace} (h : DataW.trod enc Try.prog w base spare held fuel 32 [Value.slice (some ⟨b, off, none⟩) len cap] = some x) :
    ∃ l : List Ac, l.length = len ∧ (∀ a ∈ l, K64 a.ky) ∧ ∀ i (hi : i < l.length) (j : Nat) u, (acA l[i])[j]? = some u → w.cell? ⟨b, off + i * 6 + j, none⟩ = some u := by
  rcases Go.Deep.open_slice Try.underlying32 h with ⟨hcs, _⟩ | ⟨a, l, c, m, n, D, Pl, hcs, _, hl, hm, hmm, _, hel⟩
  · simp at hcs
  · simp only [List.cons.injEq, Value.slice.injEq, Option.some.injEq, and_true] at hcs
    obtain ⟨rfl, rfl, rfl⟩ := hcs
    have hml : len ≤ m := by rw [hmm]; split <;> omega
    have key : ∀ i, i < len → ∃ a : Ac, K64 a.ky ∧ ∀ (j : Nat) u, (acA a)[j]? = some u → w.cell? ⟨b, off + i * 6 + j, none⟩ = some u := by
      intro i hi
      obtain ⟨cs', hc, ht⟩ := hel i (by omega)
      rw [cells45] at hc
      obtain ⟨hlen, hcc⟩ := cell_row hc
      obtain ⟨xs, n', _, _, _, hxl, hf⟩ := DataW.trod_struct Try.underlying45 ht
      have hxl' : xs.length = 3 := hxl
      obtain ⟨v0, v1, v2, v3, v4, v5, rfl⟩ := list6 hlen
      have ex : ∀ i : Nat, i < 3 → ∃ y, xs[i]? = some y := fun i hi => ⟨_, List.getElem?_eq_getElem (by omega)⟩
      have g0 : DataW.trod enc Try.prog w base spare held n' 3 ((([v0, v1, v2, v3, v4, v5] : List Value).drop 0).take (Try.prog.cellsOf 3)) = xs[0]? := hf 0 _ rfl
      have g1 : DataW.trod enc Try.prog w base spare held n' 27 ((([v0, v1, v2, v3, v4, v5] : List Value).drop 1).take (Try.prog.cellsOf 27)) = xs[1]? := hf 1 _ rfl
      have g2 : DataW.trod enc Try.prog w base spare held n' 24 ((([v0, v1, v2, v3, v4, v5] : List Value).drop 2).take (Try.prog.cellsOf 24)) = xs[2]? := hf 2 _ rfl
      obtain ⟨y0, e0⟩ := ex 0 (by omega)
      obtain ⟨y1, e1⟩ := ex 1 (by omega)
      obtain ⟨y2, e2⟩ := ex 2 (by omega)
      rw [e0, cells3] at g0; rw [e1, cells27] at g1; rw [e2, cells24] at g2
      obtain ⟨k, hk, _, _⟩ := DataW.trod_int Try.underlying3 g0
      obtain ⟨d, hd, _, wk⟩ := DataW.trod_int Try.underlying27 g1
      have hk' : v0 = .int .i64 k := by have : ([v0] : List Value) = [.int .i64 k] := hk; cases this; rfl
      have hd' : v1 = .int .u64 d := by have : ([v1] : List Value) = [.int .u64 d] := hd; cases this; rfl
      have g2' : DataW.trod enc Try.prog w base spare held n' 24 [v2, v3, v4, v5] = some y2 := g2
      obtain ⟨zs, n2, _, _, _, hzl, hz⟩ := DataW.trod_struct Try.underlying24 g2'
      have hzl' : zs.length = 4 := hzl
      have ez : ∀ i : Nat, i < 4 → ∃ y, zs[i]? = some y := fun i hi => ⟨_, List.getElem?_eq_getElem (by omega)⟩
      have q0 : DataW.trod enc Try.prog w base spare held n2 22 ((([v2, v3, v4, v5] : List Value).drop 0).take (Try.prog.cellsOf 22)) = zs[0]? := hz 0 _ rfl
      have q1 : DataW.trod enc Try.prog w base spare held n2 3 ((([v2, v3, v4, v5] : List Value).drop 1).take (Try.prog.cellsOf 3)) = zs[1]? := hz 1 _ rfl
      have q2 : DataW.trod enc Try.prog w base spare held n2 3 ((([v2, v3, v4, v5] : List Value).drop 2).take (Try.prog.cellsOf 3)) = zs[2]? := hz 2 _ rfl
      have q3 : DataW.trod enc Try.prog w base spare held n2 3 ((([v2, v3, v4, v5] : List Value).drop 3).take (Try.prog.cellsOf 3)) = zs[3]? := hz 3 _ rfl
      obtain ⟨z0, f0⟩ := ez 0 (by omega)
      obtain ⟨z1, f1⟩ := ez 1 (by omega)
      obtain ⟨z2, f2⟩ := ez 2 (by omega)
      obtain ⟨z3, f3⟩ := ez 3 (by omega)
      rw [f0, cells22] at q0; rw [f1, cells3] at q1; rw [f2, cells3] at q2; rw [f3, cells3] at q3
      obtain ⟨p, hp, _, _⟩ := DataW.trod_int Try.underlying22 q0
      obtain ⟨c, hcc2, _, _⟩ := DataW.trod_int Try.underlying3 q1
      obtain ⟨q, hq, _, _⟩ := DataW.trod_int Try.underlying3 q2
      obtain ⟨g, hg, _, _⟩ := DataW.trod_int Try.underlying3 q3
      have hp' : v2 = .int .i64 p := by have : ([v2] : List Value) = [.int .i64 p] := hp; cases this; rfl
      have hc' : v3 = .int .i64 c := by have : ([v3] : List Value) = [.int .i64 c] := hcc2; cases this; rfl
      have hq' : v4 = .int .i64 q := by have : ([v4] : List Value) = [.int .i64 q] := hq; cases this; rfl
      have hg' : v5 = .int .i64 g := by have : ([v5] : List Value) = [.int .i64 g] := hg; cases this; rfl
      subst hk' hd' hp' hc' hq' hg'
      exact ⟨⟨k, d, ⟨p, c, q, g⟩⟩, wf_u64 wk, fun j u hu => hcc j u (by simpa using hu)⟩
    obtain ⟨l, hl2, hφ⟩ := pick_list len key
    exact ⟨l, hl2, fun p hp => by obtain ⟨i, hi, rfl⟩ := List.getElem_of_mem hp; exact (hφ i hi).1, fun i hi => (hφ i hi).2⟩
set_option maxRecDepth 100000 in
theorem open_acts {r : Reach} {b0 fuel : Nat} {v : Value} {x : DataW H × List MemPlace} (hv : Value.okWide Try.prog w r b0 32 v) (h : DataW.trod enc Try.prog w base spare held fuel 32 v.cells.toList = some x) :
    ∃ A cap l, v = .slice A l.length cap ∧ ActsAt w A cap l := by
  have hc : Cell.okWide Try.prog w r b0 32 v := by
    unfold Value.okWide at hv
    rw [Try.underlying32] at hv
    exact hv
  rcases wide_slice Try.underlying32 hc with rfl | ⟨b, off, len, cap, rfl, hle, hlt⟩
  · exact ⟨none, 0, [], rfl, ⟨(fun p hp => nomatch hp), .inl rfl⟩⟩
  · obtain ⟨l, rfl, hk, hr⟩ := open_arow h
    exact ⟨_, cap, l, rfl, ⟨hk, .inr ⟨b, off, rfl, hr⟩⟩⟩
end
end Go.Proofs.Ytejcahkkpednfaa
namespace Go.Proofs.Ytejcahkkpednfaa
open Go.RowKit
open Go.Proofs.StackM (Pg Cf Ct St up many fnd fnd_at fnd_no)
open Go.Proofs.WheelM
set_option linter.unusedVariables false
theorem spill_out (most : Int) (s : St) : (spillW most s).2.length ≤ kps s.pg := by
  induction s using spillW.induct most with
  | case1 s h2 ih =>
    rw [spillW_step h2.1 h2.2]
    have := h2.2
    simp only [List.length_cons]
    omega
  | case2 s h2 => rw [spillW, dif_neg h2]; exact Nat.zero_le _
theorem kps_len (s : St) : kps s.pg ≤ 2 * s.pg.length := by
  have h1 := many_le s.pg 1
  have h2 := many_le s.pg 2
  unfold kps
  omega
theorem admOut_len {s : St} (h : Rg s) (k : Int) : (admOutW s k).length ≤ 1000 := by
  by_cases hk : KptW s k
  · unfold admOutW; rw [if_pos hk]; exact Nat.zero_le _
  · have h1 : admOutW s k = (spillW (s.cf.c - 1) (admA s k)).2 := by unfold admOutW; rw [if_neg hk]; rfl
    rw [h1]
    have h2 := spill_out (s.cf.c - 1) (admA s k)
    have h3 := (admA_ok h hk).2.2.2.2.2.1
    have h4 := h.k
    have h5 := h.w.ck.2.1.2
    omega
theorem rszOut_len {s : St} (h : Rg s) (c : Cf) (hc : Cl c) : (rszW s c).2.length ≤ 100000 := by
  have hw0 : Ww (reS s c) := ⟨hc, by show 1 ≤ c.q ∧ c.q ≤ c.c - 1; have := hc.2.2.1; omega, h.w.nk, h.w.pk, h.w.qu, h.w.gh, h.w.hc, h.w.ht⟩
  have h1 : (rszW s c).2 = (spillW c.c (cool (reS s c))).2 := rfl
  rw [h1]
  have h2 := spill_out c.c (cool (reS s c))
  have h3 := (cool_le hw0).k
  have h4 : kps (reS s c).pg = kps s.pg := rfl
  have h5 := h.k
  have h6 := h.w.ck.2.1.2
  omega
theorem results_cct {fn : Func} {p q u : Tmp} (h : fn.results = #[.cell p 31, .cell q 31, .tmp u]) (tmps : Array Value) (w : World) (g g2 : Nat) (cs ds : Array Value)
    (hp : tmps.getD p undef = .pointer (some ⟨g, 0, none⟩)) (hq : tmps.getD q undef = .pointer (some ⟨g2, 0, none⟩)) (hg : Box w g cs) (hg2 : Box w g2 ds) : (results fn tmps).run Try.prog w = .ok (.tuple #[.agg cs, .agg ds, tmps.getD u undef]) w := by
  have hp' : tmps[p]?.getD undef = .pointer (some ⟨g, 0, none⟩) := by simpa using hp
  have hq' : tmps[q]?.getD undef = .pointer (some ⟨g2, 0, none⟩) := by simpa using hq
  simp only [results, h]
  simp [hp', hq', asAddr, hg.load, hg2.load]
/-- what an act on both tells -/
def StPost (w : World) (r1 r2 : R3) (s' : St) (e : Ending) (w' : World) : Prop :=
  ∃ r1' r2', e = .returned (.tuple #[sV s' r1', sV s' r2', .bool true]) ∧ SR w' s' r1' ∧ SR w' s' r2' ∧ Frm w.heap.size r1 r1' ∧ Frm w.heap.size r2 r2' ∧ Below w.heap.size w w'
/-- the frame: both states' boxes, one block (a config, an act), the boxes of the results -/
structure F5 (w : World) (s : St) (r1 r2 : R3) (cs : Array Value) (T : TypeId) (w1 : World) : Prop where
  b1 : Box w1 w.heap.size (sA s r1)
  b2 : Box w1 (w.heap.size + 1) (sA s r2)
  b3 : w1.heap[w.heap.size + 2]? = some (.cells cs T (0, 0))
  b4 : Box w1 (w.heap.size + 3) (sA S0 R0)
  b5 : Box w1 (w.heap.size + 4) (sA S0 R0)
  k1 : SR w1 s r1
  k2 : SR w1 s r2
  o1 : Old w.heap.size r1
  o2 : Old w.heap.size r2
  bel : Below w.heap.size w w1
  lt : w.heap.size + 5 ≤ w1.heap.size
theorem F5.keep {w w1 w2 : World} {s : St} {r1 r2 : R3} {cs : Array Value} {T : TypeId} (x : F5 w s r1 r2 cs T w1) (hb : Below w1.heap.size w1 w2) : F5 w s r1 r2 cs T w2 :=
  ⟨x.b1.kept hb x.b1.lt, x.b2.kept hb x.b2.lt, by rw [hb.block _ (Array.getElem?_eq_some_iff.1 x.b3).1]; exact x.b3, x.b4.kept hb x.b4.lt, x.b5.kept hb x.b5.lt, x.k1.kept hb, x.k2.kept hb, x.o1, x.o2, x.bel.trans (hb.mono x.bel.size), Nat.le_trans x.lt hb.size⟩
theorem F5.start {w : World} {s : St} {r1 r2 : R3} (cs : Array Value) (T : TypeId) (h1 : SR w s r1) (h2 : SR w s r2) : F5 w s r1 r2 cs T (((((w.alloc (.cells (sA s r1) 31)).alloc (.cells (sA s r2) 31)).alloc (.cells cs T)).alloc (.cells (sA S0 R0) 31)).alloc (.cells (sA S0 R0) 31)) := by
  obtain ⟨wa, ha⟩ : ∃ x, x = w.alloc (.cells (sA s r1) 31) := ⟨_, rfl⟩
  obtain ⟨wb, hb⟩ : ∃ x, x = wa.alloc (.cells (sA s r2) 31) := ⟨_, rfl⟩
  obtain ⟨wc, hc⟩ : ∃ x, x = wb.alloc (.cells cs T) := ⟨_, rfl⟩
  obtain ⟨wd, hd⟩ : ∃ x, x = wc.alloc (.cells (sA S0 R0) 31) := ⟨_, rfl⟩
  obtain ⟨we, he⟩ : ∃ x, x = wd.alloc (.cells (sA S0 R0) 31) := ⟨_, rfl⟩
  have ka : Below w.heap.size w wa := by rw [ha]; exact alloc_below _ _
  have kb : Below wa.heap.size wa wb := by rw [hb]; exact alloc_below _ _
  have kc : Below wb.heap.size wb wc := by rw [hc]; exact alloc_below _ _
  have kd : Below wc.heap.size wc wd := by rw [hd]; exact alloc_below _ _
  have ke : Below wd.heap.size wd we := by rw [he]; exact alloc_below _ _
  have sa : wa.heap.size = w.heap.size + 1 := by rw [ha]; simp
  have sb : wb.heap.size = w.heap.size + 2 := by rw [hb]; simp [sa]
  have sc : wc.heap.size = w.heap.size + 3 := by rw [hc]; simp [sb]
  have sd : wd.heap.size = w.heap.size + 4 := by rw [hd]; simp [sc]
  have se : we.heap.size = w.heap.size + 5 := by rw [he]; simp [sd]
  have q1 : Box wa w.heap.size (sA s r1) := by rw [ha]; exact box_alloc w _ (sA_len _ _)
  have q2 : Box wb (w.heap.size + 1) (sA s r2) := by rw [hb, ← sa]; exact box_alloc wa _ (sA_len _ _)
  have q3 : wc.heap[w.heap.size + 2]? = some (.cells cs T (0, 0)) := by rw [hc, ← sb]; exact heap_alloc_new wb _
  have q4 : Box wd (w.heap.size + 3) (sA S0 R0) := by rw [hd, ← sc]; exact box_alloc wc _ (sA_len _ _)
  have q5 : Box we (w.heap.size + 4) (sA S0 R0) := by rw [he, ← sd]; exact box_alloc wd _ (sA_len _ _)
  have kbe : Below wb.heap.size wb we := (kc.trans (kd.mono kc.size)).trans (ke.mono (Nat.le_trans kc.size kd.size))
  have kae : Below wa.heap.size wa we := kb.trans (kbe.mono kb.size)
  have kce : Below wc.heap.size wc we := kd.trans (ke.mono kd.size)
  have kwe : Below w.heap.size w we := ka.trans (kae.mono ka.size)
  rw [← ha, ← hb, ← hc, ← hd, ← he]
  exact ⟨q1.kept kae (by omega), q2.kept kbe (by omega), by rw [kce.block _ (by omega)]; exact q3, q4.kept ke (by omega), q5, h1.kept kwe, h2.kept kwe, h1.old, h2.old, kwe, by omega⟩
/-- both results are laid, and it tells true -/
theorem F5.fin {w w1 : World} {s s' : St} {r1 r2 r1' r2' : R3} {cs : Array Value} {T : TypeId} (x : F5 w s r1 r2 cs T w1) (h1 : SR w1 s' r1') (h2 : SR w1 s' r2') (f1 : Frm (w.heap.size + 5) r1 r1') (f2 : Frm (w.heap.size + 5) r2 r2') :
    StPost w r1 r2 s' (.returned (.tuple #[sV s' r1', sV s' r2', .bool true])) ((w1.setRow (w.heap.size + 3) (sA s' r1')).setRow (w.heap.size + 4) (sA s' r2')) := by
  have a1 := x.o1.ap (b := w.heap.size + 3) (by omega)
  have a2 := x.o1.ap (b := w.heap.size + 4) (by omega)
  have c1 := x.o2.ap (b := w.heap.size + 3) (by omega)
  have c2 := x.o2.ap (b := w.heap.size + 4) (by omega)
  exact ⟨r1', r2', rfl, (h1.apRow (a1.frm (t := w.heap.size + 5) f1 (by omega))).apRow (a2.frm (t := w.heap.size + 5) f1 (by omega)), (h2.apRow (c1.frm (t := w.heap.size + 5) f2 (by omega))).apRow (c2.frm (t := w.heap.size + 5) f2 (by omega)), f1.weak (by omega), f2.weak (by omega), below_setRow (below_setRow x.bel (by omega)) (by omega)⟩
theorem F5.box4 {w w1 : World} {s : St} {r1 r2 : R3} {cs ds : Array Value} {T : TypeId} (x : F5 w s r1 r2 cs T w1) : Box (w1.setRow (w.heap.size + 3) ds) (w.heap.size + 4) (sA S0 R0) := x.b5.other (by omega) _
theorem F5.res {w w1 : World} {s : St} {r1 r2 : R3} {cs ds es : Array Value} {T : TypeId} (x : F5 w s r1 r2 cs T w1) (hd : ds.size = 20) (he : es.size = 20) : Box ((w1.setRow (w.heap.size + 3) ds).setRow (w.heap.size + 4) es) (w.heap.size + 3) ds ∧ Box ((w1.setRow (w.heap.size + 3) ds).setRow (w.heap.size + 4) es) (w.heap.size + 4) es :=
  ⟨(x.b4.rowSet hd).other (by omega) _, x.box4.rowSet he⟩
theorem frm_add {w1 w : World} {r r' : R3} {n : Nat} (h : Frm w1.heap.size r r') (hw : w.heap.size + n ≤ w1.heap.size) : Frm (w.heap.size + n) r r' := h.weak hw
set_option maxHeartbeats 2000000 in
set_option maxRecDepth 100000 in
theorem lawResize_at (s : St) (r1 r2 : R3) (c : Cf) (hrg : Rg s) (hk : Kw s) (w : World) (hr1 : SR w s r1) (hr2 : SR w s r2) : Calls Try.prog 45 #[sV s r1, sV s r2, cV c] w (StPost w r1 r2 (if Cl c then resizeW s c else s)) := by
  obtain ⟨w1, hw1⟩ : ∃ w1, w1 = ((((w.alloc (.cells (sA s r1) 31)).alloc (.cells (sA s r2) 31)).alloc (.cells (cA c) 24)).alloc (.cells (sA S0 R0) 31)).alloc (.cells (sA S0 R0) 31) := ⟨_, rfl⟩
  have x1 := F5.start (cA c) 24 hr1 hr2
  rw [← hw1] at x1
  have hA : ((((w.alloc (.cells (sA s r1) 31)).alloc (.cells (sA s r2) 31)).alloc (.cells #[.int .i64 c.p, .int .i64 c.c, .int .i64 c.q, .int .i64 c.g] 24)).alloc (.cells #[.int .i64 0, .int .i64 0, .int .i64 0, .int .i64 0, .int .i64 0, .slice none 0 0, .slice none 0 0, .slice none 0 0, .int .i64 0, .int .i64 0, .int .u64 0, .int .u64 0, .int .u64 0, .int .u64 0, .int .u64 0, .int .u64 0, .int .u64 0, .int .u64 0, .int .u64 0, .int .u64 0] 31)).alloc (.cells #[.int .i64 0, .int .i64 0, .int .i64 0, .int .i64 0, .int .i64 0, .slice none 0 0, .slice none 0 0, .slice none 0 0, .int .i64 0, .int .i64 0, .int .u64 0, .int .u64 0, .int .u64 0, .int .u64 0, .int .u64 0, .int .u64 0, .int .u64 0, .int .u64 0, .int .u64 0, .int .u64 0] 31) = w1 := hw1.symm
  have HA := Lib.hid hA
  have H1 := Lib.hid x1
  clear hw1 x1 hA hr1 hr2
  have HR := Lib.hid (And.intro hrg hk)
  obtain ⟨z, hz⟩ : ∃ z, z = if Cl c then resizeW s c else s := ⟨_, rfl⟩
  rw [← hz]
  have HZ := Lib.hid hz
  clear hrg hk hz
  show Calls Try.prog 45 #[sV s r1, sV s r2, cV c] w fun e w' => StPost w r1 r2 z e w'
  go_enter Try.func45, Try.ntmps45
  go_wp2_with (first | fail | (rw [HA.out]; refine ld31 rfl (.tmp 3) rfl _ rfl _ H1.out.b1 ?_) | refine CB.load rfl (.tmp 5) rfl _ rfl c H1.out.b3 ?_)
  by_cases hc : Cl c
  case neg =>
    have HZ2 : Hid (z = s) := Lib.hid (by rw [HZ.out, if_neg hc])
    refine (presize_cfg s r1 c HR.out.1 (rg_lim' HR.out.1) HR.out.2 w1 H1.out.k1 hc).mono ?_
    rintro e w2 ⟨r3, A3, n3, cc3, rfl, hn3, hr3, hu3, hA3, hf3, hb3⟩
    obtain rfl : n3 = 0 := hn3
    obtain ⟨w4, hw4⟩ : ∃ w4, w4 = w2.alloc (.cells (sA s r3) 31) := ⟨_, rfl⟩
    obtain ⟨b9, hb9⟩ : ∃ b, b = w2.heap.size := ⟨_, rfl⟩
    have hb24 : Below w2.heap.size w2 w4 := by rw [hw4]; exact alloc_below _ _
    have H4 : Hid (F5 w s r1 r2 (cA c) 24 w4 ∧ Box w4 b9 (sA s r3) ∧ SR w4 s r3 ∧ Frm (w.heap.size + 5) r1 r3 ∧ w.heap.size + 5 ≤ b9) := Lib.hid ⟨(H1.out.keep hb3).keep hb24, by rw [hw4, hb9]; exact box_alloc w2 _ (sA_len _ _), hr3.kept hb24, hf3.weak H1.out.lt, by rw [hb9]; exact Nat.le_trans H1.out.lt hb3.size⟩
    have HW4 := Lib.hid (And.intro hw4 hb9)
    clear hw4 hb9 hb24 hb3 hf3 hA3 hu3 hr3 H1 HA
    go_wp2_with (first | fail | (refine st31n rfl (.tmp 9) (.tmp 18) rfl s r3 rfl rfl _ rfl ?_; rw [← HW4.out.1, ← HW4.out.2]) | refine CB.load rfl (.tmp 5) rfl _ rfl c H4.out.1.b3 ?_)
    refine Calls.mono (lawMay_cl c false ⟨(fun h => nomatch h), fun h => (hc h).elim⟩ w4) ?_
    rintro e w5 ⟨rfl, hb5⟩
    have H5 : Hid (F5 w s r1 r2 (cA c) 24 w5 ∧ Box w5 b9 (sA s r3) ∧ SR w5 s r3 ∧ Frm (w.heap.size + 5) r1 r3 ∧ w.heap.size + 5 ≤ b9) := Lib.hid ⟨H4.out.1.keep hb5, H4.out.2.1.kept hb5 H4.out.2.1.lt, H4.out.2.2.1.kept hb5, H4.out.2.2.2⟩
    clear hb5 H4 HW4
    go_wp2_with fail
    have hbd : Below w5.heap.size w5 w5.drew := below_drew (Below.refl _ _) 1
    have HD : Hid (F5 w s r1 r2 (cA c) 24 w5.drew ∧ Box w5.drew b9 (sA s r3) ∧ SR w5.drew s r3 ∧ Frm (w.heap.size + 5) r1 r3 ∧ w.heap.size + 5 ≤ b9) := Lib.hid ⟨H5.out.1.keep hbd, H5.out.2.1.kept hbd H5.out.2.1.lt, H5.out.2.2.1.kept hbd, H5.out.2.2.2⟩
    clear hbd H5
    refine wp_region_held_drew (S := fun V => Box V b9 (sA s r3) ∧ Box V (w.heap.size + 1) (sA s r2)) (by kernel_rfl) ⟨HD.out.2.1, HD.out.1.b2⟩ (fun hHeld => ?_)
    generalize World.drew w5 = wd at hHeld HD ⊢
    refine wpAnyH_take (i := 0) (v := ?tval1) (by simp only [get_laws]; rfl) (by kernel_rfl) (by kernel_rfl) (by kernel_rfl) (by intro _ _ _ h; exact h) (Or.inl ⟨by rfl, ?teq1⟩) (by assumption) ?trest1
    case teq1 => (intro w0 q; refine exec31 (.tmp 9) ?_ ?_ q.1 <;> rfl)
    try simp only [put_laws]
    refine wpAnyH_take (i := 1) (v := ?tval2) (by simp only [get_laws]; rfl) (by kernel_rfl) (by kernel_rfl) (by kernel_rfl) (by intro _ _ _ h; exact h) (Or.inl ⟨by rfl, ?teq2⟩) (by assumption) ?trest2
    case teq2 => (intro w0 q; refine exec31 (.tmp 4) ?_ ?_ q.2 <;> rfl)
    try simp only [put_laws]
    refine wpAnyH_take (i := 2) (v := ?tval3) (by simp only [get_laws]; rfl) (by kernel_rfl) (by kernel_rfl) (by kernel_rfl) (by intro _ _ _ h; exact h) (Or.inl ⟨by rfl, ?teq3⟩) (by assumption) ?trest3
    case teq3 => (intro w0 _; go_simp; with_reducible rfl)
    try simp only [put_laws]
    refine wpAnyH_take (i := 3) (v := ?tval4) (by simp only [get_laws]; rfl) (by kernel_rfl) (by kernel_rfl) (by kernel_rfl) (by intro _ _ _ h; exact h) (Or.inl ⟨by rfl, ?teq4⟩) (by assumption) ?trest4
    case teq4 => (intro w0 _; go_simp; with_reducible rfl)
    try simp only [put_laws]
    refine wpAnyH_take (i := 4) (v := ?tval5) (by simp only [get_laws]; rfl) (by kernel_rfl) (by kernel_rfl) (by kernel_rfl) (by intro _ _ _ h; exact h) (Or.inl ⟨by rfl, ?teq5⟩) (by assumption) ?trest5
    case teq5 => (intro w0 _; go_simp; with_reducible rfl)
    try simp only [put_laws]
    refine wpAnyH_take (i := 5) (v := ?tval6) (by simp only [get_laws]; rfl) (by kernel_rfl) (by kernel_rfl) (by kernel_rfl) (by intro _ _ _ h; exact h) (Or.inl ⟨by rfl, ?teq6⟩) (by assumption) ?trest6
    case teq6 => (intro w0 _; go_simp; with_reducible rfl)
    try simp only [put_laws]
    refine wpAnyH_take (i := 6) (v := ?tval7) (by simp only [get_laws]; rfl) (by kernel_rfl) (by kernel_rfl) (by kernel_rfl) (by intro _ _ _ h; exact h) (Or.inl ⟨by rfl, ?teq7⟩) (by assumption) ?trest7
    case teq7 => (intro w0 _; go_simp; with_reducible rfl)
    try simp only [put_laws]
    refine wpAnyH_take (i := 7) (v := ?tval8) (by simp only [get_laws]; rfl) (by kernel_rfl) (by kernel_rfl) (by kernel_rfl) (by intro _ _ _ h; exact h) (Or.inl ⟨by rfl, ?teq8⟩) (by assumption) ?trest8
    case teq8 => (intro w0 _; go_simp; with_reducible rfl)
    try simp only [put_laws]
    refine wpAnyH_take (i := 8) (v := ?tval9) (by simp only [get_laws]; rfl) (by kernel_rfl) (by kernel_rfl) (by kernel_rfl) (by intro _ _ _ h; exact h) (Or.inl ⟨by rfl, ?teq9⟩) (by assumption) ?trest9
    case teq9 => (intro w0 _; go_simp; with_reducible rfl)
    try simp only [put_laws]
    refine wpAnyH_ready (rs := [9]) (by kernel_rfl) (by simp) ?_
    refine AllReadyH.cons rfl (fun K hK => ?_) AllReadyH.nil
    refine step31 rfl (.tmp 6) (.tmp 24) rfl _ s r3 rfl rfl _ HD.out.1.b4 ?_
    refine hK.out _ _ ⟨HD.out.2.1.other (by have := HD.out.2.2.2.2; omega) _, HD.out.1.b2.other (by omega) _⟩ (fun hHeld => ?_)
    clear hK K
    try simp only [put_laws]
    refine wpAnyH_ready (rs := [10]) (by kernel_rfl) (by simp) ?_
    refine AllReadyH.cons rfl (fun K hK => ?_) AllReadyH.nil
    refine step31 rfl (.tmp 7) (.tmp 25) rfl _ s r2 rfl rfl _ HD.out.1.box4 ?_
    refine hK.out _ _ ⟨(HD.out.2.1.other (by have := HD.out.2.2.2.2; omega) _).other (by have := HD.out.2.2.2.2; omega) _, (HD.out.1.b2.other (by omega) _).other (by omega) _⟩ (fun hHeld => ?_)
    clear hK K
    try simp only [put_laws]
    refine wpAnyH_ready (rs := [11]) (by kernel_rfl) (by simp) ?_
    refine AllReadyH.cons rfl (fun K hK => ?_) AllReadyH.nil
    go_simp
    refine hK.out _ _ hHeld (fun hHeld => ?_)
    clear hK K
    try simp only [put_laws]
    refine wpAnyH_done (by kernel_rfl) ?_ _
    go_wp2_with fail
    refine bodyPost_ret (results_cct rfl _ _ _ _ _ _ rfl rfl (HD.out.1.res (sA_len _ _) (sA_len _ _)).1 (HD.out.1.res (sA_len _ _) (sA_len _ _)).2) rfl ?_
    rw [HZ2.out]
    exact HD.out.1.fin HD.out.2.2.1 HD.out.1.k2 HD.out.2.2.2.1 (Frm.refl _ _)
  case pos =>
    have HZ2 : Hid (z = resizeW s c) := Lib.hid (by rw [HZ.out, if_pos hc])
    refine (presize_yes s r1 c HR.out.1 (rg_lim' HR.out.1) HR.out.2 w1 H1.out.k1 hc).mono ?_
    rintro e w2 ⟨r3, A3, n3, cc3, rfl, hn3, hr3, hu3, hA3, hf3, hb3⟩
    obtain ⟨y, hy⟩ : ∃ y, y = resizeW s c := ⟨_, rfl⟩
    obtain ⟨out, hout⟩ : ∃ y, y = (rszW s c).2 := ⟨_, rfl⟩
    have hol : out.length ≤ 100000 := by rw [hout]; exact rszOut_len HR.out.1 c hc
    have C69 := Lib.hid (fun V (hV : SR V s r2) => resize_at s r2 c HR.out.1 hc V hV)
    rw [← hy, ← hout] at C69
    rw [← hy] at hr3 HZ2
    rw [← hout] at hn3 hu3
    rw [← hy]
    obtain ⟨w4, hw4⟩ : ∃ w4, w4 = w2.alloc (.cells (sA y r3) 31) := ⟨_, rfl⟩
    obtain ⟨b9, hb9⟩ : ∃ b, b = w2.heap.size := ⟨_, rfl⟩
    have hb24 : Below w2.heap.size w2 w4 := by rw [hw4]; exact alloc_below _ _
    have H4 : Hid (F5 w s r1 r2 (cA c) 24 w4 ∧ Box w4 b9 (sA y r3) ∧ SR w4 y r3 ∧ Frm (w.heap.size + 5) r1 r3 ∧ w.heap.size + 5 ≤ b9 ∧ UR w4 A3 cc3 out) := Lib.hid ⟨(H1.out.keep hb3).keep hb24, by rw [hw4, hb9]; exact box_alloc w2 _ (sA_len _ _), hr3.kept hb24, hf3.weak H1.out.lt, by rw [hb9]; exact Nat.le_trans H1.out.lt hb3.size, hu3.kept hb24⟩
    have HW4 := Lib.hid (And.intro hw4 hb9)
    have HO := Lib.hid (And.intro hn3 hol)
    clear hw4 hb9 hb24 hb3 hf3 hA3 hu3 hr3 hn3 hy hout hol H1 HA
    go_wp2_with (first | fail | (refine st31n rfl (.tmp 9) (.tmp 18) rfl y r3 rfl rfl _ rfl ?_; rw [← HW4.out.1, ← HW4.out.2]) | refine CB.load rfl (.tmp 5) rfl _ rfl c H4.out.1.b3 ?_)
    refine Calls.mono (lawMay_cl c true ⟨fun _ => hc, fun _ => rfl⟩ w4) ?_
    rintro e w5 ⟨rfl, hb5⟩
    have H5 : Hid (F5 w s r1 r2 (cA c) 24 w5 ∧ Box w5 b9 (sA y r3) ∧ SR w5 y r3 ∧ Frm (w.heap.size + 5) r1 r3 ∧ w.heap.size + 5 ≤ b9 ∧ UR w5 A3 cc3 out) := Lib.hid ⟨H4.out.1.keep hb5, H4.out.2.1.kept hb5 H4.out.2.1.lt, H4.out.2.2.1.kept hb5, H4.out.2.2.2.1, H4.out.2.2.2.2.1, H4.out.2.2.2.2.2.kept hb5⟩
    clear hb5 H4 HW4
    go_wp2_with (first | fail | refine ld31 rfl (.tmp 4) rfl _ rfl _ H5.out.1.b2 ?_ | refine CB.load rfl (.tmp 5) rfl _ rfl c H5.out.1.b3 ?_)
    refine (C69.out w5 H5.out.1.k2).mono ?_
    rintro e w6 ⟨r4, A4, n4, cc4, rfl, hn4, hr4, hu4, hA4, hf4, hb6⟩
    obtain ⟨w7, hw7⟩ : ∃ w7, w7 = w6.alloc (.cells (sA y r4) 31) := ⟨_, rfl⟩
    obtain ⟨b12, hb12⟩ : ∃ b, b = w6.heap.size := ⟨_, rfl⟩
    have hb67 : Below w6.heap.size w6 w7 := by rw [hw7]; exact alloc_below _ _
    have hb57 := hb6.trans (hb67.mono hb6.size)
    have H7 : Hid (F5 w s r1 r2 (cA c) 24 w7 ∧ (Box w7 b9 (sA y r3) ∧ SR w7 y r3 ∧ Frm (w.heap.size + 5) r1 r3 ∧ w.heap.size + 5 ≤ b9 ∧ UR w7 A3 cc3 out) ∧ Box w7 b12 (sA y r4) ∧ SR w7 y r4 ∧ Frm (w.heap.size + 5) r2 r4 ∧ w.heap.size + 5 ≤ b12 ∧ UR w7 A4 cc4 out) := Lib.hid ⟨H5.out.1.keep hb57, ⟨H5.out.2.1.kept hb57 H5.out.2.1.lt, H5.out.2.2.1.kept hb57, H5.out.2.2.2.1, H5.out.2.2.2.2.1, H5.out.2.2.2.2.2.kept hb57⟩, by rw [hw7, hb12]; exact box_alloc w6 _ (sA_len _ _), hr4.kept hb67, hf4.weak H5.out.1.lt, by rw [hb12]; exact Nat.le_trans H5.out.1.lt hb6.size, hu4.kept hb67⟩
    have HW7 := Lib.hid (And.intro hw7 hb12)
    have HO4 := Lib.hid hn4
    clear hw7 hb12 hb67 hb57 hb6 hf4 hA4 hu4 hr4 hn4 H5 C69
    go_wp2_with (first | fail | (refine st31n rfl (.tmp 12) (.tmp 37) rfl y r4 rfl rfl _ rfl ?_; rw [← HW7.out.1, ← HW7.out.2]))
    have hbd : Below w7.heap.size w7 w7.drew := below_drew (Below.refl _ _) 1
    have HD : Hid (F5 w s r1 r2 (cA c) 24 w7.drew ∧ (Box w7.drew b9 (sA y r3) ∧ SR w7.drew y r3 ∧ Frm (w.heap.size + 5) r1 r3 ∧ w.heap.size + 5 ≤ b9 ∧ UR w7.drew A3 cc3 out) ∧ Box w7.drew b12 (sA y r4) ∧ SR w7.drew y r4 ∧ Frm (w.heap.size + 5) r2 r4 ∧ w.heap.size + 5 ≤ b12 ∧ UR w7.drew A4 cc4 out) := Lib.hid ⟨H7.out.1.keep hbd, ⟨H7.out.2.1.1.kept hbd H7.out.2.1.1.lt, H7.out.2.1.2.1.kept hbd, H7.out.2.1.2.2.1, H7.out.2.1.2.2.2.1, H7.out.2.1.2.2.2.2.kept hbd⟩, H7.out.2.2.1.kept hbd H7.out.2.2.1.lt, H7.out.2.2.2.1.kept hbd, H7.out.2.2.2.2.1, H7.out.2.2.2.2.2.1, H7.out.2.2.2.2.2.2.kept hbd⟩
    clear hbd H7 HW7
    refine wp_region_held_drew (S := fun V => Box V b9 (sA y r3) ∧ Box V b12 (sA y r4)) (by kernel_rfl) ⟨HD.out.2.1.1, HD.out.2.2.1⟩ (fun hHeld => ?_)
    generalize World.drew w7 = wd at hHeld HD ⊢
    refine wpAnyH_take (i := 0) (v := ?tval10) (by simp only [get_laws]; rfl) (by kernel_rfl) (by kernel_rfl) (by kernel_rfl) (by intro _ _ _ h; exact h) (Or.inl ⟨by rfl, ?teq10⟩) (by assumption) ?trest10
    case teq10 => (intro w0 q; refine exec31 (.tmp 9) ?_ ?_ q.1 <;> rfl)
    try simp only [put_laws]
    refine wpAnyH_take (i := 1) (v := ?tval11) (by simp only [get_laws]; rfl) (by kernel_rfl) (by kernel_rfl) (by kernel_rfl) (by intro _ _ _ h; exact h) (Or.inl ⟨by rfl, ?teq11⟩) (by assumption) ?trest11
    case teq11 => (intro w0 q; refine exec31 (.tmp 12) ?_ ?_ q.2 <;> rfl)
    try simp only [put_laws]
    refine wpAnyH_take (i := 2) (v := ?tval12) (by simp only [get_laws]; rfl) (by kernel_rfl) (by kernel_rfl) (by kernel_rfl) (by intro _ _ _ h; exact h) (Or.inl ⟨by rfl, ?teq12⟩) (by assumption) ?trest12
    case teq12 => (intro w0 _; go_simp; with_reducible rfl)
    try simp only [put_laws]
    refine wpAnyH_take (i := 3) (v := ?tval13) (by simp only [get_laws]; rfl) (by kernel_rfl) (by kernel_rfl) (by kernel_rfl) (by intro _ _ _ h; exact h) (Or.inl ⟨by rfl, ?teq13⟩) (by assumption) ?trest13
    case teq13 => (intro w0 _; go_simp; with_reducible rfl)
    try simp only [put_laws]
    refine wpAnyH_take (i := 4) (v := ?tval14) (by simp only [get_laws]; rfl) (by kernel_rfl) (by kernel_rfl) (by kernel_rfl) (by intro _ _ _ h; exact h) (Or.inl ⟨by rfl, ?teq14⟩) (by assumption) ?trest14
    case teq14 => (intro w0 _; go_simp; with_reducible rfl)
    try simp only [put_laws]
    refine wpAnyH_take (i := 5) (v := ?tval15) (by simp only [get_laws]; rfl) (by kernel_rfl) (by kernel_rfl) (by kernel_rfl) (by intro _ _ _ h; exact h) (Or.inl ⟨by rfl, ?teq15⟩) (by assumption) ?trest15
    case teq15 => (intro w0 _; go_simp; with_reducible rfl)
    try simp only [put_laws]
    refine wpAnyH_take (i := 6) (v := ?tval16) (by simp only [get_laws]; rfl) (by kernel_rfl) (by kernel_rfl) (by kernel_rfl) (by intro _ _ _ h; exact h) (Or.inl ⟨by rfl, ?teq16⟩) (by assumption) ?trest16
    case teq16 => (intro w0 _; go_simp; with_reducible rfl)
    try simp only [put_laws]
    refine wpAnyH_ready (rs := [7]) (by kernel_rfl) (by simp) ?_
    refine AllReadyH.cons rfl (fun K hK => ?_) AllReadyH.nil
    have HS2 := Lib.hid (same_at out out A3 A4 n3 n4 cc3 cc4 HO.out.1 HO4.out (by have := HO.out.1; have := HO.out.2; omega) (by have := HO4.out; have := HO.out.2; omega) wd HD.out.2.1.2.2.2.2.row HD.out.2.2.2.2.2.2.row)
    go_simp
    refine HS2.out.mono ?_
    rintro e ws ⟨rfl, hbs⟩
    rw [decide_eq_true (rfl : out = out)]
    have HE : Hid (F5 w s r1 r2 (cA c) 24 ws ∧ (Box ws b9 (sA y r3) ∧ SR ws y r3 ∧ Frm (w.heap.size + 5) r1 r3 ∧ w.heap.size + 5 ≤ b9 ∧ UR ws A3 cc3 out) ∧ Box ws b12 (sA y r4) ∧ SR ws y r4 ∧ Frm (w.heap.size + 5) r2 r4 ∧ w.heap.size + 5 ≤ b12 ∧ UR ws A4 cc4 out) := Lib.hid ⟨HD.out.1.keep hbs, ⟨HD.out.2.1.1.kept hbs HD.out.2.1.1.lt, HD.out.2.1.2.1.kept hbs, HD.out.2.1.2.2.1, HD.out.2.1.2.2.2.1, HD.out.2.1.2.2.2.2.kept hbs⟩, HD.out.2.2.1.kept hbs HD.out.2.2.1.lt, HD.out.2.2.2.1.kept hbs, HD.out.2.2.2.2.1, HD.out.2.2.2.2.2.1, HD.out.2.2.2.2.2.2.kept hbs⟩
    refine hK.out _ _ ⟨HE.out.2.1.1, HE.out.2.2.1⟩ (fun hHeld => ?_)
    clear hK K HD HS2 hbs
    obtain ⟨wd, rfl⟩ : ∃ wd, wd = ws := ⟨_, rfl⟩
    have HD := HE
    clear HE
    try simp only [put_laws]
    refine wpAnyH_take (i := 8) (v := ?tval17) (by simp only [get_laws]; rfl) (by kernel_rfl) (by kernel_rfl) (by kernel_rfl) (by intro _ _ _ h; exact h) (Or.inl ⟨by rfl, ?teq17⟩) (by assumption) ?trest17
    case teq17 => (intro w0 _; go_simp; with_reducible rfl)
    try simp only [put_laws]
    refine wpAnyH_ready (rs := [9]) (by kernel_rfl) (by simp) ?_
    refine AllReadyH.cons rfl (fun K hK => ?_) AllReadyH.nil
    refine step31 rfl (.tmp 6) (.tmp 39) rfl _ y r3 rfl rfl _ HD.out.1.b4 ?_
    refine hK.out _ _ ⟨HD.out.2.1.1.other (by have := HD.out.2.1.2.2.2.1; omega) _, HD.out.2.2.1.other (by have := HD.out.2.2.2.2.2.1; omega) _⟩ (fun hHeld => ?_)
    clear hK K
    try simp only [put_laws]
    refine wpAnyH_ready (rs := [10]) (by kernel_rfl) (by simp) ?_
    refine AllReadyH.cons rfl (fun K hK => ?_) AllReadyH.nil
    refine step31 rfl (.tmp 7) (.tmp 40) rfl _ y r4 rfl rfl _ HD.out.1.box4 ?_
    refine hK.out _ _ ⟨(HD.out.2.1.1.other (by have := HD.out.2.1.2.2.2.1; omega) _).other (by have := HD.out.2.1.2.2.2.1; omega) _, (HD.out.2.2.1.other (by have := HD.out.2.2.2.2.2.1; omega) _).other (by have := HD.out.2.2.2.2.2.1; omega) _⟩ (fun hHeld => ?_)
    clear hK K
    try simp only [put_laws]
    refine wpAnyH_ready (rs := [11]) (by kernel_rfl) (by simp) ?_
    refine AllReadyH.cons rfl (fun K hK => ?_) AllReadyH.nil
    go_simp
    refine hK.out _ _ hHeld (fun hHeld => ?_)
    clear hK K
    try simp only [put_laws]
    refine wpAnyH_done (by kernel_rfl) ?_ _
    go_wp2_with fail
    refine bodyPost_ret (results_cct rfl _ _ _ _ _ _ rfl rfl (HD.out.1.res (sA_len _ _) (sA_len _ _)).1 (HD.out.1.res (sA_len _ _) (sA_len _ _)).2) rfl ?_
    rw [HZ2.out]
    exact HD.out.1.fin HD.out.2.1.2.1 HD.out.2.2.2.1 HD.out.2.1.2.2.1 HD.out.2.2.2.2.1
end Go.Proofs.Ytejcahkkpednfaa
