/-
  The ring: a page is reclaimed.
-/
import Derived.Test.YtejcahkkpednfaaG09
namespace Go.Proofs.Ytejcahkkpednfaa
open Go.RowKit
open Go.Proofs.StackM (Pg Cf Ct St up many fnd fnd_at fnd_no)
open Go.Proofs.WheelM
set_option linter.unusedVariables false
/-- what reclaim tells: a state and a key -/
def rA (s : St) (r : R3) (k : Int) : Array Value := (sA s r).push (.int .u64 k)
theorem rA_len (s : St) (r : R3) (k : Int) : (rA s r k).size = 21 := rfl
theorem rA_one (s : St) (r : R3) (k : Int) : ((rA s r k).all fun x => x.oneCell') = true := by simp [rA, sA, Value.oneCell']
def B81 (w : World) (b : Nat) (cs : Array Value) : Prop := w.heap[b]? = some (.cells cs 102 (0, 0)) ∧ cs.size = 21
theorem B81.lt {w : World} {b : Nat} {cs : Array Value} (h : B81 w b cs) : b < w.heap.size := (Array.getElem?_eq_some_iff.1 h.1).1
theorem B81.kept {w w' : World} {b B : Nat} {cs : Array Value} (h : B81 w b cs) (hb : Below B w w') (hB : b < B) : B81 w' b cs := ⟨by rw [hb.block b hB]; exact h.1, h.2⟩
theorem B81.rowSet {w : World} {b : Nat} {cs ds : Array Value} (h : B81 w b cs) (hd : ds.size = 21) : B81 (w.setRow b ds) b ds := by
  refine ⟨?_, hd⟩
  simp only [World.setRow, Array.getElem?_modify, ↓reduceIte, h.1, Option.map_some]
theorem info81 : (Try.prog.info? 102).map (·.size) = some 21 := by kernel_rfl
theorem bld81run (s : St) (r : R3) (k : Int) (w : World) : (Instr.build 102 #[(0, sV s r), (1, .int .u64 k)]).run Try.prog w = .ok (.agg (rA s r k)) w := by
  simp [go_sem, Instr.build, Instr.fill, sA, rA, Result.andThen]
theorem bld81 {ops : Array Oper} {rest : List Oper} {o : Oper} {a : Act} {w : World} {Q : Exit → Act → World → Prop} (hg : o.guard = none) (x y : Operand) (ho : o.op = .build 102 #[(0, x), (1, y)]) (s : St) (r : R3) (k : Int) (hx : a.eval x = sV s r) (hy : a.eval y = .int .u64 k)
    (hK : wpList Try.prog ops Q rest (a.put o.dst (.agg (rA s r k))) w) : wpList Try.prog ops Q (o :: rest) a w := by
  refine wpList_plain hg fun K h => ?_
  unfold Oper.wp
  have := bld81run s r k w
  simp [execOp, ho, hx, hy, this]
  exact h _ _ hK
theorem exec81 {o : Oper} {a : Act} {w : World} (x y : Operand) (ho : o.op = .build 102 #[(0, x), (1, y)]) (s : St) (r : R3) (k : Int) (hx : a.eval x = sV s r) (hy : a.eval y = .int .u64 k) : (execOp a.eval o).run Try.prog w = .ok (.value (.agg (rA s r k))) w := by
  have := bld81run s r k w
  simp [execOp, ho, hx, hy, this]
theorem st81 {ops : Array Oper} {rest : List Oper} {o : Oper} {a : Act} {w : World} {Q : Exit → Act → World → Prop} (hgd : o.guard = none) (x y : Operand) (ho : o.op = .store 102 x y) (g : Nat) (s : St) (r : R3) (k : Int) (hx : a.eval x = .pointer (some ⟨g, 0, none⟩)) (hy : a.eval y = .agg (rA s r k)) (cs : Array Value) (h : B81 w g cs)
    (hK : wpList Try.prog ops Q rest a (w.setRow g (rA s r k))) (hd : o.dst = none := by rfl) : wpList Try.prog ops Q (o :: rest) a w :=
  wpList_store_row hgd 102 x y ho g (rA s r k) hx hy 102 cs h.1 (by rw [rA_len]; exact info81) (by rw [rA_len, h.2]) (rA_one s r k) (by rw [hd]; exact hK)
theorem step81 {ops : Array Oper} {o : Oper} {a : Act} {w : World} {K : Act → World → Prop} {Q : Exit → Act → World → Prop} {E : Prop} (hgd : o.guard = none) (x y : Operand) (ho : o.op = .store 102 x y) (g : Nat) (s : St) (r : R3) (k : Int) (hx : a.eval x = .pointer (some ⟨g, 0, none⟩)) (hy : a.eval y = .agg (rA s r k)) (cs : Array Value) (h : B81 w g cs)
    (hK : K a (w.setRow g (rA s r k))) (hd : o.dst = none := by rfl) : if Region.wanted o (yielded ops a.tmps) = true then Oper.wp Try.prog o a w K Q else E := by
  have hw : Region.wanted o (yielded ops a.tmps) = true := by simp [Region.wanted, hgd]
  rw [if_pos hw]
  exact wp_store_row 102 x y ho g (rA s r k) hx hy 102 cs h.1 (by rw [rA_len]; exact info81) (by rw [rA_len, h.2]) (rA_one s r k) (by rw [hd]; exact hK)
theorem results_rc {fn : Func} {p : Tmp} (h : fn.results = #[.cell p 102]) (tmps : Array Value) (w : World) (g : Nat) (cs : Array Value)
    (hp : tmps.getD p undef = .pointer (some ⟨g, 0, none⟩)) (hg : B81 w g cs) : (results fn tmps).run Try.prog w = .ok (.agg cs) w := by
  have hp' : tmps[p]?.getD undef = .pointer (some ⟨g, 0, none⟩) := by simpa using hp
  have hl : (loadVar 102 ⟨g, 0, none⟩).run Try.prog w = .ok (.agg cs) w := run_loadVar_row (P := Try.prog) w g 102 102 cs (0, 0) _ hg.1 Try.underlying102 rfl (by rw [hg.2]; kernel_rfl)
  simp only [results, h]
  simp [hp', asAddr, hl]
def RPost (w : World) (r : R3) (s' : St) (k : Int) (e : Ending) (w' : World) : Prop := ∃ r', e = .returned (.agg (rA s' r' k)) ∧ SR w' s' r' ∧ Frm w.heap.size r r' ∧ Below w.heap.size w w'
/-- the result's block -/
def R81 (w : World) (b : Nat) : Prop := ∃ cs, B81 w b cs
theorem R81.lt {w : World} {b : Nat} (h : R81 w b) : b < w.heap.size := by obtain ⟨cs, h⟩ := h; exact h.lt
theorem R81.kept {w w' : World} {b B : Nat} (h : R81 w b) (hb : Below B w w') (hB : b < B) : R81 w' b := by obtain ⟨cs, h⟩ := h; exact ⟨cs, h.kept hb hB⟩
theorem R81.cellOther {w : World} {b : Nat} {p : Addr} {v : Value} (h : R81 w b) (hne : b ≠ p.block) : R81 (w.setCell p v) b := by obtain ⟨cs, h⟩ := h; exact ⟨cs, by rw [Below.heap_setCell w p v b hne]; exact h.1, h.2⟩
theorem R81.other {w : World} {b g : Nat} (h : R81 w b) (hne : g ≠ b) (ds : Array Value) : R81 (w.setRow g ds) b := by
  obtain ⟨cs, h⟩ := h
  refine ⟨cs, ?_, h.2⟩
  simp only [World.setRow, Array.getElem?_modify]
  rw [if_neg hne]
  exact h.1
structure FR (w : World) (r0 : R3) (w' : World) (s : St) (r : R3) : Prop where
  fr : Fr w (w.heap.size + 2) r0 w' w.heap.size s r
  res : R81 w' (w.heap.size + 1)
section
variable {w w1 w2 : World} {r0 r : R3} {s : St}
theorem FR.keep (x : FR w r0 w1 s r) (hb : Below w1.heap.size w1 w2) : FR w r0 w2 s r := ⟨x.fr.keep hb, x.res.kept hb x.res.lt⟩
theorem FR.cellset (x : FR w r0 w1 s r) {k : Nat} {v : Value} {s' : St} {r' : R3} (y : Fr w (w.heap.size + 2) r0 (w1.setCell ⟨w.heap.size, k, none⟩ v) w.heap.size s' r') : FR w r0 (w1.setCell ⟨w.heap.size, k, none⟩ v) s' r' := ⟨y, x.res.cellOther (by simp)⟩
theorem FR.setAll (x : FR w r0 w1 s r) {s' : St} {r' : R3} (hr : SR w1 s' r') (hf : Frm (w.heap.size + 2) r0 r') : FR w r0 (w1.setRow w.heap.size (sA s' r')) s' r' := ⟨x.fr.setAll hr hf, x.res.other (by omega) _⟩
theorem FR.setCo (x : FR w r0 w1 s r) (a : Int) : FR w r0 (w1.setCell ⟨w.heap.size, 8, none⟩ (.int .i64 a)) { s with co := a } r := x.cellset (x.fr.set 8 _ _ r rfl ⟨x.fr.rows.pg, x.fr.rows.qu, x.fr.rows.gh⟩ x.fr.frm)
theorem FR.start {s : St} {r : R3} (h : SR w s r) (cs : Array Value) (hc : cs.size = 21) : FR w r ((w.alloc (.cells (sA s r) 31)).alloc (.cells cs 102)) s r :=
  ⟨Fr.start h _, cs, by
    refine ⟨?_, hc⟩
    rw [show w.heap.size + 1 = (w.alloc (.cells (sA s r) 31)).heap.size from by simp]
    exact heap_alloc_new _ _⟩
theorem FR.ret (x : FR w r0 w1 s r) {s' : St} {r' : R3} {k : Int} (hr : SR w1 s' r') (hf : Frm (w.heap.size + 2) r0 r') {e : Ending} (he : e = .returned (.agg (rA s' r' k))) : RPost w r0 s' k e (w1.setRow (w.heap.size + 1) (rA s' r' k)) :=
  ⟨r', he, sr_row hr hf x.fr.old (by omega) (by omega) _, hf.weak (by omega), below_setRow x.fr.bel (by omega)⟩
end
/-- the frame of reclaim with a page's block beside it -/
structure FT (w : World) (r0 : R3) (w' : World) (s : St) (r : R3) (pb : Nat) (p : Pg) : Prop where
  f : FR w r0 w' s r
  b : PB w' pb p
  up : w.heap.size + 2 ≤ pb
  n1 : ∀ a, r.a1 = some a → a.block ≠ pb
  n2 : ∀ a, r.a2 = some a → a.block ≠ pb
  n3 : ∀ a, r.a3 = some a → a.block ≠ pb
section
variable {w w1 w2 : World} {r0 r : R3} {s : St} {pb : Nat} {p : Pg}
theorem FT.start (x : FR w r0 w1 s r) (p : Pg) : FT w r0 (w1.alloc (.cells #[.int .u64 p.key, .int .i64 p.kind, .bool p.test, .bool p.mark] 58)) s r w1.heap.size p :=
  ⟨x.keep (alloc_below _ _), heap_alloc_new _ _, x.fr.hi, fun a e => by have := x.fr.rows.pg.lt a e; omega, fun a e => by have := x.fr.rows.qu.lt a e; omega, fun a e => by have := x.fr.rows.gh.lt a e; omega⟩
/-- a cell of the state is set -/
theorem FT.cell (x : FT w r0 w1 s r pb p) (k : Nat) (v : Value) (s' : St) (he : (sA s r).setIfInBounds k v = sA s' r) (e1 : s'.pg = s.pg) (e2 : s'.qu = s.qu) (e3 : s'.gh = s.gh) : FT w r0 (w1.setCell ⟨w.heap.size, k, none⟩ v) s' r pb p :=
  ⟨x.f.cellset (x.f.fr.set k v s' r he ⟨by rw [e1]; exact x.f.fr.rows.pg, by rw [e2]; exact x.f.fr.rows.qu, by rw [e3]; exact x.f.fr.rows.gh⟩ x.f.fr.frm), by
    unfold PB
    rw [Below.heap_setCell w1 ⟨w.heap.size, k, none⟩ v pb (by have := x.up; show pb ≠ w.heap.size; omega)]
    exact x.b, x.up, x.n1, x.n2, x.n3⟩
/-- a cell of the page is set -/
theorem FT.page (x : FT w r0 w1 s r pb p) (k : Nat) (v : Value) (p' : Pg) (he : (#[Value.int .u64 p.key, .int .i64 p.kind, .bool p.test, .bool p.mark]).setIfInBounds k v = #[.int .u64 p'.key, .int .i64 p'.kind, .bool p'.test, .bool p'.mark]) : FT w r0 (w1.setCell ⟨pb, k, none⟩ v) s r pb p' := by
  have hs : (w1.setCell ⟨pb, k, none⟩ v).heap.size = w1.heap.size := by simp [World.setCell]
  have hup := x.up
  refine ⟨⟨⟨x.f.fr.box.cellOther (by show w.heap.size ≠ pb; omega), ⟨⟨vrow_set x.f.fr.rows.pg.row x.n1, fun a e => by rw [hs]; exact x.f.fr.rows.pg.lt a e, x.f.fr.rows.pg.le⟩, ⟨vrow_set x.f.fr.rows.qu.row x.n2, fun a e => by rw [hs]; exact x.f.fr.rows.qu.lt a e, x.f.fr.rows.qu.le⟩, ⟨vrow_set x.f.fr.rows.gh.row x.n3, fun a e => by rw [hs]; exact x.f.fr.rows.gh.lt a e, x.f.fr.rows.gh.le⟩⟩, x.f.fr.frm, x.f.fr.old, below_setCell x.f.fr.bel (by omega), x.f.fr.lo, x.f.fr.up, by rw [hs]; exact x.f.fr.hi⟩, x.f.res.cellOther (by show w.heap.size + 1 ≠ pb; omega)⟩, ?_, x.up, x.n1, x.n2, x.n3⟩
  have hb := x.b
  unfold PB at hb ⊢
  simp only [World.setCell, Array.getElem?_modify, ↓reduceIte, hb, Option.map_some]
  rw [← he]
  rfl
theorem FT.keep (x : FT w r0 w1 s r pb p) (hb : Below w1.heap.size w1 w2) : FT w r0 w2 s r pb p := ⟨x.f.keep hb, x.b.kept hb x.b.lt, x.up, x.n1, x.n2, x.n3⟩
/-- the box is written over by what a call told -/
theorem FT.all (x : FT w r0 w1 s r pb p) {s' : St} {r' : R3} (hr : SR w1 s' r') (hf : Frm (w.heap.size + 2) r0 r') (hn : ∀ a, (r'.a1 = some a ∨ r'.a2 = some a ∨ r'.a3 = some a) → a.block ≠ pb) : FT w r0 (w1.setRow w.heap.size (sA s' r')) s' r' pb p :=
  ⟨x.f.setAll hr hf, by
    have hb := x.b
    have hup := x.up
    unfold PB at hb ⊢
    simp only [World.setRow, Array.getElem?_modify]
    rw [if_neg (by omega)]
    exact hb, x.up, fun a e => hn a (.inl e), fun a e => hn a (.inr (.inl e)), fun a e => hn a (.inr (.inr e))⟩
/-- rows that a call told are none of the page's block -/
theorem FT.new (x : FT w r0 w1 s r pb p) {r' : R3} (h : Frm w1.heap.size r r') : ∀ a, (r'.a1 = some a ∨ r'.a2 = some a ∨ r'.a3 = some a) → a.block ≠ pb := by
  have hlt := x.b.lt
  intro a e
  obtain ⟨h1, h2, h3⟩ := h
  rcases e with e | e | e
  · rcases h1 with h1 | h1
    · exact x.n1 a (by rw [← h1]; exact e)
    · have := h1 a e; omega
  · rcases h2 with h2 | h2
    · exact x.n2 a (by rw [← h2]; exact e)
    · have := h2 a e; omega
  · rcases h3 with h3 | h3
    · exact x.n3 a (by rw [← h3]; exact e)
    · have := h3 a e; omega
end
def msR (s : St) : Nat := mks s.pg * 1001 + d2 s
theorem d2_le (s : St) : d2 s ≤ s.pg.length := by unfold d2; rw [← rot_len s.co.toNat s.pg]; exact List.findIdx_le_length
theorem msR_idle {s : St} {p : Pg} (h : s.pg[s.co.toNat]? = some p) (hk : p.kind ≠ 2) (h0 : 0 ≤ s.co) (hc : 0 < many s.pg 2) : msR (cStep s) < msR s := by
  have := d2_on h hk h0 hc
  have e : mks (cStep s).pg = mks s.pg := rfl
  unfold msR
  omega
theorem msR_mark {s : St} (hb : B s) {p : Pg} (h : s.pg[s.co.toNat]? = some p) (hk : p.kind = 2) (hm : p.mark = true) (hl : s.pg.length ≤ 1000) : msR (mkS (setc s (cSt s)) p) < msR s := by
  have h1 := mkS_mks (s := setc s (cSt s)) h hm
  have h2 := d2_le (mkS (setc s (cSt s)) p)
  have h3 := (mkS_all (s := setc s (cSt s)) (hb.w.setc _) hb.r h hk hm).2.2.n
  have h4 : mks (setc s (cSt s)).pg = mks s.pg := rfl
  have h5 : (setc s (cSt s)).pg.length = s.pg.length := rfl
  rw [h4] at h1
  rw [h5] at h3
  unfold msR
  have h6 : (mks (mkS (setc s (cSt s)) p).pg + 1) * 1001 ≤ mks s.pg * 1001 := Nat.mul_le_mul_right _ h1
  omega
set_option maxHeartbeats 8000000 in
set_option maxRecDepth 100000 in
theorem reclaim_at (s : St) (r : R3) (hb : B s) (hl : s.pg.length ≤ 999) (w : World) (hr : SR w s r) : Calls Try.prog 87 #[sV s r] w (RPost w r (rcl s).1 (rcl s).2) := by
  have x := FR.start hr #[.int .i64 0, .int .i64 0, .int .i64 0, .int .i64 0, .int .i64 0, .slice none 0 0, .slice none 0 0, .slice none 0 0, .int .i64 0, .int .i64 0, .int .u64 0, .int .u64 0, .int .u64 0, .int .u64 0, .int .u64 0, .int .u64 0, .int .u64 0, .int .u64 0, .int .u64 0, .int .u64 0, .int .u64 0] rfl
  obtain ⟨w1, hw1⟩ : ∃ w1, w1 = ((w.alloc (.cells (sA s r) 31)).alloc (.cells #[.int .i64 0, .int .i64 0, .int .i64 0, .int .i64 0, .int .i64 0, .slice none 0 0, .slice none 0 0, .slice none 0 0, .int .i64 0, .int .i64 0, .int .u64 0, .int .u64 0, .int .u64 0, .int .u64 0, .int .u64 0, .int .u64 0, .int .u64 0, .int .u64 0, .int .u64 0, .int .u64 0, .int .u64 0] 102)) := ⟨_, rfl⟩
  rw [← hw1] at x
  have hA : ((w.alloc (.cells (sA s r) 31)).alloc (.cells #[.int .i64 0, .int .i64 0, .int .i64 0, .int .i64 0, .int .i64 0, .slice none 0 0, .slice none 0 0, .slice none 0 0, .int .i64 0, .int .i64 0, .int .u64 0, .int .u64 0, .int .u64 0, .int .u64 0, .int .u64 0, .int .u64 0, .int .u64 0, .int .u64 0, .int .u64 0, .int .u64 0, .int .u64 0] 102)) = w1 := hw1.symm
  have HA := Lib.hid hA
  have HX := Lib.hid x
  have HB := Lib.hid (And.intro hb hl)
  clear x hw1 hA hr hb hl
  show Calls Try.prog 87 #[sV s r] w fun e w' => RPost w r (rcl s).1 (rcl s).2 e w'
  go_enter Try.func87, Try.ntmps87
  go_wp2_with fail
  rw [HA.out]
  go_loopg [] (msR s) (fun k wr => ∃ (cur : St) (rr : R3), Hid (FR w r wr cur rr) ∧ Hid (B cur ∧ cur.pg.length ≤ 999 ∧ rcl cur = rcl s ∧ k = msR cur))
  case atStart => exact ⟨s, r, HX, Lib.hid ⟨HB.out.1, HB.out.2, rfl, rfl⟩⟩
  case round =>
    obtain ⟨cur, rr, HF, HC⟩ := hrel
    obtain ⟨p, hpl⟩ := HC.out.1.at
    have hpok := HC.out.1.w.pk p (List.mem_of_getElem? hpl)
    obtain ⟨i, hi⟩ : ∃ i : Nat, i = cur.co.toNat := ⟨_, rfl⟩
    have hco : cur.co = (i : Int) := by rw [hi]; have := HC.out.1.w.hc.1; omega
    rw [← hi] at hpl
    have HP := Lib.hid (And.intro hco (And.intro (at_lt hpl) hpl))
    clear hi hco hpl
    obtain ⟨p0, p1, p2, p3⟩ := p
    by_cases h3 : p1 = 3
    · subst h3
      obtain ⟨rfl, rfl⟩ : p2 = true ∧ p3 = false := by unfold Pok at hpok; simpa using hpok
      clear hpok
      obtain ⟨b, off, ha, hcells⟩ := HF.out.fr.rows.pg.row.at HP.out.2.1
      have d5 := at5 HF.out.fr.box
      have d8 := at8 HF.out.fr.box
      rw [HP.out.1] at d8
      obtain ⟨k0, k1, k2, k3⟩ := hcells i HP.out.2.1
      have hq := HP.out.2.1
      have hp0 : cur.pg[i] = ⟨p0, 3, true, false⟩ := by have h9 := HP.out.2.2; rw [List.getElem?_eq_getElem hq] at h9; injection h9
      rw [hp0] at k0 k1 k2 k3
      dsimp only at k0 k1 k2 k3
      obtain ⟨n, hn⟩ : ∃ n, n = cur.pg.length := ⟨_, rfl⟩
      have hin : i < n := by rw [hn]; exact HP.out.2.1
      have hnl : n ≤ 999 := by rw [hn]; exact HC.out.2.1
      have z0 : (0 : Int) ≤ (i : Int) := by omega
      have z1 : (i : Int) < (n : Int) := by omega
      rw [ha, ← hn] at d5
      have y0 := FT.start HF.out ⟨p0, 3, true, false⟩
      have hbl : w.heap.size ≠ wr.heap.size := by have := HF.out.fr.box.lt; omega
      obtain ⟨w10, hw10⟩ : ∃ w10, w10 = wr.alloc (.cells #[.int .u64 p0, .int .i64 3, .bool true, .bool false] 58) := ⟨_, rfl⟩
      dsimp only at y0
      rw [← hw10] at y0
      obtain ⟨e0, e1, e2, e3⟩ := y0.b.at
      dsimp only at e0 e1 e2 e3
      have y1 := y0.cell 19 (.int .u64 (up cur.ct.st)) { cur with ct := { cur.ct with st := up cur.ct.st } } rfl rfl rfl rfl
      have hup0 := wrap_up cur.ct.st
      have dd0 := at19 y0.f.fr.box
      have ff0 := y0.f.fr.box.free 19
      obtain ⟨w11, hw11⟩ : ∃ w11, w11 = (w10).setCell ⟨w.heap.size, 19, none⟩ (.int .u64 (up cur.ct.st)) := ⟨_, rfl⟩
      rw [← hw11] at y1
      have HY := Lib.hid y1
      have HW := Lib.hid (And.intro hw10 hw11)
      have HN := Lib.hid hn
      obtain ⟨j0, j1, j2, j3⟩ := y1.b.at
      dsimp only at j0 j1 j2 j3
      have g8 := at8 y1.f.fr.box
      dsimp only at g8
      rw [HP.out.1] at g8
      have g5 := at5 y1.f.fr.box
      dsimp only at g5
      rw [← hn] at g5
      have h8 := y1.f.fr.box.free 8
      have g8b := at8 y0.f.fr.box
      rw [HP.out.1] at g8b
      have g5b := at5 y0.f.fr.box
      rw [← hn] at g5b
      clear hq hcells hp0 hw10 hw11 ha hn y0 y1
      go_wp2_with (first | fail | (refine st59n rfl (.tmp 3) (.tmp 9) rfl p0 3 true false rfl rfl _ rfl ?_; rw [← HW.out.1]))
      rw [← HW.out.2]
      refine (on_at (i : Int) (n : Int) ⟨z0, by omega⟩ ⟨by omega, by omega⟩ w11).mono ?_
      rintro e w12 ⟨rfl, h12⟩
      subst h12
      clear dd0 ff0 hup0 e0 e1 e2 e3 k0 k1 k2 k3 d5 d8 HW hbl j0 j1 j2 j3 g8b g5b
      have hcl : Hid (cStep cur = { setc cur (cSt cur) with co := onw (i : Int) (n : Int) }) := Lib.hid (by unfold cStep; rw [HP.out.1, HN.out])
      have hq : cur.pg[cur.co.toNat]? = some ⟨p0, 3, true, false⟩ := by rw [HP.out.1, Int.toNat_natCast]; exact HP.out.2.2
      have HE := Lib.hid (And.intro HC.out.1.step (And.intro (show rcl (cStep cur) = rcl s from (rcl_idle hq (fun e => absurd (show (3 : Int) = 2 from e) (by decide)) ⟨HC.out.1.w.hc.1, HC.out.1.cold⟩).symm.trans HC.out.2.2.1) (msR_idle hq (fun e => absurd (show (3 : Int) = 2 from e) (by decide)) HC.out.1.w.hc.1 HC.out.1.cold)))
      clear hq
      go_wp2_with fail
      go_roundg (msR (cStep cur))
      case rel => exact ⟨cStep cur, _, Lib.hid (by rw [hcl.out]; exact HY.out.f.setCo (onw (i : Int) (n : Int))), Lib.hid ⟨HE.out.1, HC.out.2.1, HE.out.2.1, rfl⟩⟩
      case measure => rw [HC.out.2.2.2]; exact HE.out.2.2
    · by_cases h1 : p1 = 1
      · subst h1
        obtain rfl : p2 = false := by unfold Pok at hpok; simpa using hpok
        clear hpok h3
        obtain ⟨b, off, ha, hcells⟩ := HF.out.fr.rows.pg.row.at HP.out.2.1
        have d5 := at5 HF.out.fr.box
        have d8 := at8 HF.out.fr.box
        rw [HP.out.1] at d8
        obtain ⟨k0, k1, k2, k3⟩ := hcells i HP.out.2.1
        have hq := HP.out.2.1
        have hp0 : cur.pg[i] = ⟨p0, 1, false, p3⟩ := by have h9 := HP.out.2.2; rw [List.getElem?_eq_getElem hq] at h9; injection h9
        rw [hp0] at k0 k1 k2 k3
        dsimp only at k0 k1 k2 k3
        obtain ⟨n, hn⟩ : ∃ n, n = cur.pg.length := ⟨_, rfl⟩
        have hin : i < n := by rw [hn]; exact HP.out.2.1
        have hnl : n ≤ 999 := by rw [hn]; exact HC.out.2.1
        have z0 : (0 : Int) ≤ (i : Int) := by omega
        have z1 : (i : Int) < (n : Int) := by omega
        rw [ha, ← hn] at d5
        have y0 := FT.start HF.out ⟨p0, 1, false, p3⟩
        have hbl : w.heap.size ≠ wr.heap.size := by have := HF.out.fr.box.lt; omega
        obtain ⟨w10, hw10⟩ : ∃ w10, w10 = wr.alloc (.cells #[.int .u64 p0, .int .i64 1, .bool false, .bool p3] 58) := ⟨_, rfl⟩
        dsimp only at y0
        rw [← hw10] at y0
        obtain ⟨e0, e1, e2, e3⟩ := y0.b.at
        dsimp only at e0 e1 e2 e3
        have y1 := y0.cell 19 (.int .u64 (up cur.ct.st)) { cur with ct := { cur.ct with st := up cur.ct.st } } rfl rfl rfl rfl
        have hup0 := wrap_up cur.ct.st
        have dd0 := at19 y0.f.fr.box
        have ff0 := y0.f.fr.box.free 19
        obtain ⟨w11, hw11⟩ : ∃ w11, w11 = (w10).setCell ⟨w.heap.size, 19, none⟩ (.int .u64 (up cur.ct.st)) := ⟨_, rfl⟩
        rw [← hw11] at y1
        have HY := Lib.hid y1
        have HW := Lib.hid (And.intro hw10 hw11)
        have HN := Lib.hid hn
        obtain ⟨j0, j1, j2, j3⟩ := y1.b.at
        dsimp only at j0 j1 j2 j3
        have g8 := at8 y1.f.fr.box
        dsimp only at g8
        rw [HP.out.1] at g8
        have g5 := at5 y1.f.fr.box
        dsimp only at g5
        rw [← hn] at g5
        have h8 := y1.f.fr.box.free 8
        have g8b := at8 y0.f.fr.box
        rw [HP.out.1] at g8b
        have g5b := at5 y0.f.fr.box
        rw [← hn] at g5b
        clear hq hcells hp0 hw10 hw11 ha hn y0 y1
        go_wp2_with (first | fail | (refine st59n rfl (.tmp 3) (.tmp 9) rfl p0 1 false p3 rfl rfl _ rfl ?_; rw [← HW.out.1]))
        rw [← HW.out.2]
        refine (on_at (i : Int) (n : Int) ⟨z0, by omega⟩ ⟨by omega, by omega⟩ w11).mono ?_
        rintro e w12 ⟨rfl, h12⟩
        subst h12
        clear dd0 ff0 hup0 e0 e1 e2 e3 k0 k1 k2 k3 d5 d8 HW hbl j0 j1 j2 j3 g8b g5b
        have hcl : Hid (cStep cur = { setc cur (cSt cur) with co := onw (i : Int) (n : Int) }) := Lib.hid (by unfold cStep; rw [HP.out.1, HN.out])
        have hq : cur.pg[cur.co.toNat]? = some ⟨p0, 1, false, p3⟩ := by rw [HP.out.1, Int.toNat_natCast]; exact HP.out.2.2
        have HE := Lib.hid (And.intro HC.out.1.step (And.intro (show rcl (cStep cur) = rcl s from (rcl_idle hq (fun e => absurd (show (1 : Int) = 2 from e) (by decide)) ⟨HC.out.1.w.hc.1, HC.out.1.cold⟩).symm.trans HC.out.2.2.1) (msR_idle hq (fun e => absurd (show (1 : Int) = 2 from e) (by decide)) HC.out.1.w.hc.1 HC.out.1.cold)))
        clear hq
        go_wp2_with fail
        go_roundg (msR (cStep cur))
        case rel => exact ⟨cStep cur, _, Lib.hid (by rw [hcl.out]; exact HY.out.f.setCo (onw (i : Int) (n : Int))), Lib.hid ⟨HE.out.1, HC.out.2.1, HE.out.2.1, rfl⟩⟩
        case measure => rw [HC.out.2.2.2]; exact HE.out.2.2
      · obtain rfl : p1 = 2 := by unfold Pok at hpok; dsimp only at hpok; rcases hpok with h | h | h; exact absurd h.1 h1; exact h; exact absurd h.1 h3
        clear hpok h3 h1
        cases p3
        · cases p2
          · skip
            obtain ⟨b, off, ha, hcells⟩ := HF.out.fr.rows.pg.row.at HP.out.2.1
            have d5 := at5 HF.out.fr.box
            have d8 := at8 HF.out.fr.box
            rw [HP.out.1] at d8
            obtain ⟨k0, k1, k2, k3⟩ := hcells i HP.out.2.1
            have hq := HP.out.2.1
            have hp0 : cur.pg[i] = ⟨p0, 2, false, false⟩ := by have h9 := HP.out.2.2; rw [List.getElem?_eq_getElem hq] at h9; injection h9
            rw [hp0] at k0 k1 k2 k3
            dsimp only at k0 k1 k2 k3
            obtain ⟨n, hn⟩ : ∃ n, n = cur.pg.length := ⟨_, rfl⟩
            have hin : i < n := by rw [hn]; exact HP.out.2.1
            have hnl : n ≤ 999 := by rw [hn]; exact HC.out.2.1
            have z0 : (0 : Int) ≤ (i : Int) := by omega
            have z1 : (i : Int) < (n : Int) := by omega
            rw [ha, ← hn] at d5
            have y0 := FT.start HF.out ⟨p0, 2, false, false⟩
            have hbl : w.heap.size ≠ wr.heap.size := by have := HF.out.fr.box.lt; omega
            obtain ⟨w10, hw10⟩ : ∃ w10, w10 = wr.alloc (.cells #[.int .u64 p0, .int .i64 2, .bool false, .bool false] 58) := ⟨_, rfl⟩
            dsimp only at y0
            rw [← hw10] at y0
            obtain ⟨e0, e1, e2, e3⟩ := y0.b.at
            dsimp only at e0 e1 e2 e3
            have y1 := y0.cell 19 (.int .u64 (up cur.ct.st)) { cur with ct := { cur.ct with st := up cur.ct.st } } rfl rfl rfl rfl
            have hup0 := wrap_up cur.ct.st
            have dd0 := at19 y0.f.fr.box
            have ff0 := y0.f.fr.box.free 19
            have y2 := y1.cell 15 (.int .u64 (up cur.ct.ev)) { cur with ct := { cur.ct with st := up cur.ct.st, ev := up cur.ct.ev } } rfl rfl rfl rfl
            have hup1 := wrap_up cur.ct.ev
            have dd1 := at15 y0.f.fr.box
            have ff1 := y0.f.fr.box.free 15
            obtain ⟨w11, hw11⟩ : ∃ w11, w11 = ((w10).setCell ⟨w.heap.size, 19, none⟩ (.int .u64 (up cur.ct.st))).setCell ⟨w.heap.size, 15, none⟩ (.int .u64 (up cur.ct.ev)) := ⟨_, rfl⟩
            rw [← hw11] at y2
            have HY := Lib.hid y2
            have HW := Lib.hid (And.intro hw10 hw11)
            have HN := Lib.hid hn
            obtain ⟨j0, j1, j2, j3⟩ := y2.b.at
            dsimp only at j0 j1 j2 j3
            have g8 := at8 y2.f.fr.box
            dsimp only at g8
            rw [HP.out.1] at g8
            have g5 := at5 y2.f.fr.box
            dsimp only at g5
            rw [← hn] at g5
            have h8 := y2.f.fr.box.free 8
            clear hq hcells hp0 hw10 hw11 ha hn y0 y1 y2
            have hq : cur.pg[cur.co.toNat]? = some ⟨p0, 2, false, false⟩ := by rw [HP.out.1, Int.toNat_natCast]; exact HP.out.2.2
            have HE : Hid ((rcl s).1 = leave (setc cur (cEv cur)) i ∧ (rcl s).2 = p0) := Lib.hid (by rw [← HC.out.2.2.1, rcl_out hq rfl rfl rfl]; unfold evOut; rw [HP.out.1, Int.toNat_natCast]; exact ⟨rfl, rfl⟩)
            clear hq
            go_wp2_with (first | fail | (refine st59n rfl (.tmp 3) (.tmp 9) rfl p0 2 false false rfl rfl _ rfl ?_; rw [← HW.out.1]))
            rw [← HW.out.2]
            clear dd0 ff0 hup0 dd1 ff1 hup1 e0 e1 e2 e3 k0 k1 k2 k3 d5 d8 HW hbl g5 h8
            have HG8 := Lib.hid g8
            clear g8 j0 j1 j2 j3
            have cL := Lib.hid (fun V r1 h => leave_at (setc cur (cEv cur)) r1 i HP.out.2.1 (by have h9 := HC.out.2.1; show cur.pg.length ≤ 1000; omega) HC.out.1.w.hc HC.out.1.w.ht V h)
            have HBX := Lib.hid HY.out.f.fr.box
            refine wp_region_held_drew (S := fun V => Box V w.heap.size (sA (setc cur (cEv cur)) rr) ∧ PB V wr.heap.size ⟨p0, 2, false, false⟩) (by kernel_rfl) ⟨(HY.out.keep (below_drew (Below.refl _ _) 1)).f.fr.box, (HY.out.keep (below_drew (Below.refl _ _) 1)).b⟩ (fun hHeld => ?_)
            have hB0 : Below w11.heap.size w11 w11.drew := below_drew (Below.refl _ _) 1
            generalize w11.drew = wd at hB0 hHeld ⊢
            refine wpAnyH_take (i := 0) (v := ?tval1) rfl (by kernel_rfl) (by kernel_rfl) (by kernel_rfl) (fun _ _ _ h => h) (Or.inl ⟨by rfl, ?teq1⟩) (by assumption) ?trest1
            case teq1 => (intro w0 q; refine exec31 (.tmp 1) ?_ ?_ q.1 <;> rfl)
            try simp only [put_laws]
            refine wpAnyH_take (i := 1) (v := ?tval2) rfl (by kernel_rfl) (by kernel_rfl) (by kernel_rfl) (fun _ _ _ h => h) (Or.inl ⟨by rfl, ?teq2⟩) (by assumption) ?trest2
            case teq2 => (intro w0 _; go_simp; with_reducible rfl)
            try simp only [put_laws]
            refine wpAnyH_take (i := 2) (v := ?tval3) rfl (by kernel_rfl) (by kernel_rfl) (by kernel_rfl) (fun _ _ _ h => h) (Or.inl ⟨by rfl, ?teq3⟩) (by assumption) ?trest3
            case teq3 => (intro w0 q; have h0 : w0.cell? ⟨w.heap.size, 8, none⟩ = some (.int .i64 (i : Int)) := (by have h9 := at8 q.1; rw [show (setc cur (cEv cur)).co = (i : Int) from HP.out.1] at h9; exact h9); go_simp; with_reducible rfl)
            try simp only [put_laws]
            refine wpAnyH_take (i := 4) (v := ?tval4) rfl (by kernel_rfl) (by kernel_rfl) (by kernel_rfl) (fun _ _ _ h => h) (Or.inl ⟨by rfl, ?teq4⟩) (by assumption) ?trest4
            case teq4 => (intro w0 _; go_simp; with_reducible rfl)
            try simp only [put_laws]
            refine wpAnyH_take (i := 5) (v := ?tval5) rfl (by kernel_rfl) (by kernel_rfl) (by kernel_rfl) (fun _ _ _ h => h) (Or.inl ⟨by rfl, ?teq5⟩) (by assumption) ?trest5
            case teq5 => (intro w0 q; obtain ⟨q0, q1, q2, q3⟩ := q.2.at; dsimp only at q0 q1 q2 q3; go_simp; with_reducible rfl)
            try simp only [put_laws]
            refine wpAnyH_ready (rs := [3]) (by kernel_rfl) (by simp) ?_
            refine AllReadyH.cons rfl (fun K hK => ?_) AllReadyH.nil
            go_simp
            refine (cL.out wd rr (HY.out.keep hB0).f.fr.rows).mono ?_
            rintro e wg ⟨r2, rfl, hr2, hf2, hb2⟩
            have hb2 : Below (World.heap wd).size wd wg := hb2
            have hf2 : Frm (World.heap wd).size rr r2 := hf2
            go_wp2_with fail
            have hB1 : Below w11.heap.size w11 wg := hB0.trans (hb2.mono hB0.size)
            refine hK.out _ _ ⟨(HY.out.keep hB1).f.fr.box, (HY.out.keep hB1).b⟩ (fun hHeld => ?_)
            clear hK K
            try simp only [put_laws]
            refine wpAnyH_take (i := 6) (v := ?tval6) rfl (by kernel_rfl) (by kernel_rfl) (by kernel_rfl) (fun _ _ _ h => h) (Or.inl ⟨by rfl, ?teq6⟩) (by assumption) ?trest6
            case teq6 => (intro w0 _; refine exec81 (.tmp 42) (.tmp 44) ?_ (leave (setc cur (cEv cur)) i) r2 p0 ?_ ?_ <;> rfl)
            try simp only [put_laws]
            refine wpAnyH_ready (rs := [7]) (by kernel_rfl) (by simp) ?_
            refine AllReadyH.cons rfl (fun K hK => ?_) AllReadyH.nil
            have H19 := Lib.hid (And.intro (HY.out.f.keep hB1) (And.intro hr2 (HY.out.f.fr.frm.trans (hf2.weak hB0.size) HY.out.f.fr.hi)))
            obtain ⟨cs, hcs⟩ := H19.out.1.res
            have HCS := Lib.hid hcs
            clear hcs
            refine step81 rfl (.tmp 2) (.tmp 45) rfl _ (leave (setc cur (cEv cur)) i) r2 p0 rfl rfl _ HCS.out ?_
            refine hK.out _ _ ⟨(HY.out.keep hB1).f.fr.box.other (by omega) _, (HY.out.keep hB1).b.other (by have := HY.out.up; omega) _⟩ (fun hHeld => ?_)
            clear hK K
            try simp only [put_laws]
            refine wpAnyH_done (by kernel_rfl) ?_ _
            go_wp2_with fail
            refine bodyPost_ret (results_rc rfl _ _ _ _ rfl (HCS.out.rowSet (rA_len _ _ _))) rfl ?_
            rw [HE.out.1, HE.out.2]
            exact H19.out.1.ret H19.out.2.1 H19.out.2.2 rfl
          · skip
            obtain ⟨b, off, ha, hcells⟩ := HF.out.fr.rows.pg.row.at HP.out.2.1
            have d5 := at5 HF.out.fr.box
            have d8 := at8 HF.out.fr.box
            rw [HP.out.1] at d8
            obtain ⟨k0, k1, k2, k3⟩ := hcells i HP.out.2.1
            have hq := HP.out.2.1
            have hp0 : cur.pg[i] = ⟨p0, 2, true, false⟩ := by have h9 := HP.out.2.2; rw [List.getElem?_eq_getElem hq] at h9; injection h9
            rw [hp0] at k0 k1 k2 k3
            dsimp only at k0 k1 k2 k3
            obtain ⟨n, hn⟩ : ∃ n, n = cur.pg.length := ⟨_, rfl⟩
            have hin : i < n := by rw [hn]; exact HP.out.2.1
            have hnl : n ≤ 999 := by rw [hn]; exact HC.out.2.1
            have z0 : (0 : Int) ≤ (i : Int) := by omega
            have z1 : (i : Int) < (n : Int) := by omega
            rw [ha, ← hn] at d5
            have y0 := FT.start HF.out ⟨p0, 2, true, false⟩
            have hbl : w.heap.size ≠ wr.heap.size := by have := HF.out.fr.box.lt; omega
            obtain ⟨w10, hw10⟩ : ∃ w10, w10 = wr.alloc (.cells #[.int .u64 p0, .int .i64 2, .bool true, .bool false] 58) := ⟨_, rfl⟩
            dsimp only at y0
            rw [← hw10] at y0
            obtain ⟨e0, e1, e2, e3⟩ := y0.b.at
            dsimp only at e0 e1 e2 e3
            have y1 := y0.cell 19 (.int .u64 (up cur.ct.st)) { cur with ct := { cur.ct with st := up cur.ct.st } } rfl rfl rfl rfl
            have hup0 := wrap_up cur.ct.st
            have dd0 := at19 y0.f.fr.box
            have ff0 := y0.f.fr.box.free 19
            have y2 := y1.cell 15 (.int .u64 (up cur.ct.ev)) { cur with ct := { cur.ct with st := up cur.ct.st, ev := up cur.ct.ev } } rfl rfl rfl rfl
            have hup1 := wrap_up cur.ct.ev
            have dd1 := at15 y0.f.fr.box
            have ff1 := y0.f.fr.box.free 15
            have y3 := y2.page 1 (.int .i64 3) ⟨p0, 3, true, false⟩ rfl
            have ffp : w10.frozen? ⟨wr.heap.size, 1, none⟩ = false := by have hb := y0.b; unfold PB at hb; simp [World.frozen?, hb]
            obtain ⟨w11, hw11⟩ : ∃ w11, w11 = (((w10).setCell ⟨w.heap.size, 19, none⟩ (.int .u64 (up cur.ct.st))).setCell ⟨w.heap.size, 15, none⟩ (.int .u64 (up cur.ct.ev))).setCell ⟨wr.heap.size, 1, none⟩ (.int .i64 3) := ⟨_, rfl⟩
            rw [← hw11] at y3
            have HY := Lib.hid y3
            have HW := Lib.hid (And.intro hw10 hw11)
            have HN := Lib.hid hn
            obtain ⟨j0, j1, j2, j3⟩ := y3.b.at
            dsimp only at j0 j1 j2 j3
            have g8 := at8 y3.f.fr.box
            dsimp only at g8
            rw [HP.out.1] at g8
            have g5 := at5 y3.f.fr.box
            dsimp only at g5
            rw [← hn] at g5
            have h8 := y3.f.fr.box.free 8
            clear hq hcells hp0 hw10 hw11 ha hn y0 y1 y2 y3
            have hq : cur.pg[cur.co.toNat]? = some ⟨p0, 2, true, false⟩ := by rw [HP.out.1, Int.toNat_natCast]; exact HP.out.2.2
            have HE : Hid ((rcl s).1 = (⟨(setc cur (cEv cur)).cf, (setc cur (cEv cur)).tg, (setc cur (cEv cur)).pg.set i ⟨p0, 3, true, false⟩, (setc cur (cEv cur)).qu, (setc cur (cEv cur)).gh, onw (i : Int) (n : Int), (setc cur (cEv cur)).te, (setc cur (cEv cur)).ct⟩ : St) ∧ (rcl s).2 = p0) := Lib.hid (by rw [← HC.out.2.2.1, rcl_gone hq rfl rfl rfl]; unfold evGone; rw [HP.out.1, Int.toNat_natCast, HN.out]; exact ⟨rfl, rfl⟩)
            clear hq
            go_wp2_with (first | fail | (refine st59n rfl (.tmp 3) (.tmp 9) rfl p0 2 true false rfl rfl _ rfl ?_; rw [← HW.out.1]) | (rw [← HW.out.2]; refine ld31 rfl (.tmp 1) rfl _ rfl _ HY.out.f.fr.box ?_))
            clear dd0 ff0 hup0 dd1 ff1 hup1 e0 e1 e2 e3 k0 k1 k2 k3 d5 d8 HW hbl ffp
            refine (with_at (setc cur (cEv cur)) rr i ⟨p0, 3, true, false⟩ HP.out.2.1 (by have h9 := HC.out.2.1; show cur.pg.length ≤ 1000; omega) w11 HY.out.f.fr.rows).mono ?_
            rintro e w12 ⟨r1, rfl, hr1, hf1, hb1⟩
            have y20 := HY.out.keep hb1
            have y21 := y20.all hr1 (HY.out.f.fr.told hr1 hf1) (HY.out.new hf1)
            have HBX := Lib.hid y20.f.fr.box
            obtain ⟨w13, hw13⟩ : ∃ w13, w13 = w12.setRow w.heap.size (sA (⟨(setc cur (cEv cur)).cf, (setc cur (cEv cur)).tg, (setc cur (cEv cur)).pg.set i ⟨p0, 3, true, false⟩, (setc cur (cEv cur)).qu, (setc cur (cEv cur)).gh, (setc cur (cEv cur)).co, (setc cur (cEv cur)).te, (setc cur (cEv cur)).ct⟩ : St) r1) := ⟨_, rfl⟩
            rw [← hw13] at y21
            clear g8 g5 h8 j0 j1 j2 j3
            have g8 := at8 y21.f.fr.box
            dsimp only [setc] at g8
            rw [HP.out.1] at g8
            have g5 := at5 y21.f.fr.box
            dsimp only [setc] at g5
            rw [List.length_set, ← HN.out] at g5
            have h8 := y21.f.fr.box.free 8
            obtain ⟨j0, j1, j2, j3⟩ := y21.b.at
            dsimp only at j0 j1 j2 j3
            have hne : wr.heap.size ≠ w.heap.size := by have := y21.up; omega
            have y22 := y21.cell 8 (.int .i64 (onw (i : Int) (n : Int))) (⟨(setc cur (cEv cur)).cf, (setc cur (cEv cur)).tg, (setc cur (cEv cur)).pg.set i ⟨p0, 3, true, false⟩, (setc cur (cEv cur)).qu, (setc cur (cEv cur)).gh, onw (i : Int) (n : Int), (setc cur (cEv cur)).te, (setc cur (cEv cur)).ct⟩ : St) rfl rfl rfl rfl
            obtain ⟨w14, hw14⟩ : ∃ w14, w14 = w13.setCell ⟨w.heap.size, 8, none⟩ (.int .i64 (onw (i : Int) (n : Int))) := ⟨_, rfl⟩
            rw [← hw14] at y22
            obtain ⟨l0, l1, l2, l3⟩ := y22.b.at
            dsimp only at l0 l1 l2 l3
            have HW13 := Lib.hid hw13
            have HW14 := Lib.hid hw14
            have HZ := Lib.hid y22
            obtain ⟨cs, hcs⟩ := y22.f.res
            have HCS := Lib.hid hcs
            clear hr1 hf1 hb1 HY y20 y21 y22 hw13 hw14 hcs
            go_wp2_with (first | fail | (refine st31 rfl (.tmp 1) (.tmp 51) rfl _ _ _ rfl rfl _ HBX.out ?_; rw [← HW13.out]))
            refine (on_at (i : Int) (n : Int) ⟨z0, by omega⟩ ⟨by omega, by omega⟩ w13).mono ?_
            rintro e w15 ⟨rfl, h15⟩
            subst h15
            go_wp2_with (first | fail | (rw [← HW14.out]; refine ld31 rfl (.tmp 1) rfl _ rfl _ HZ.out.f.fr.box ?_) | refine bld81 rfl (.tmp 59) (.tmp 61) rfl _ r1 p0 rfl rfl ?_ | refine st81 rfl (.tmp 2) (.tmp 62) rfl _ _ r1 p0 rfl rfl _ HCS.out ?_)
            refine bodyPost_ret (results_rc rfl _ _ _ _ rfl (HCS.out.rowSet (rA_len _ _ _))) rfl ?_
            rw [HE.out.1, HE.out.2]
            exact HZ.out.f.ret HZ.out.f.fr.rows HZ.out.f.fr.frm rfl
        · cases p2
          · skip
            obtain ⟨b, off, ha, hcells⟩ := HF.out.fr.rows.pg.row.at HP.out.2.1
            have d5 := at5 HF.out.fr.box
            have d8 := at8 HF.out.fr.box
            rw [HP.out.1] at d8
            obtain ⟨k0, k1, k2, k3⟩ := hcells i HP.out.2.1
            have hq := HP.out.2.1
            have hp0 : cur.pg[i] = ⟨p0, 2, false, true⟩ := by have h9 := HP.out.2.2; rw [List.getElem?_eq_getElem hq] at h9; injection h9
            rw [hp0] at k0 k1 k2 k3
            dsimp only at k0 k1 k2 k3
            obtain ⟨n, hn⟩ : ∃ n, n = cur.pg.length := ⟨_, rfl⟩
            have hin : i < n := by rw [hn]; exact HP.out.2.1
            have hnl : n ≤ 999 := by rw [hn]; exact HC.out.2.1
            have z0 : (0 : Int) ≤ (i : Int) := by omega
            have z1 : (i : Int) < (n : Int) := by omega
            rw [ha, ← hn] at d5
            have y0 := FT.start HF.out ⟨p0, 2, false, true⟩
            have hbl : w.heap.size ≠ wr.heap.size := by have := HF.out.fr.box.lt; omega
            obtain ⟨w10, hw10⟩ : ∃ w10, w10 = wr.alloc (.cells #[.int .u64 p0, .int .i64 2, .bool false, .bool true] 58) := ⟨_, rfl⟩
            dsimp only at y0
            rw [← hw10] at y0
            obtain ⟨e0, e1, e2, e3⟩ := y0.b.at
            dsimp only at e0 e1 e2 e3
            have y1 := y0.cell 19 (.int .u64 (up cur.ct.st)) { cur with ct := { cur.ct with st := up cur.ct.st } } rfl rfl rfl rfl
            have hup0 := wrap_up cur.ct.st
            have dd0 := at19 y0.f.fr.box
            have ff0 := y0.f.fr.box.free 19
            obtain ⟨w11, hw11⟩ : ∃ w11, w11 = (w10).setCell ⟨w.heap.size, 19, none⟩ (.int .u64 (up cur.ct.st)) := ⟨_, rfl⟩
            rw [← hw11] at y1
            have HY := Lib.hid y1
            have HW := Lib.hid (And.intro hw10 hw11)
            have HN := Lib.hid hn
            obtain ⟨j0, j1, j2, j3⟩ := y1.b.at
            dsimp only at j0 j1 j2 j3
            have g8 := at8 y1.f.fr.box
            dsimp only at g8
            rw [HP.out.1] at g8
            have g5 := at5 y1.f.fr.box
            dsimp only at g5
            rw [← hn] at g5
            have h8 := y1.f.fr.box.free 8
            clear hq hcells hp0 hw10 hw11 ha hn y0 y1
            go_wp2_with (first | fail | (refine st59n rfl (.tmp 3) (.tmp 9) rfl p0 2 false true rfl rfl _ rfl ?_; rw [← HW.out.1]) | (rw [← HW.out.2]; refine ld31 rfl (.tmp 1) rfl _ rfl _ HY.out.f.fr.box ?_))
            clear dd0 ff0 hup0 e0 e1 e2 e3 k0 k1 k2 k3 d5 d8 HW hbl g8 g5 h8
            have hq : cur.pg[cur.co.toNat]? = some ⟨p0, 2, false, true⟩ := by rw [HP.out.1, Int.toNat_natCast]; exact HP.out.2.2
            have hpi : cur.pg[i]'HP.out.2.1 = ⟨p0, 2, false, true⟩ := by have h9 := HP.out.2.2; rw [List.getElem?_eq_getElem HP.out.2.1] at h9; injection h9
            have hcl : mkS (setc cur (cSt cur)) ⟨p0, 2, false, true⟩ = mkT (setc cur (cSt cur)) ⟨p0, 2, false, true⟩ := mkS_T rfl
            have hn2 := (mkS_all (s := setc cur (cSt cur)) (HC.out.1.w.setc _) HC.out.1.r hq rfl rfl).2.2.n
            have HE := Lib.hid (And.intro (HC.out.1.mark hq rfl rfl) (And.intro (show (mkS (setc cur (cSt cur)) ⟨p0, 2, false, true⟩).pg.length ≤ 999 from Nat.le_trans hn2 HC.out.2.1) (And.intro (show rcl (mkS (setc cur (cSt cur)) ⟨p0, 2, false, true⟩) = rcl s from (rcl_mark hq rfl rfl).symm.trans HC.out.2.2.1) (And.intro (msR_mark HC.out.1 hq rfl rfl (Nat.le_trans HC.out.2.1 (by decide))) hcl))))
            have hMK := markedT_at (setc cur (cSt cur)) rr i p0 (HC.out.1.w.setc _) HC.out.2.1 HP.out.1 HP.out.2.1 hpi w11 HY.out.f.fr.rows
            have HMK := Lib.hid hMK
            clear hq hpi hcl hn2 hMK
            refine HMK.out.mono ?_
            rintro e w12 ⟨r1, rfl, hr1, hf1, hb1⟩
            have H12 := Lib.hid (And.intro (HY.out.f.keep hb1) (And.intro hr1 (HY.out.f.fr.told hr1 hf1)))
            clear hr1 hf1 hb1 HY j0 j1 j2 j3
            go_wp2_with (first | fail | refine st31 rfl (.tmp 1) (.tmp 29) rfl _ _ _ rfl rfl _ H12.out.1.fr.box ?_)
            go_roundg (msR (mkS (setc cur (cSt cur)) ⟨p0, 2, false, true⟩))
            case rel => exact ⟨mkS (setc cur (cSt cur)) ⟨p0, 2, false, true⟩, r1, Lib.hid (by rw [HE.out.2.2.2.2]; exact H12.out.1.setAll H12.out.2.1 H12.out.2.2), Lib.hid ⟨HE.out.1, HE.out.2.1, HE.out.2.2.1, rfl⟩⟩
            case measure => rw [HC.out.2.2.2]; exact HE.out.2.2.2.1
          · skip
            obtain ⟨b, off, ha, hcells⟩ := HF.out.fr.rows.pg.row.at HP.out.2.1
            have d5 := at5 HF.out.fr.box
            have d8 := at8 HF.out.fr.box
            rw [HP.out.1] at d8
            obtain ⟨k0, k1, k2, k3⟩ := hcells i HP.out.2.1
            have hq := HP.out.2.1
            have hp0 : cur.pg[i] = ⟨p0, 2, true, true⟩ := by have h9 := HP.out.2.2; rw [List.getElem?_eq_getElem hq] at h9; injection h9
            rw [hp0] at k0 k1 k2 k3
            dsimp only at k0 k1 k2 k3
            obtain ⟨n, hn⟩ : ∃ n, n = cur.pg.length := ⟨_, rfl⟩
            have hin : i < n := by rw [hn]; exact HP.out.2.1
            have hnl : n ≤ 999 := by rw [hn]; exact HC.out.2.1
            have z0 : (0 : Int) ≤ (i : Int) := by omega
            have z1 : (i : Int) < (n : Int) := by omega
            rw [ha, ← hn] at d5
            have y0 := FT.start HF.out ⟨p0, 2, true, true⟩
            have hbl : w.heap.size ≠ wr.heap.size := by have := HF.out.fr.box.lt; omega
            obtain ⟨w10, hw10⟩ : ∃ w10, w10 = wr.alloc (.cells #[.int .u64 p0, .int .i64 2, .bool true, .bool true] 58) := ⟨_, rfl⟩
            dsimp only at y0
            rw [← hw10] at y0
            obtain ⟨e0, e1, e2, e3⟩ := y0.b.at
            dsimp only at e0 e1 e2 e3
            have y1 := y0.cell 19 (.int .u64 (up cur.ct.st)) { cur with ct := { cur.ct with st := up cur.ct.st } } rfl rfl rfl rfl
            have hup0 := wrap_up cur.ct.st
            have dd0 := at19 y0.f.fr.box
            have ff0 := y0.f.fr.box.free 19
            obtain ⟨w11, hw11⟩ : ∃ w11, w11 = (w10).setCell ⟨w.heap.size, 19, none⟩ (.int .u64 (up cur.ct.st)) := ⟨_, rfl⟩
            rw [← hw11] at y1
            have HY := Lib.hid y1
            have HW := Lib.hid (And.intro hw10 hw11)
            have HN := Lib.hid hn
            obtain ⟨j0, j1, j2, j3⟩ := y1.b.at
            dsimp only at j0 j1 j2 j3
            have g8 := at8 y1.f.fr.box
            dsimp only at g8
            rw [HP.out.1] at g8
            have g5 := at5 y1.f.fr.box
            dsimp only at g5
            rw [← hn] at g5
            have h8 := y1.f.fr.box.free 8
            clear hq hcells hp0 hw10 hw11 ha hn y0 y1
            go_wp2_with (first | fail | (refine st59n rfl (.tmp 3) (.tmp 9) rfl p0 2 true true rfl rfl _ rfl ?_; rw [← HW.out.1]) | (rw [← HW.out.2]; refine ld31 rfl (.tmp 1) rfl _ rfl _ HY.out.f.fr.box ?_))
            clear dd0 ff0 hup0 e0 e1 e2 e3 k0 k1 k2 k3 d5 d8 HW hbl g8 g5 h8
            have hq : cur.pg[cur.co.toNat]? = some ⟨p0, 2, true, true⟩ := by rw [HP.out.1, Int.toNat_natCast]; exact HP.out.2.2
            have hpi : cur.pg[i]'HP.out.2.1 = ⟨p0, 2, true, true⟩ := by have h9 := HP.out.2.2; rw [List.getElem?_eq_getElem HP.out.2.1] at h9; injection h9
            have hcl : mkS (setc cur (cSt cur)) ⟨p0, 2, true, true⟩ = cool (mkR (setc cur (cSt cur)) ⟨p0, 2, true, true⟩) := mkS_R rfl
            have hn2 := (mkS_all (s := setc cur (cSt cur)) (HC.out.1.w.setc _) HC.out.1.r hq rfl rfl).2.2.n
            have HE := Lib.hid (And.intro (HC.out.1.mark hq rfl rfl) (And.intro (show (mkS (setc cur (cSt cur)) ⟨p0, 2, true, true⟩).pg.length ≤ 999 from Nat.le_trans hn2 HC.out.2.1) (And.intro (show rcl (mkS (setc cur (cSt cur)) ⟨p0, 2, true, true⟩) = rcl s from (rcl_mark hq rfl rfl).symm.trans HC.out.2.2.1) (And.intro (msR_mark HC.out.1 hq rfl rfl (Nat.le_trans HC.out.2.1 (by decide))) hcl))))
            have hMK := markedR_at (setc cur (cSt cur)) rr i p0 (HC.out.1.w.setc _) HC.out.2.1 HP.out.1 HP.out.2.1 hpi w11 HY.out.f.fr.rows
            have HMK := Lib.hid hMK
            clear hq hpi hcl hn2 hMK
            refine HMK.out.mono ?_
            rintro e w12 ⟨r1, rfl, hr1, hf1, hb1⟩
            have H12 := Lib.hid (And.intro (HY.out.f.keep hb1) (And.intro hr1 (HY.out.f.fr.told hr1 hf1)))
            clear hr1 hf1 hb1 HY j0 j1 j2 j3
            go_wp2_with (first | fail | refine st31 rfl (.tmp 1) (.tmp 29) rfl _ _ _ rfl rfl _ H12.out.1.fr.box ?_)
            go_roundg (msR (mkS (setc cur (cSt cur)) ⟨p0, 2, true, true⟩))
            case rel => exact ⟨mkS (setc cur (cSt cur)) ⟨p0, 2, true, true⟩, r1, Lib.hid (by rw [HE.out.2.2.2.2]; exact H12.out.1.setAll H12.out.2.1 H12.out.2.2), Lib.hid ⟨HE.out.1, HE.out.2.1, HE.out.2.2.1, rfl⟩⟩
            case measure => rw [HC.out.2.2.2]; exact HE.out.2.2.2.1
end Go.Proofs.Ytejcahkkpednfaa
