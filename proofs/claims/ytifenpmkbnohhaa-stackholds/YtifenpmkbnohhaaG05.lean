/-
  A region that draws its order and holds calls whose results hang on the world: what yields in every world is taken first, one by one; then each order is walked.
  The document's states: Admit.
-/
import Derived.Test.YtifenpmkbnohhaaG04
import Derived.Deep.RegionHeld3
import Derived.Deep.CutRange
import Derived.Test.YtifenpmkbnohhaaG03
namespace Go.Proofs.Ytifenpmkbnohhaa
open Go.RowKit
open Go.Proofs.StackM
set_option linter.unusedVariables false
theorem exec31 {o : Oper} {a : Act} {w : World} {g : Nat} {cs : Array Value} (x : Operand) (ho : o.op = .load 31 x) (hx : a.eval x = .pointer (some ⟨g, 0, none⟩)) (h : Box w g cs) : (execOp a.eval o).run Try.prog w = .ok (.value (.agg cs)) w := by
  simp [execOp, ho, hx, h.loadI]
theorem step76 {ops : Array Oper} {o : Oper} {a : Act} {w : World} {K : Act → World → Prop} {Q : Exit → Act → World → Prop} {E : Prop} (hgd : o.guard = none) (x y : Operand) (ho : o.op = .store 94 x y) (g : Nat) (s : St) (r : R3) (A : Option Addr) (n c : Nat) (hx : a.eval x = .pointer (some ⟨g, 0, none⟩)) (hy : a.eval y = .agg (spA s r A n c)) (cs : Array Value) (h : B76 w g cs)
    (hK : K a (w.setRow g (spA s r A n c))) (hd : o.dst = none := by rfl) : if Region.wanted o (yielded ops a.tmps) = true then Oper.wp Try.prog o a w K Q else E := by
  have hw : Region.wanted o (yielded ops a.tmps) = true := by simp [Region.wanted, hgd]
  rw [if_pos hw]
  exact wp_store_row 94 x y ho g (spA s r A n c) hx hy 94 cs h.1 (by rw [spA_len]; exact info76) (by rw [spA_len, h.2]) (spA_one s r A n c) (by rw [hd]; exact hK)
/-- what is put into a frame, written out -/
theorem put_laws : (∀ (a : Act) (t : Tmp) (v : Value), a.put (some t) v = { a with tmps := a.tmps.setIfInBounds t v }) ∧ (∀ (a : Act) (v : Value), a.put none v = a) ∧ (∀ (l : List Value) (i : Nat) (v : Value), l.toArray.setIfInBounds i v = (l.set i v).toArray) ∧ (∀ (x v : Value) (l : List Value), (x :: l).set 0 v = v :: l) ∧ (∀ (x v : Value) (l : List Value) (i : Nat), (x :: l).set (i + 1) v = x :: l.set i v) :=
  ⟨fun _ _ _ => rfl, fun _ _ => rfl, fun _ _ _ => by simp, fun _ _ _ => rfl, fun _ _ _ _ => rfl⟩
end Go.Proofs.Ytifenpmkbnohhaa
namespace Go.Proofs.Ytifenpmkbnohhaa
open Go.RowKit
open Go.Proofs.StackM
set_option linter.unusedVariables false
/-- a block is none of a state's rows -/
def Ap (b : Nat) (r : R3) : Prop := (∀ a, r.a1 = some a → a.block ≠ b) ∧ (∀ a, r.a2 = some a → a.block ≠ b) ∧ (∀ a, r.a3 = some a → a.block ≠ b)
theorem ap_one {b t : Nat} {A B : Option Addr} (h : ∀ a, A = some a → a.block ≠ b) (hf : B = A ∨ ∀ a, B = some a → t ≤ a.block) (hb : b < t) : ∀ a, B = some a → a.block ≠ b := by
  rcases hf with rfl | hf
  · exact h
  · intro a e; have := hf a e; omega
theorem Ap.frm {b t : Nat} {r r2 : R3} (h : Ap b r) (hf : Frm t r r2) (hb : b < t) : Ap b r2 := ⟨ap_one h.1 hf.1 hb, ap_one h.2.1 hf.2.1 hb, ap_one h.2.2 hf.2.2 hb⟩
theorem Old.ap {t b : Nat} {r : R3} (h : Old t r) (hb : t ≤ b) : Ap b r := ⟨fun a e => by have := h.1 a e; omega, fun a e => by have := h.2.1 a e; omega, fun a e => by have := h.2.2 a e; omega⟩
theorem SR.apRow {w : World} {s : St} {r : R3} {b : Nat} {cs : Array Value} (h : SR w s r) (ha : Ap b r) : SR (w.setRow b cs) s r :=
  ⟨⟨vrow_row h.pg.row ha.1, fun a e => by rw [size_setRow]; exact h.pg.lt a e, h.pg.le⟩, ⟨vrow_row h.qu.row ha.2.1, fun a e => by rw [size_setRow]; exact h.qu.lt a e, h.qu.le⟩, ⟨vrow_row h.gh.row ha.2.2, fun a e => by rw [size_setRow]; exact h.gh.lt a e, h.gh.le⟩⟩
/-- the world behind 'x := spill(..)' -/
structure Mid (w : World) (r : R3) (wx : World) (s : St) (b : Nat) (s2 : St) (out : List Int) (r2 : R3) (A : Option Addr) (n cc : Nat) : Prop where
  f2 : F2 w r wx s r
  b76 : B76 wx b (spA s2 r2 A n cc)
  n : n = out.length
  sr : SR wx s2 r2
  ur : UR wx A cc out
  fresh : ∀ a, A = some a → w.heap.size + 2 ≤ a.block
  frm : Frm (w.heap.size + 2) r r2
  lo : w.heap.size + 2 ≤ b
theorem mid_fin {w w4 ws : World} {r r2 : R3} {s s2 : St} {b n cc : Nat} {A : Option Addr} {out : List Int} {cs : Array Value} (H4 : F2 w r w4 s r) (hB : Below w4.heap.size w4 ws) (hb : w4.heap.size ≤ b) (h76 : B76 ws b cs) (hr2 : SR ws s2 r2) (ha : Ap b r2) (hu : UR ws A cc out)
    (hA : ∀ a, A = some a → a.block ≠ b) (hA2 : ∀ a, A = some a → w4.heap.size ≤ a.block) (hf : Frm w4.heap.size r r2) (hn : n = out.length) : Mid w r (ws.setRow b (spA s2 r2 A n cc)) s b s2 out r2 A n cc :=
  ⟨H4.keep (below_setRow hB hb), h76.rowSet (spA_len _ _ _ _ _), hn, hr2.apRow ha, ⟨vrow_row hu.row hA, fun a e => by rw [size_setRow]; exact hu.lt a e, hu.le⟩, fun a e => Nat.le_trans H4.fr.hi (hA2 a e), hf.weak H4.fr.hi, Nat.le_trans H4.fr.hi hb⟩
theorem b76_alloc (w : World) (cs : Array Value) (h : cs.size = 21) : B76 (w.alloc (.cells cs 94)) w.heap.size cs := by
  refine ⟨?_, h⟩
  show (w.heap.push _)[w.heap.size]? = _
  simp
theorem step31 {ops : Array Oper} {o : Oper} {a : Act} {w : World} {K : Act → World → Prop} {Q : Exit → Act → World → Prop} {E : Prop} (hgd : o.guard = none) (x y : Operand) (ho : o.op = .store 31 x y) (g : Nat) (s : St) (r : R3) (hx : a.eval x = .pointer (some ⟨g, 0, none⟩)) (hy : a.eval y = sV s r) (cs : Array Value) (h : Box w g cs)
    (hK : K a (w.setRow g (sA s r))) (hd : o.dst = none := by rfl) : if Region.wanted o (yielded ops a.tmps) = true then Oper.wp Try.prog o a w K Q else E := by
  have hw : Region.wanted o (yielded ops a.tmps) = true := by simp [Region.wanted, hgd]
  rw [if_pos hw]
  exact wp_store_row 31 x y ho g (sA s r) hx hy 31 cs h.1 (by rw [sA_len]; exact info31) (by rw [sA_len, h.2]) (sA_one s r) (by rw [hd]; exact hK)
theorem ld76 {ops : Array Oper} {rest : List Oper} {o : Oper} {a : Act} {w : World} {Q : Exit → Act → World → Prop} (hgd : o.guard = none) (x : Operand) (ho : o.op = .load 31 x) (b : Nat) (hx : a.eval x = .pointer (some ⟨b, 0, none⟩)) (s : St) (r : R3) (A : Option Addr) (n c : Nat) (h : B76 w b (spA s r A n c))
    (hK : wpList Try.prog ops Q rest (a.put o.dst (sV s r)) w) : wpList Try.prog ops Q (o :: rest) a w :=
  wpList_load_mid hgd 31 x ho b 0 hx (sA s r).toList _ (fun j v hv => by
    rw [cell_of_row (w := w) b (0 + j) _ 94 (0, 0) h.1, Nat.zero_add, spA]
    have hj : j < (sA s r).size := by
      have := (List.getElem?_eq_some_iff.1 hv).1
      simpa using this
    rw [Array.getElem?_push_lt hj]
    have hv' : (sA s r)[j]? = some v := by simpa using hv
    rw [← hv', Array.getElem?_eq_getElem hj]) Try.underlying31 rfl (by rw [info31]; rfl) hK
theorem row76 {w : World} {b : Nat} {s : St} {r : R3} {A : Option Addr} {n c : Nat} (h : B76 w b (spA s r A n c)) : w.cell? ⟨b, 20, none⟩ = some (.slice A n c) := by
  rw [cell_of_row (w := w) b 20 _ 94 (0, 0) h.1]; rfl
theorem B76.other {w : World} {b g : Nat} {cs : Array Value} (h : B76 w b cs) (hne : g ≠ b) (ds : Array Value) : B76 (w.setRow g ds) b cs := by
  refine ⟨?_, h.2⟩
  simp only [World.setRow, Array.getElem?_modify]
  rw [if_neg hne]
  exact h.1
theorem results_s3 {fn : Func} {p u v : Tmp} (h : fn.results = #[.cell p 31, .tmp u, .tmp v]) (tmps : Array Value) (w : World) (g : Nat) (cs : Array Value)
    (hp : tmps.getD p undef = .pointer (some ⟨g, 0, none⟩)) (hg : Box w g cs) : (results fn tmps).run Try.prog w = .ok (.tuple #[.agg cs, tmps.getD u undef, tmps.getD v undef]) w := by
  have hp' : tmps[p]?.getD undef = .pointer (some ⟨g, 0, none⟩) := by simpa using hp
  simp only [results, h]
  simp [hp', asAddr, hg.load]
def Lq (m q : Nat) (s : St) : Prop := s.pg.length ≤ m ∧ s.qu.length + s.gh.length ≤ q
theorem Lq.lim {m q : Nat} {s : St} (h : Lq m q s) : Lim s (m + q) := ⟨by have := h.1; omega, by have := h.2; omega, by have := h.2; omega⟩
theorem spS_lq {m q : Nat} {s : St} {k : Int} (hk : k ∈ s.qu) (h : Lq m q s) : Lq m q (spS s k) := by
  have h1 := ls_lt hk
  obtain ⟨h2, h3⟩ := h
  unfold spS; split
  · refine ⟨by show (s.pg.set _ ⟨k, 3, false, false⟩).length ≤ m; rw [List.length_set]; exact h2, ?_⟩
    show (ls s.qu k).length + (s.gh ++ [k]).length ≤ q
    simp only [List.length_append, List.length_singleton]
    omega
  · exact ⟨h2, by show (ls s.qu k).length + s.gh.length ≤ q; omega⟩
theorem spill_lq {m q : Nat} {most : Int} {s : St} (h : Lq m q s) : Lq m q (spill most s).1 := spill_ind (P := Lq m q) (fun s k r _ hq h => spS_lq (by rw [hq]; simp) h) s h
theorem spill_cf {most : Int} {s : St} : (spill most s).1.cf = s.cf := spill_ind (P := fun t => t.cf = s.cf) (fun t k r _ _ h => by rw [spS_cf]; exact h) s rfl
theorem trim_lim {s : St} {m : Nat} (h : Lim s m) : Lim (trim s) m := trim_ind (P := fun t => Lim t m) (fun t k r _ _ h => trS_lim h) s h
theorem trim_cf (s : St) : (trim s).cf = s.cf := trim_ind (P := fun t => t.cf = s.cf) (fun t k r _ _ h => h) s rfl
def S3Post (w : World) (r : R3) (s' : St) (out : List Int) (b : Bool) (e : Ending) (w' : World) : Prop :=
  ∃ r' A n cc, e = .returned (.tuple #[sV s' r', .slice A n cc, .bool b]) ∧ n = out.length ∧ SR w' s' r' ∧ UR w' A cc out ∧ (∀ a, A = some a → w.heap.size ≤ a.block) ∧ Frm w.heap.size r r' ∧ Below w.heap.size w w'
set_option maxHeartbeats 2000000 in
set_option maxRecDepth 100000 in
theorem admit_yes (s : St) (r : R3) (k : Int) (hk : ¬ Kpt s k) (hcf : Cok s.cf) (h1 : 1 ≤ s.cf.c) (hm : (many (gone (mis s) k).pg 1 : Int) ≤ s.cf.c - 1) (hq : s.cf.q ≤ s.cf.c) (hl : Lim s 10000) (w : World) (hr : SR w s r) : Calls Try.prog 47 #[sV s r, .int .u64 k] w fun e w' => S3Post w r (admit s k) (admOut s k) true e w' := by
  have x := F2.start hr
  obtain ⟨w1, hw1⟩ : ∃ w1, w1 = (w.alloc (.cells (sA s r) 31)).alloc (.cells (sA S0 R0) 31) := ⟨_, rfl⟩
  rw [← hw1] at x
  have hA : (w.alloc (.cells (sA s r) 31)).alloc (.cells #[.int .i64 0, .int .i64 0, .int .i64 0, .int .i64 0, .int .i64 0, .slice none 0 0, .slice none 0 0, .slice none 0 0, .int .i64 0, .int .i64 0, .int .u64 0, .int .u64 0, .int .u64 0, .int .u64 0, .int .u64 0, .int .u64 0, .int .u64 0, .int .u64 0, .int .u64 0, .int .u64 0] 31) = w1 := hw1.symm
  have HA := Lib.hid hA
  have HX := Lib.hid x
  have HL := Lib.hid hl
  have HM := Lib.hid hm
  have HQ := Lib.hid hq
  have HK := Lib.hid hk
  have H0 := Lib.hid hcf
  have C18 := Lib.hid (kept_at s r k (hl.up (by omega)) w1 x.fr.rows)
  rw [decide_eq_false hk] at C18
  have hc2 := hcf.1.2
  clear x hw1 hA hl hr hcf hk hm hq
  go_enter Try.func47, Try.ntmps47
  go_wp2_with (first | fail | (rw [HA.out]; refine ld31 rfl (.tmp 2) rfl _ rfl _ HX.out.fr.box ?_))
  refine C18.out.mono ?_
  rintro e w2 ⟨rfl, hb2⟩
  have x2 := HX.out.keep hb2
  have y2 := x2.cellset (x2.fr.setMi (up s.ct.mi))
  have d11 := at11 x2.fr.box
  have f11 := x2.fr.box.free 11
  have hup := wrap_up s.ct.mi
  obtain ⟨w3, hw3⟩ : ∃ w3, w3 = w2.setCell ⟨w.heap.size, 11, none⟩ (.int .u64 (up s.ct.mi)) := ⟨_, rfl⟩
  rw [← hw3] at y2
  have H3 : Hid (F2 w r w3 (mis s) r) := Lib.hid y2
  have HW3 := Lib.hid hw3
  clear x2 y2 hb2 HX HA C18 hw3
  go_wp2_with (first | fail | (rw [← HW3.out]; refine ld31 rfl (.tmp 2) rfl _ rfl _ H3.out.fr.box ?_))
  refine (is_at (mis s) r k (HL.out.up (by omega)) _ H3.out.fr.rows).mono ?_
  rintro e w4 ⟨rfl, hb4⟩
  obtain ⟨z, hz⟩ : ∃ z, z = kOf s k := ⟨_, rfl⟩
  rw [show kOf (mis s) k = z from hz.symm]
  have H4 := Lib.hid (H3.out.keep hb4)
  clear hb4 H3 HW3 d11 f11 hup
  go_wp2_with fail
  obtain ⟨c, hc⟩ : ∃ c, c = s.cf.c := ⟨_, rfl⟩
  have d1 : ∀ p : GrB w4, p.v.cell? ⟨w.heap.size, 1, none⟩ = some (.int .i64 c) := fun p => by rw [hc]; exact at1 (s := mis s) (H4.out.keep p.h).fr.box
  rw [← hc] at h1 hc2
  have C46 : Hid (∀ p : GrB w4, Calls Try.prog 71 #[sV (mis s) r, .int .u64 k] p.v (SPost p.v r (gone (mis s) k))) := Lib.hid fun p => gone_at (mis s) r k (HL.out.up (by omega)) p.v (H4.out.keep p.h).fr.rows
  have C45 : Hid (∀ (V : World) (r1 : R3), SR V (gone (mis s) k) r1 → Calls Try.prog 77 #[sV (gone (mis s) k) r1, .int .i64 (c - 1)] V (SpPost V r1 (adm s k).1 (adm s k).2)) := Lib.hid fun V r1 h => by
    have hc1 : c ≤ 100000 := hc2
    rw [hc] at h1 hc1 ⊢
    exact spill_at (gone (mis s) k) r1 (s.cf.c - 1) ⟨by omega, by omega⟩ HM.out (gone_lim (HL.out.up (by omega))) V h
  have hwr : IntKind.i64.wrap (c - 1) = c - 1 := by rw [IntKind.wrap_i64]; omega
  clear hc
  go_cut [8] from 23 to 30 (fun v8 wx => ∃ (b : Nat) (r2 : R3) (A : Option Addr) (n cc : Nat), v8 = .pointer (some ⟨b, 0, none⟩) ∧ Hid (Mid w r wx (mis s) b (adm s k).1 (adm s k).2 r2 A n cc))
  case first =>
    refine wp_region_held_drew (S := fun w' => ∃ p : GrB w4, w' = p.v) (by kernel_rfl) ⟨⟨_, below_drew (Below.refl _ _) 1⟩, rfl⟩ (fun hHeld => ?_)
    have hB0 : Below w4.heap.size w4 w4.drew := below_drew (Below.refl _ _) 1
    generalize w4.drew = wd at hB0 hHeld ⊢
    refine wpAnyH_take (i := 0) (v := ?tval1) rfl (by kernel_rfl) (by kernel_rfl) (by kernel_rfl) (fun _ _ _ h => h) (Or.inl ⟨by rfl, ?teq1⟩) (by assumption) ?trest1
    case teq1 => (rintro _ ⟨p, rfl⟩; refine exec31 (.tmp 2) ?_ ?_ (H4.out.keep p.h).fr.box <;> rfl)
    try simp only [put_laws]
    refine wpAnyH_take (i := 1) (v := ?tval2) rfl (by kernel_rfl) (by kernel_rfl) (by kernel_rfl) (fun _ _ _ h => h) (Or.inl ⟨by rfl, ?teq2⟩) (by assumption) ?trest2
    case teq2 => (rintro _ ⟨p, rfl⟩; go_simp; with_reducible rfl)
    try simp only [put_laws]
    refine wpAnyH_take (i := 3) (v := ?tval3) rfl (by kernel_rfl) (by kernel_rfl) (by kernel_rfl) (fun _ _ _ h => h) (Or.inl ⟨by rfl, ?teq3⟩) (by assumption) ?trest3
    case teq3 => (rintro _ ⟨p, rfl⟩; go_simp; with_reducible rfl)
    try simp only [put_laws]
    refine wpAnyH_take (i := 4) (v := ?tval4) rfl (by kernel_rfl) (by kernel_rfl) (by kernel_rfl) (fun _ _ _ h => h) (Or.inl ⟨by rfl, ?teq4⟩) (by assumption) ?trest4
    case teq4 => (rintro _ ⟨p, rfl⟩; go_simp; with_reducible rfl)
    try simp only [put_laws]
    refine wpAnyH_take (i := 5) (v := ?tval5) rfl (by kernel_rfl) (by kernel_rfl) (by kernel_rfl) (fun _ _ _ h => h) (Or.inl ⟨by rfl, ?teq5⟩) (by assumption) ?trest5
    case teq5 => (rintro _ ⟨p, rfl⟩; have h0 := d1 p; go_simp; with_reducible rfl)
    try simp only [put_laws]
    refine wpAnyH_take (i := 6) (v := ?tval6) rfl (by kernel_rfl) (by kernel_rfl) (by kernel_rfl) (fun _ _ _ h => h) (Or.inl ⟨by rfl, ?teq6⟩) (by assumption) ?trest6
    case teq6 => (rintro _ ⟨p, rfl⟩; go_simp; with_reducible rfl)
    try simp only [put_laws]
    refine wpAnyH_ready (rs := [2, 8]) (by kernel_rfl) (by simp) ?_
    refine AllReadyH.cons rfl (fun K hK => ?_) ?_
    · go_simp
      refine (C46.out ⟨wd, hB0⟩).mono ?_
      rintro e wg ⟨r1, rfl, hr1, hf1, hb1⟩
      have hb1 : Below (World.heap wd).size wd wg := hb1
      have hf1 : Frm (World.heap wd).size r r1 := hf1
      go_wp2_with fail
      have hB1 : Below w4.heap.size w4 wg := hB0.trans (hb1.mono hB0.size)
      refine hK.out _ _ ⟨⟨_, hB1⟩, rfl⟩ (fun hHeld => ?_)
      clear hK K
      try simp only [put_laws]
      refine wpAnyH_ready (rs := [7, 8]) (by kernel_rfl) (by simp) ?_
      refine AllReadyH.cons rfl (fun K hK => ?_) ?_
      · go_simp
        refine (C45.out wg r1 hr1).mono ?_
        rintro e ws ⟨r2, A, n, cc, rfl, hn, hr2, hu, hA, hf2, hb2⟩
        subst hn
        go_wp2_with fail
        have hB2 : Below w4.heap.size w4 ws := hB1.trans (hb2.mono hB1.size)
        refine hK.out _ _ ⟨⟨_, hB2⟩, rfl⟩ (fun hHeld => ?_)
        clear hK K
        try simp only [put_laws]
        refine wpAnyH_ready (rs := [8]) (by kernel_rfl) (by simp) ?_
        refine AllReadyH.cons rfl (fun K hK => ?_) ?_
        · go_simp
          obtain ⟨wa, hw5⟩ : ∃ v, v = World.alloc ws (.cells #[.int .i64 0, .int .i64 0, .int .i64 0, .int .i64 0, .int .i64 0, .slice none 0 0, .slice none 0 0, .slice none 0 0, .int .i64 0, .int .i64 0, .int .u64 0, .int .u64 0, .int .u64 0, .int .u64 0, .int .u64 0, .int .u64 0, .int .u64 0, .int .u64 0, .int .u64 0, .int .u64 0, .slice none 0 0] 94) := ⟨_, rfl⟩
          have hba := alloc_below ws (.cells #[.int .i64 0, .int .i64 0, .int .i64 0, .int .i64 0, .int .i64 0, .slice none 0 0, .slice none 0 0, .slice none 0 0, .int .i64 0, .int .i64 0, .int .u64 0, .int .u64 0, .int .u64 0, .int .u64 0, .int .u64 0, .int .u64 0, .int .u64 0, .int .u64 0, .int .u64 0, .int .u64 0, .slice none 0 0] 94)
          have h76 : B76 wa (World.heap ws).size #[.int .i64 0, .int .i64 0, .int .i64 0, .int .i64 0, .int .i64 0, .slice none 0 0, .slice none 0 0, .slice none 0 0, .int .i64 0, .int .i64 0, .int .u64 0, .int .u64 0, .int .u64 0, .int .u64 0, .int .u64 0, .int .u64 0, .int .u64 0, .int .u64 0, .int .u64 0, .int .u64 0, .slice none 0 0] := hw5 ▸ b76_alloc ws _ rfl
          have hs5 : wa.heap.size = (World.heap ws).size + 1 := by rw [hw5]; simp
          rw [← hw5] at hba
          have hB3 : Below w4.heap.size w4 wa := hB2.trans (hba.mono hB2.size)
          rw [show World.alloc ws _ = wa from hw5.symm]
          refine hK.out _ _ ⟨⟨wa, hB3⟩, rfl⟩ (fun hHeld => ?_)
          clear hK K hw5
          try simp only [put_laws]
          refine wpAnyH_ready (rs := [9]) (by kernel_rfl) (by simp) ?_
          refine AllReadyH.cons rfl (fun K hK => ?_) ?_
          · refine step76 rfl (.tmp 8) (.tmp 30) rfl _ (adm s k).1 r2 A _ cc rfl rfl _ h76 ?_
            have HM := Lib.hid (mid_fin H4.out hB3 hB2.size h76 (hr2.kept hba) (hr2.old.ap (Nat.le_refl _)) (hu.kept hba) (fun a e => by have := hu.lt a e; omega) (fun a e => by have := hA a e; have := hB1.size; omega) ((hf1.weak hB0.size).trans hf2 hB1.size) rfl)
            refine hK.out _ _ ⟨⟨_, below_setRow hB3 hB2.size⟩, rfl⟩ (fun hHeld => ?_)
            clear hK K
            try simp only [put_laws]
            refine wpAnyH_done (by kernel_rfl) ?_ _
            go_wp2
            go_meet
            exact ⟨_, r2, A, _, cc, rfl, HM⟩
          exact AllReadyH.nil
        exact AllReadyH.nil
      refine AllReadyH.cons rfl (fun K hK => ?_) ?_
      · go_simp
        obtain ⟨wa, hw5⟩ : ∃ v, v = World.alloc wg (.cells #[.int .i64 0, .int .i64 0, .int .i64 0, .int .i64 0, .int .i64 0, .slice none 0 0, .slice none 0 0, .slice none 0 0, .int .i64 0, .int .i64 0, .int .u64 0, .int .u64 0, .int .u64 0, .int .u64 0, .int .u64 0, .int .u64 0, .int .u64 0, .int .u64 0, .int .u64 0, .int .u64 0, .slice none 0 0] 94) := ⟨_, rfl⟩
        have hba := alloc_below wg (.cells #[.int .i64 0, .int .i64 0, .int .i64 0, .int .i64 0, .int .i64 0, .slice none 0 0, .slice none 0 0, .slice none 0 0, .int .i64 0, .int .i64 0, .int .u64 0, .int .u64 0, .int .u64 0, .int .u64 0, .int .u64 0, .int .u64 0, .int .u64 0, .int .u64 0, .int .u64 0, .int .u64 0, .slice none 0 0] 94)
        have h76 : B76 wa (World.heap wg).size #[.int .i64 0, .int .i64 0, .int .i64 0, .int .i64 0, .int .i64 0, .slice none 0 0, .slice none 0 0, .slice none 0 0, .int .i64 0, .int .i64 0, .int .u64 0, .int .u64 0, .int .u64 0, .int .u64 0, .int .u64 0, .int .u64 0, .int .u64 0, .int .u64 0, .int .u64 0, .int .u64 0, .slice none 0 0] := hw5 ▸ b76_alloc wg _ rfl
        have hs5 : wa.heap.size = (World.heap wg).size + 1 := by rw [hw5]; simp
        rw [← hw5] at hba
        have hB2 : Below w4.heap.size w4 wa := hB1.trans (hba.mono hB1.size)
        rw [show World.alloc wg _ = wa from hw5.symm]
        refine hK.out _ _ ⟨⟨wa, hB2⟩, rfl⟩ (fun hHeld => ?_)
        clear hK K hw5
        try simp only [put_laws]
        refine wpAnyH_ready (rs := [7]) (by kernel_rfl) (by simp) ?_
        refine AllReadyH.cons rfl (fun K hK => ?_) ?_
        · go_simp
          refine (C45.out wa r1 (hr1.kept hba)).mono ?_
          rintro e ws ⟨r2, A, n, cc, rfl, hn, hr2, hu, hA, hf2, hb2⟩
          subst hn
          go_wp2_with fail
          have hB3 : Below w4.heap.size w4 ws := hB2.trans (hb2.mono hB2.size)
          refine hK.out _ _ ⟨⟨_, hB3⟩, rfl⟩ (fun hHeld => ?_)
          clear hK K
          try simp only [put_laws]
          refine wpAnyH_ready (rs := [9]) (by kernel_rfl) (by simp) ?_
          refine AllReadyH.cons rfl (fun K hK => ?_) ?_
          · refine step76 rfl (.tmp 8) (.tmp 30) rfl _ (adm s k).1 r2 A _ cc rfl rfl _ (h76.kept hb2 h76.lt) ?_
            have HM := Lib.hid (mid_fin H4.out hB3 hB1.size (h76.kept hb2 h76.lt) hr2 ((hr1.old.ap (Nat.le_refl _)).frm hf2 (by omega)) hu (fun a e => by have := hA a e; omega) (fun a e => by have := hA a e; have := hB2.size; omega) ((hf1.weak hB0.size).trans hf2 hB2.size) rfl)
            refine hK.out _ _ ⟨⟨_, below_setRow hB3 hB1.size⟩, rfl⟩ (fun hHeld => ?_)
            clear hK K
            try simp only [put_laws]
            refine wpAnyH_done (by kernel_rfl) ?_ _
            go_wp2
            go_meet
            exact ⟨_, r2, A, _, cc, rfl, HM⟩
          exact AllReadyH.nil
        exact AllReadyH.nil
      exact AllReadyH.nil
    refine AllReadyH.cons rfl (fun K hK => ?_) ?_
    · go_simp
      obtain ⟨wa, hw5⟩ : ∃ v, v = World.alloc wd (.cells #[.int .i64 0, .int .i64 0, .int .i64 0, .int .i64 0, .int .i64 0, .slice none 0 0, .slice none 0 0, .slice none 0 0, .int .i64 0, .int .i64 0, .int .u64 0, .int .u64 0, .int .u64 0, .int .u64 0, .int .u64 0, .int .u64 0, .int .u64 0, .int .u64 0, .int .u64 0, .int .u64 0, .slice none 0 0] 94) := ⟨_, rfl⟩
      have hba := alloc_below wd (.cells #[.int .i64 0, .int .i64 0, .int .i64 0, .int .i64 0, .int .i64 0, .slice none 0 0, .slice none 0 0, .slice none 0 0, .int .i64 0, .int .i64 0, .int .u64 0, .int .u64 0, .int .u64 0, .int .u64 0, .int .u64 0, .int .u64 0, .int .u64 0, .int .u64 0, .int .u64 0, .int .u64 0, .slice none 0 0] 94)
      have h76 : B76 wa (World.heap wd).size #[.int .i64 0, .int .i64 0, .int .i64 0, .int .i64 0, .int .i64 0, .slice none 0 0, .slice none 0 0, .slice none 0 0, .int .i64 0, .int .i64 0, .int .u64 0, .int .u64 0, .int .u64 0, .int .u64 0, .int .u64 0, .int .u64 0, .int .u64 0, .int .u64 0, .int .u64 0, .int .u64 0, .slice none 0 0] := hw5 ▸ b76_alloc wd _ rfl
      have hs5 : wa.heap.size = (World.heap wd).size + 1 := by rw [hw5]; simp
      rw [← hw5] at hba
      have hB1 : Below w4.heap.size w4 wa := hB0.trans (hba.mono hB0.size)
      rw [show World.alloc wd _ = wa from hw5.symm]
      refine hK.out _ _ ⟨⟨wa, hB1⟩, rfl⟩ (fun hHeld => ?_)
      clear hK K hw5
      try simp only [put_laws]
      refine wpAnyH_ready (rs := [2]) (by kernel_rfl) (by simp) ?_
      refine AllReadyH.cons rfl (fun K hK => ?_) ?_
      · go_simp
        refine (C46.out ⟨wa, hB1⟩).mono ?_
        rintro e wg ⟨r1, rfl, hr1, hf1, hb1⟩
        have hb1 : Below (World.heap wa).size wa wg := hb1
        have hf1 : Frm (World.heap wa).size r r1 := hf1
        go_wp2_with fail
        have hB2 : Below w4.heap.size w4 wg := hB1.trans (hb1.mono hB1.size)
        refine hK.out _ _ ⟨⟨_, hB2⟩, rfl⟩ (fun hHeld => ?_)
        clear hK K
        try simp only [put_laws]
        refine wpAnyH_ready (rs := [7]) (by kernel_rfl) (by simp) ?_
        refine AllReadyH.cons rfl (fun K hK => ?_) ?_
        · go_simp
          refine (C45.out wg r1 hr1).mono ?_
          rintro e ws ⟨r2, A, n, cc, rfl, hn, hr2, hu, hA, hf2, hb2⟩
          subst hn
          go_wp2_with fail
          have hB3 : Below w4.heap.size w4 ws := hB2.trans (hb2.mono hB2.size)
          refine hK.out _ _ ⟨⟨_, hB3⟩, rfl⟩ (fun hHeld => ?_)
          clear hK K
          try simp only [put_laws]
          refine wpAnyH_ready (rs := [9]) (by kernel_rfl) (by simp) ?_
          refine AllReadyH.cons rfl (fun K hK => ?_) ?_
          · refine step76 rfl (.tmp 8) (.tmp 30) rfl _ (adm s k).1 r2 A _ cc rfl rfl _ ((h76.kept hb1 h76.lt).kept hb2 (h76.kept hb1 h76.lt).lt) ?_
            have HM := Lib.hid (mid_fin H4.out hB3 hB0.size ((h76.kept hb1 h76.lt).kept hb2 (h76.kept hb1 h76.lt).lt) hr2 (((H4.out.fr.old.ap (Nat.le_trans H4.out.fr.bel.size hB0.size)).frm hf1 (by omega)).frm hf2 (by have := hb1.size; omega)) hu (fun a e => by have := hA a e; have := hb1.size; omega) (fun a e => by have := hA a e; have := hB2.size; omega) ((hf1.weak hB1.size).trans hf2 hB2.size) rfl)
            refine hK.out _ _ ⟨⟨_, below_setRow hB3 hB0.size⟩, rfl⟩ (fun hHeld => ?_)
            clear hK K
            try simp only [put_laws]
            refine wpAnyH_done (by kernel_rfl) ?_ _
            go_wp2
            go_meet
            exact ⟨_, r2, A, _, cc, rfl, HM⟩
          exact AllReadyH.nil
        exact AllReadyH.nil
      exact AllReadyH.nil
    exact AllReadyH.nil
  case rest =>
    obtain ⟨b, r2, A, n, cc, rfl, HM⟩ := hcut
    have HS : Hid (Lim (adm s k).1 20000 ∧ (adm s k).1.cf = s.cf) := Lib.hid ⟨by
      have h := HL.out
      have h1 : Lq 0 20000 { gone (mis s) k with pg := [] } := ⟨Nat.le_refl _, by have := len_ls s.qu k _ h.2.1; have := len_ls s.gh k _ h.2.2; show (ls s.qu k).length + (ls s.gh k).length ≤ 20000; omega⟩
      have h2 : Lq 10000 20000 (gone (mis s) k) := ⟨len_wo s.pg k _ h.1, h1.2⟩
      have h3 := spill_lq (most := s.cf.c - 1) h2
      exact ⟨by have := h3.1; exact Nat.le_trans this (by omega), by have := h3.2; have := Nat.le_add_right (spill (s.cf.c - 1) (gone (mis s) k)).1.qu.length (spill (s.cf.c - 1) (gone (mis s) k)).1.gh.length; exact Nat.le_trans this h3.2, by have := Nat.le_add_left (spill (s.cf.c - 1) (gone (mis s) k)).1.gh.length (spill (s.cf.c - 1) (gone (mis s) k)).1.qu.length; exact Nat.le_trans this h3.2⟩, spill_cf⟩
    obtain ⟨s2, hs2⟩ : ∃ s2, s2 = (adm s k).1 := ⟨_, rfl⟩
    obtain ⟨out, hout⟩ : ∃ out, out = (adm s k).2 := ⟨_, rfl⟩
    rw [← hs2] at HS
    rw [← hs2, ← hout] at HM
    have HSO := Lib.hid (And.intro hs2 hout)
    clear C45 C46 d1 hwr hs2 hout H4
    go_wp2_with (first | fail | refine ld76 rfl (.tmp 31) rfl _ rfl s2 r2 A n cc HM.out.b76 ?_)
    refine (trim_at s2 r2 (by rw [HS.out.2]; exact H0.out.2.2.1) (HS.out.1.up (by omega)) wc HM.out.sr).mono ?_
    rintro e w5 ⟨r5, rfl, hr5, hf5, hb5⟩
    have x5 := HM.out.f2.keep hb5
    have b5 := HM.out.b76.kept hb5 HM.out.b76.lt
    have u5 := HM.out.ur.kept hb5
    have fr5 := HM.out.frm.trans hf5 HM.out.f2.fr.hi
    have H5 := Lib.hid (And.intro x5 (And.intro b5 (And.intro u5 (And.intro fr5 hr5))))
    clear x5 b5 u5 fr5 hr5 hf5 hb5
    have hlo := HM.out.lo
    have x6 := H5.out.1.setAll H5.out.2.2.2.2 H5.out.2.2.2.1
    have b6 := H5.out.2.1.other (g := w.heap.size) (by omega) (sA (trim s2) r5)
    have u6 : UR (w5.setRow w.heap.size (sA (trim s2) r5)) A cc out := ⟨vrow_row H5.out.2.2.1.row (fun a e => by have := HM.out.fresh a e; omega), fun a e => by rw [size_setRow]; exact H5.out.2.2.1.lt a e, H5.out.2.2.1.le⟩
    obtain ⟨w6, hw6⟩ : ∃ w6, w6 = w5.setRow w.heap.size (sA (trim s2) r5) := ⟨_, rfl⟩
    have hb5 := H5.out.1.fr.box
    rw [← hw6] at x6 b6 u6
    have H6 := Lib.hid (And.intro x6 (And.intro b6 u6))
    have HW6 := Lib.hid hw6
    have HB5 := Lib.hid hb5
    have HF := Lib.hid (And.intro HM.out.n (And.intro HM.out.fresh hlo))
    obtain ⟨s3, hs3⟩ : ∃ s3, s3 = trim s2 := ⟨_, rfl⟩
    rw [← hs3] at H6
    have HS3 : Hid (Lim s3 20000 ∧ s3.cf = s.cf ∧ s3 = trim s2) := Lib.hid ⟨by rw [hs3]; exact trim_lim HS.out.1, by rw [hs3, trim_cf]; exact HS.out.2, hs3⟩
    have C42 := Lib.hid (fun V (x : F2 w r V s3 r5) => room_at s3 r5 (by rw [HS3.out.2.1]; exact H0.out) (HS3.out.1.up (by omega)) V x.fr.rows)
    rw [← hs3] at hw6 HW6
    obtain ⟨rm, hrm⟩ : ∃ b, b = decide (Rm s3) := ⟨_, rfl⟩
    rw [← hrm] at C42
    have HRM := Lib.hid hrm
    obtain ⟨wz, hwz⟩ : ∃ b, b = (kOf s k == 3) := ⟨_, rfl⟩
    rw [← hwz]
    have HWZ := Lib.hid hwz
    rw [← hs3]
    clear x6 b6 u6 hw6 hb5 hlo hs3 hrm hwz H5 HM HS
    cases wz
    · go_wp2_with (first | fail | refine st31 rfl (.tmp 2) (.tmp 33) rfl _ s3 r5 rfl rfl _ HB5.out ?_ | (rw [← HW6.out]; refine ld31g rfl (.tmp 2) rfl _ rfl _ H6.out.1.fr.box ?_))
      refine (C42.out _ H6.out.1).mono ?_
      rintro e w7 ⟨rfl, hb7⟩
      have H7 := Lib.hid (And.intro (H6.out.1.keep hb7) (And.intro (H6.out.2.1.kept hb7 H6.out.2.1.lt) (H6.out.2.2.kept hb7)))
      clear hb7 H6 HW6 HB5 C42
      cases rm
      · go_wp2_with fail
        refine wp_region_held_drew (S := fun W' => Box W' w.heap.size (sA s3 r5) ∧ B76 W' b (spA s2 r2 A n cc)) (by kernel_rfl) ⟨(H7.out.1.keep (below_drew (Below.refl _ _) 1)).fr.box, H7.out.2.1.kept (below_drew (Below.refl _ _) 1) H7.out.2.1.lt⟩ (fun hHeld => ?_)
        have y0 : F2 w r (World.drew w7) s3 r5 := H7.out.1.keep (below_drew (Below.refl _ _) 1)
        have u0 : UR (World.drew w7) A cc out := H7.out.2.2.kept (below_drew (Below.refl _ _) 1)
        generalize World.drew w7 = wd at hHeld y0 u0 ⊢
        refine wpAnyH_take (i := 0) (v := ?tval7) rfl (by kernel_rfl) (by kernel_rfl) (by kernel_rfl) (fun _ _ _ h => h) (Or.inl ⟨by rfl, ?teq7⟩) (by assumption) ?trest7
        case teq7 => (rintro _ ⟨p, _⟩; refine exec31 (.tmp 2) ?_ ?_ p <;> rfl)
        try simp only [put_laws]
        refine wpAnyH_take (i := 1) (v := ?tval8) rfl (by kernel_rfl) (by kernel_rfl) (by kernel_rfl) (fun _ _ _ h => h) (Or.inl ⟨by rfl, ?teq8⟩) (by assumption) ?trest8
        case teq8 => (rintro _ ⟨p, _⟩; go_simp; with_reducible rfl)
        try simp only [put_laws]
        refine wpAnyH_take (i := 4) (v := ?tval9) rfl (by kernel_rfl) (by kernel_rfl) (by kernel_rfl) (fun _ _ _ h => h) (Or.inl ⟨by rfl, ?teq9⟩) (by assumption) ?trest9
        case teq9 => (rintro _ ⟨p, _⟩; go_simp; with_reducible rfl)
        try simp only [put_laws]
        refine wpAnyH_take (i := 5) (v := ?tval10) rfl (by kernel_rfl) (by kernel_rfl) (by kernel_rfl) (fun _ _ _ h => h) (Or.inl ⟨by rfl, ?teq10⟩) (by assumption) ?trest10
        case teq10 => (rintro _ ⟨_, p⟩; have h0 := row76 p; go_simp; with_reducible rfl)
        try simp only [put_laws]
        refine wpAnyH_ready (rs := [2]) (by kernel_rfl) (by simp) ?_
        refine AllReadyH.cons rfl (fun K hK => ?_) ?_
        · go_simp
          refine (cool_at s3 r5 k HS3.out.1 wd y0.fr.rows).mono ?_
          rintro e w8 ⟨r8, rfl, hr8, hf8, hb8⟩
          have y8 := y0.keep hb8
          have f8 := y0.fr.told hr8 hf8
          have u8 := u0.kept hb8
          have q8 := hHeld.2.kept hb8 hHeld.2.lt
          go_wp2_with fail
          refine hK.out _ _ ⟨y8.fr.box, q8⟩ (fun hHeld => ?_)
          clear hK K
          try simp only [put_laws]
          refine wpAnyH_ready (rs := [3]) (by kernel_rfl) (by simp) ?_
          refine AllReadyH.cons rfl (fun K hK => ?_) ?_
          · go_simp
            refine (prune_at (cool s3 k) r8 (cool_lim HS3.out.1) w8 hr8).mono ?_
            rintro e w9 ⟨r9, rfl, hr9, hf9, hb9⟩
            have y9 := y8.keep hb9
            have f9 := y8.grow f8 hf9
            have u9 := u8.kept hb9
            have q9 := q8.kept hb9 q8.lt
            go_wp2_with fail
            refine hK.out _ _ ⟨y9.fr.box, q9⟩ (fun hHeld => ?_)
            clear hK K
            try simp only [put_laws]
            refine wpAnyH_ready (rs := [6]) (by kernel_rfl) (by simp) ?_
            refine AllReadyH.cons rfl (fun K hK => ?_) ?_
            · refine step31 rfl (.tmp 4) (.tmp 48) rfl _ (prune (cool s3 k)) r9 rfl rfl _ y9.res ?_
              have hl0 := HF.out.2.2
              refine hK.out _ _ ⟨y9.fr.box.other (by omega) _, q9.other (by omega) _⟩ (fun hHeld => ?_)
              clear hK K
              try simp only [put_laws]
              refine wpAnyH_ready (rs := [7]) (by kernel_rfl) (by simp) ?_
              refine AllReadyH.cons rfl (fun K hK => ?_) ?_
              · go_simp
                refine hK.out _ _ hHeld (fun hHeld => ?_)
                clear hK K
                try simp only [put_laws]
                refine wpAnyH_ready (rs := [8]) (by kernel_rfl) (by simp) ?_
                refine AllReadyH.cons rfl (fun K hK => ?_) ?_
                · go_simp
                  refine hK.out _ _ hHeld (fun hHeld => ?_)
                  clear hK K
                  try simp only [put_laws]
                  refine wpAnyH_done (by kernel_rfl) ?_ _
                  go_wp2_with fail
                  refine bodyPost_ret (results_s3 rfl _ _ _ _ rfl (y9.res.rowSet (sA_len _ _))) rfl ?_
                  have hA2 : admOut s k = out := by unfold admOut; rw [if_neg HK.out, ← HSO.out.2]
                  have hA1 : admit s k = prune (cool s3 k) := by
                    unfold admit
                    rw [if_neg HK.out, ← HSO.out.1, ← HS3.out.2.2]
                    rw [if_neg (fun h => h.elim (fun h => by have := HWZ.out; rw [h] at this; cases this) (fun h => by have := HRM.out; rw [decide_eq_true h] at this; cases this))]
                  show S3Post w r (admit s k) (admOut s k) true _ _
                  rw [hA1, hA2]
                  exact ⟨r9, A, n, cc, rfl, HF.out.1, sr_row hr9 f9 y9.fr.old (Nat.le_succ _) (by omega) _, ⟨vrow_row u9.row (fun a e => by have := HF.out.2.1 a e; omega), fun a e => by rw [size_setRow]; exact u9.lt a e, u9.le⟩, fun a e => by have := HF.out.2.1 a e; omega, f9.weak (by omega), below_setRow y9.fr.bel (Nat.le_succ _)⟩
                exact AllReadyH.nil
              exact AllReadyH.nil
            exact AllReadyH.nil
          exact AllReadyH.nil
        exact AllReadyH.nil
      · go_wp2_with fail
        refine wp_region_held_drew (S := fun W' => Box W' w.heap.size (sA s3 r5) ∧ B76 W' b (spA s2 r2 A n cc)) (by kernel_rfl) ⟨(H7.out.1.keep (below_drew (Below.refl _ _) 1)).fr.box, H7.out.2.1.kept (below_drew (Below.refl _ _) 1) H7.out.2.1.lt⟩ (fun hHeld => ?_)
        have y0 : F2 w r (World.drew w7) s3 r5 := H7.out.1.keep (below_drew (Below.refl _ _) 1)
        have u0 : UR (World.drew w7) A cc out := H7.out.2.2.kept (below_drew (Below.refl _ _) 1)
        generalize World.drew w7 = wd at hHeld y0 u0 ⊢
        refine wpAnyH_take (i := 0) (v := ?tval11) rfl (by kernel_rfl) (by kernel_rfl) (by kernel_rfl) (fun _ _ _ h => h) (Or.inl ⟨by rfl, ?teq11⟩) (by assumption) ?trest11
        case teq11 => (rintro _ ⟨p, _⟩; refine exec31 (.tmp 2) ?_ ?_ p <;> rfl)
        try simp only [put_laws]
        refine wpAnyH_take (i := 1) (v := ?tval12) rfl (by kernel_rfl) (by kernel_rfl) (by kernel_rfl) (fun _ _ _ h => h) (Or.inl ⟨by rfl, ?teq12⟩) (by assumption) ?trest12
        case teq12 => (rintro _ ⟨p, _⟩; go_simp; with_reducible rfl)
        try simp only [put_laws]
        refine wpAnyH_take (i := 4) (v := ?tval13) rfl (by kernel_rfl) (by kernel_rfl) (by kernel_rfl) (fun _ _ _ h => h) (Or.inl ⟨by rfl, ?teq13⟩) (by assumption) ?trest13
        case teq13 => (rintro _ ⟨p, _⟩; go_simp; with_reducible rfl)
        try simp only [put_laws]
        refine wpAnyH_take (i := 5) (v := ?tval14) rfl (by kernel_rfl) (by kernel_rfl) (by kernel_rfl) (fun _ _ _ h => h) (Or.inl ⟨by rfl, ?teq14⟩) (by assumption) ?trest14
        case teq14 => (rintro _ ⟨_, p⟩; have h0 := row76 p; go_simp; with_reducible rfl)
        try simp only [put_laws]
        refine wpAnyH_ready (rs := [2]) (by kernel_rfl) (by simp) ?_
        refine AllReadyH.cons rfl (fun K hK => ?_) ?_
        · go_simp
          refine (raise_at s3 r5 k (by rw [HS3.out.2.1]; exact H0.out) (by rw [HS3.out.2.1]; exact HQ.out) HS3.out.1 wd y0.fr.rows).mono ?_
          rintro e w8 ⟨r8, rfl, hr8, hf8, hb8⟩
          have y8 := y0.keep hb8
          have f8 := y0.fr.told hr8 hf8
          have u8 := u0.kept hb8
          have q8 := hHeld.2.kept hb8 hHeld.2.lt
          go_wp2_with fail
          refine hK.out _ _ ⟨y8.fr.box, q8⟩ (fun hHeld => ?_)
          clear hK K
          try simp only [put_laws]
          refine wpAnyH_ready (rs := [3]) (by kernel_rfl) (by simp) ?_
          refine AllReadyH.cons rfl (fun K hK => ?_) ?_
          · go_simp
            refine (prune_at (raise s3 k) r8 (raise_lim HS3.out.1) w8 hr8).mono ?_
            rintro e w9 ⟨r9, rfl, hr9, hf9, hb9⟩
            have y9 := y8.keep hb9
            have f9 := y8.grow f8 hf9
            have u9 := u8.kept hb9
            have q9 := q8.kept hb9 q8.lt
            go_wp2_with fail
            refine hK.out _ _ ⟨y9.fr.box, q9⟩ (fun hHeld => ?_)
            clear hK K
            try simp only [put_laws]
            refine wpAnyH_ready (rs := [6]) (by kernel_rfl) (by simp) ?_
            refine AllReadyH.cons rfl (fun K hK => ?_) ?_
            · refine step31 rfl (.tmp 4) (.tmp 42) rfl _ (prune (raise s3 k)) r9 rfl rfl _ y9.res ?_
              have hl0 := HF.out.2.2
              refine hK.out _ _ ⟨y9.fr.box.other (by omega) _, q9.other (by omega) _⟩ (fun hHeld => ?_)
              clear hK K
              try simp only [put_laws]
              refine wpAnyH_ready (rs := [7]) (by kernel_rfl) (by simp) ?_
              refine AllReadyH.cons rfl (fun K hK => ?_) ?_
              · go_simp
                refine hK.out _ _ hHeld (fun hHeld => ?_)
                clear hK K
                try simp only [put_laws]
                refine wpAnyH_ready (rs := [8]) (by kernel_rfl) (by simp) ?_
                refine AllReadyH.cons rfl (fun K hK => ?_) ?_
                · go_simp
                  refine hK.out _ _ hHeld (fun hHeld => ?_)
                  clear hK K
                  try simp only [put_laws]
                  refine wpAnyH_done (by kernel_rfl) ?_ _
                  go_wp2_with fail
                  refine bodyPost_ret (results_s3 rfl _ _ _ _ rfl (y9.res.rowSet (sA_len _ _))) rfl ?_
                  have hA2 : admOut s k = out := by unfold admOut; rw [if_neg HK.out, ← HSO.out.2]
                  have hA1 : admit s k = prune (raise s3 k) := by
                    unfold admit
                    rw [if_neg HK.out, ← HSO.out.1, ← HS3.out.2.2]
                    rw [if_pos (Or.inr (of_decide_eq_true HRM.out.symm))]
                  show S3Post w r (admit s k) (admOut s k) true _ _
                  rw [hA1, hA2]
                  exact ⟨r9, A, n, cc, rfl, HF.out.1, sr_row hr9 f9 y9.fr.old (Nat.le_succ _) (by omega) _, ⟨vrow_row u9.row (fun a e => by have := HF.out.2.1 a e; omega), fun a e => by rw [size_setRow]; exact u9.lt a e, u9.le⟩, fun a e => by have := HF.out.2.1 a e; omega, f9.weak (by omega), below_setRow y9.fr.bel (Nat.le_succ _)⟩
                exact AllReadyH.nil
              exact AllReadyH.nil
            exact AllReadyH.nil
          exact AllReadyH.nil
        exact AllReadyH.nil
    · go_wp2_with (first | fail | refine st31 rfl (.tmp 2) (.tmp 33) rfl _ s3 r5 rfl rfl _ HB5.out ?_)
      rw [← HW6.out]
      refine wp_region_held_drew (S := fun W' => Box W' w.heap.size (sA s3 r5) ∧ B76 W' b (spA s2 r2 A n cc)) (by kernel_rfl) ⟨(H6.out.1.keep (below_drew (Below.refl _ _) 1)).fr.box, H6.out.2.1.kept (below_drew (Below.refl _ _) 1) H6.out.2.1.lt⟩ (fun hHeld => ?_)
      have y0 : F2 w r (World.drew w6) s3 r5 := H6.out.1.keep (below_drew (Below.refl _ _) 1)
      have u0 : UR (World.drew w6) A cc out := H6.out.2.2.kept (below_drew (Below.refl _ _) 1)
      generalize World.drew w6 = wd at hHeld y0 u0 ⊢
      refine wpAnyH_take (i := 0) (v := ?tval15) rfl (by kernel_rfl) (by kernel_rfl) (by kernel_rfl) (fun _ _ _ h => h) (Or.inl ⟨by rfl, ?teq15⟩) (by assumption) ?trest15
      case teq15 => (rintro _ ⟨p, _⟩; refine exec31 (.tmp 2) ?_ ?_ p <;> rfl)
      try simp only [put_laws]
      refine wpAnyH_take (i := 1) (v := ?tval16) rfl (by kernel_rfl) (by kernel_rfl) (by kernel_rfl) (fun _ _ _ h => h) (Or.inl ⟨by rfl, ?teq16⟩) (by assumption) ?trest16
      case teq16 => (rintro _ ⟨p, _⟩; go_simp; with_reducible rfl)
      try simp only [put_laws]
      refine wpAnyH_take (i := 4) (v := ?tval17) rfl (by kernel_rfl) (by kernel_rfl) (by kernel_rfl) (fun _ _ _ h => h) (Or.inl ⟨by rfl, ?teq17⟩) (by assumption) ?trest17
      case teq17 => (rintro _ ⟨p, _⟩; go_simp; with_reducible rfl)
      try simp only [put_laws]
      refine wpAnyH_take (i := 5) (v := ?tval18) rfl (by kernel_rfl) (by kernel_rfl) (by kernel_rfl) (fun _ _ _ h => h) (Or.inl ⟨by rfl, ?teq18⟩) (by assumption) ?trest18
      case teq18 => (rintro _ ⟨_, p⟩; have h0 := row76 p; go_simp; with_reducible rfl)
      try simp only [put_laws]
      refine wpAnyH_ready (rs := [2]) (by kernel_rfl) (by simp) ?_
      refine AllReadyH.cons rfl (fun K hK => ?_) ?_
      · go_simp
        refine (raise_at s3 r5 k (by rw [HS3.out.2.1]; exact H0.out) (by rw [HS3.out.2.1]; exact HQ.out) HS3.out.1 wd y0.fr.rows).mono ?_
        rintro e w8 ⟨r8, rfl, hr8, hf8, hb8⟩
        have y8 := y0.keep hb8
        have f8 := y0.fr.told hr8 hf8
        have u8 := u0.kept hb8
        have q8 := hHeld.2.kept hb8 hHeld.2.lt
        go_wp2_with fail
        refine hK.out _ _ ⟨y8.fr.box, q8⟩ (fun hHeld => ?_)
        clear hK K
        try simp only [put_laws]
        refine wpAnyH_ready (rs := [3]) (by kernel_rfl) (by simp) ?_
        refine AllReadyH.cons rfl (fun K hK => ?_) ?_
        · go_simp
          refine (prune_at (raise s3 k) r8 (raise_lim HS3.out.1) w8 hr8).mono ?_
          rintro e w9 ⟨r9, rfl, hr9, hf9, hb9⟩
          have y9 := y8.keep hb9
          have f9 := y8.grow f8 hf9
          have u9 := u8.kept hb9
          have q9 := q8.kept hb9 q8.lt
          go_wp2_with fail
          refine hK.out _ _ ⟨y9.fr.box, q9⟩ (fun hHeld => ?_)
          clear hK K
          try simp only [put_laws]
          refine wpAnyH_ready (rs := [6]) (by kernel_rfl) (by simp) ?_
          refine AllReadyH.cons rfl (fun K hK => ?_) ?_
          · refine step31 rfl (.tmp 4) (.tmp 42) rfl _ (prune (raise s3 k)) r9 rfl rfl _ y9.res ?_
            have hl0 := HF.out.2.2
            refine hK.out _ _ ⟨y9.fr.box.other (by omega) _, q9.other (by omega) _⟩ (fun hHeld => ?_)
            clear hK K
            try simp only [put_laws]
            refine wpAnyH_ready (rs := [7]) (by kernel_rfl) (by simp) ?_
            refine AllReadyH.cons rfl (fun K hK => ?_) ?_
            · go_simp
              refine hK.out _ _ hHeld (fun hHeld => ?_)
              clear hK K
              try simp only [put_laws]
              refine wpAnyH_ready (rs := [8]) (by kernel_rfl) (by simp) ?_
              refine AllReadyH.cons rfl (fun K hK => ?_) ?_
              · go_simp
                refine hK.out _ _ hHeld (fun hHeld => ?_)
                clear hK K
                try simp only [put_laws]
                refine wpAnyH_done (by kernel_rfl) ?_ _
                go_wp2_with fail
                refine bodyPost_ret (results_s3 rfl _ _ _ _ rfl (y9.res.rowSet (sA_len _ _))) rfl ?_
                have hA2 : admOut s k = out := by unfold admOut; rw [if_neg HK.out, ← HSO.out.2]
                have hA1 : admit s k = prune (raise s3 k) := by
                  unfold admit
                  rw [if_neg HK.out, ← HSO.out.1, ← HS3.out.2.2]
                  rw [if_pos (Or.inl (eq_of_beq HWZ.out.symm))]
                show S3Post w r (admit s k) (admOut s k) true _ _
                rw [hA1, hA2]
                exact ⟨r9, A, n, cc, rfl, HF.out.1, sr_row hr9 f9 y9.fr.old (Nat.le_succ _) (by omega) _, ⟨vrow_row u9.row (fun a e => by have := HF.out.2.1 a e; omega), fun a e => by rw [size_setRow]; exact u9.lt a e, u9.le⟩, fun a e => by have := HF.out.2.1 a e; omega, f9.weak (by omega), below_setRow y9.fr.bel (Nat.le_succ _)⟩
              exact AllReadyH.nil
            exact AllReadyH.nil
          exact AllReadyH.nil
        exact AllReadyH.nil
      exact AllReadyH.nil
end Go.Proofs.Ytifenpmkbnohhaa
