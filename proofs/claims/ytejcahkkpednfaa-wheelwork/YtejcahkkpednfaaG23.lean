/-
  The ring: Resize.
-/
import Derived.Test.YtejcahkkpednfaaG22
import Derived.Test.YtejcahkkpednfaaG05
namespace Go.Proofs.Ytejcahkkpednfaa
open Go.RowKit
open Go.Proofs.StackM (Pg Cf Ct St up many fnd fnd_at fnd_no)
open Go.Proofs.WheelM
set_option linter.unusedVariables false
theorem step76 {ops : Array Oper} {o : Oper} {a : Act} {w : World} {K : Act → World → Prop} {Q : Exit → Act → World → Prop} {E : Prop} (hgd : o.guard = none) (x y : Operand) (ho : o.op = .store 93 x y) (g : Nat) (s : St) (r : R3) (A : Option Addr) (n c : Nat) (hx : a.eval x = .pointer (some ⟨g, 0, none⟩)) (hy : a.eval y = .agg (spA s r A n c)) (cs : Array Value) (h : B76 w g cs)
    (hK : K a (w.setRow g (spA s r A n c))) (hd : o.dst = none := by rfl) : if Region.wanted o (yielded ops a.tmps) = true then Oper.wp Try.prog o a w K Q else E := by
  have hw : Region.wanted o (yielded ops a.tmps) = true := by simp [Region.wanted, hgd]
  rw [if_pos hw]
  exact wp_store_row 93 x y ho g (spA s r A n c) hx hy 93 cs h.1 (by rw [spA_len]; exact info76) (by rw [spA_len, h.2]) (spA_one s r A n c) (by rw [hd]; exact hK)
/-- the frame of Resize -/
structure F4 (c : Cf) (w : World) (r0 : R3) (w' : World) (s : St) (r : R3) : Prop where
  fr : Fr w (w.heap.size + 3) r0 w' w.heap.size s r
  cfg : w'.heap[w.heap.size + 1]? = some (.cells (cA c) 24 (0, 0))
  res : Box w' (w.heap.size + 2) (sA S0 R0)
theorem F4.keep {c : Cf} {w w1 w2 : World} {r0 r : R3} {s : St} (x : F4 c w r0 w1 s r) (hb : Below w1.heap.size w1 w2) : F4 c w r0 w2 s r :=
  ⟨x.fr.keep hb, by rw [hb.block _ (Array.getElem?_eq_some_iff.1 x.cfg).1]; exact x.cfg, x.res.kept hb x.res.lt⟩
theorem F4.start {c : Cf} {w : World} {s : St} {r : R3} (h : SR w s r) : F4 c w r (((w.alloc (.cells (sA s r) 31)).alloc (.cells (cA c) 24)).alloc (.cells (sA S0 R0) 31)) s r := by
  have b1 := alloc_below w (.cells (sA s r) 31)
  have b2 := alloc_in b1 b1.size (.cells (cA c) 24)
  have b3 := alloc_in b2 b2.size (.cells (sA S0 R0) 31)
  have e2 := alloc_below (w.alloc (.cells (sA s r) 31)) (.cells (cA c) 24)
  have e3 := alloc_below ((w.alloc (.cells (sA s r) 31)).alloc (.cells (cA c) 24)) (.cells (sA S0 R0) 31)
  refine ⟨⟨((box_alloc w (sA s r) (sA_len _ _)).kept e2 (by simp)).kept e3 (by simp; omega), h.kept b3, Frm.refl _ _, h.old, b3, Nat.le_refl _, by omega, by simp⟩, ?_, ?_⟩
  · rw [e3.block _ (by simp)]
    have := heap_alloc_new (w.alloc (.cells (sA s r) 31)) (.cells (cA c) 24)
    simpa using this
  · have := box_alloc ((w.alloc (.cells (sA s r) 31)).alloc (.cells (cA c) 24)) (sA S0 R0) rfl
    simpa using this
theorem F4.cellset {c : Cf} {w w1 : World} {r0 r : R3} {s : St} (x : F4 c w r0 w1 s r) {k : Nat} {v : Value} {s' : St} {r' : R3} (y : Fr w (w.heap.size + 3) r0 (w1.setCell ⟨w.heap.size, k, none⟩ v) w.heap.size s' r') : F4 c w r0 (w1.setCell ⟨w.heap.size, k, none⟩ v) s' r' :=
  ⟨y, by rw [Below.heap_setCell w1 ⟨w.heap.size, k, none⟩ v _ (by show w.heap.size + 1 ≠ w.heap.size; omega)]; exact x.cfg, x.res.cellOther (by simp)⟩
/-- the config's four cells are set -/
theorem F4.setCf {c : Cf} {w w1 : World} {r0 r : R3} {s : St} (x : F4 c w r0 w1 s r) (d : Cf) : F4 c w r0 (w1.setCells w.heap.size 0 (cA d).toList) { s with cf := d } r := by
  have x1 := x.cellset (x.fr.set 0 (.int .i64 d.p) { s with cf := { s.cf with p := d.p } } r rfl ⟨x.fr.rows.pg, x.fr.rows.qu, x.fr.rows.gh⟩ x.fr.frm)
  have x2 := x1.cellset (x1.fr.set 1 (.int .i64 d.c) { s with cf := { s.cf with p := d.p, c := d.c } } r rfl ⟨x1.fr.rows.pg, x1.fr.rows.qu, x1.fr.rows.gh⟩ x.fr.frm)
  have x3 := x2.cellset (x2.fr.set 2 (.int .i64 d.q) { s with cf := { s.cf with p := d.p, c := d.c, q := d.q } } r rfl ⟨x2.fr.rows.pg, x2.fr.rows.qu, x2.fr.rows.gh⟩ x.fr.frm)
  have x4 := x3.cellset (x3.fr.set 3 (.int .i64 d.g) { s with cf := d } r rfl ⟨x3.fr.rows.pg, x3.fr.rows.qu, x3.fr.rows.gh⟩ x.fr.frm)
  exact x4
/-- what Resize tells -/
def SsPost (w : World) (r : R3) (s' : St) (out : List Int) (e : Ending) (w' : World) : Prop :=
  ∃ r' A n cc, e = .returned (.tuple #[sV s' r', .slice A n cc]) ∧ n = out.length ∧ SR w' s' r' ∧ UR w' A cc out ∧ (∀ a, A = some a → w.heap.size ≤ a.block) ∧ Frm w.heap.size r r' ∧ Below w.heap.size w w'
theorem range76 {w : World} {b : Nat} {s : St} {r : R3} {A : Option Addr} {n c : Nat} (h : B76 w b (spA s r A n c)) : w.rangeAt b 0 (sA s r).toList := fun j v hv => by
  rw [cell_of_row (w := w) b (0 + j) _ 93 (0, 0) h.1, Nat.zero_add, spA]
  have hj : j < (sA s r).size := by
    have := (List.getElem?_eq_some_iff.1 hv).1
    simpa using this
  rw [Array.getElem?_push_lt hj]
  have hv' : (sA s r)[j]? = some v := by simpa using hv
  rw [← hv', Array.getElem?_eq_getElem hj]
theorem exec76 {o : Oper} {a : Act} {w : World} {b : Nat} {s : St} {r : R3} {A : Option Addr} {n c : Nat} (x : Operand) (ho : o.op = .load 31 x) (hx : a.eval x = .pointer (some ⟨b, 0, none⟩)) (h : B76 w b (spA s r A n c)) : (execOp a.eval o).run Try.prog w = .ok (.value (sV s r)) w := by
  have := run_loadAt_mid (P := Try.prog) w b 0 31 (sA s r).toList _ (range76 h) Try.underlying31 rfl (by rw [info31]; rfl)
  simp only [Array.toArray_toList] at this
  simp [execOp, ho, hx, this]
structure Mid4 (c : Cf) (w : World) (r : R3) (wx : World) (s : St) (b : Nat) (s2 : St) (out : List Int) (r2 : R3) (A : Option Addr) (n cc : Nat) : Prop where
  f4 : F4 c w r wx s r
  b76 : B76 wx b (spA s2 r2 A n cc)
  n : n = out.length
  sr : SR wx s2 r2
  ur : UR wx A cc out
  fresh : ∀ a, A = some a → w.heap.size + 3 ≤ a.block
  frm : Frm (w.heap.size + 3) r r2
  lo : w.heap.size + 3 ≤ b
theorem mid_fin4 {c : Cf} {w w4 ws : World} {r r2 : R3} {s s2 : St} {b n cc : Nat} {A : Option Addr} {out : List Int} {cs : Array Value} (H4 : F4 c w r w4 s r) (hB : Below w4.heap.size w4 ws) (hb : w4.heap.size ≤ b) (h76 : B76 ws b cs) (hr2 : SR ws s2 r2) (ha : Ap b r2) (hu : UR ws A cc out)
    (hA : ∀ a, A = some a → a.block ≠ b) (hA2 : ∀ a, A = some a → w4.heap.size ≤ a.block) (hf : Frm w4.heap.size r r2) (hn : n = out.length) : Mid4 c w r (ws.setRow b (spA s2 r2 A n cc)) s b s2 out r2 A n cc :=
  ⟨H4.keep (below_setRow hB hb), h76.rowSet (spA_len _ _ _ _ _), hn, hr2.apRow ha, ⟨vrow_row hu.row hA, fun a e => by rw [size_setRow]; exact hu.lt a e, hu.le⟩, fun a e => Nat.le_trans H4.fr.hi (hA2 a e), hf.weak H4.fr.hi, Nat.le_trans H4.fr.hi hb⟩
set_option maxHeartbeats 4000000 in
set_option maxRecDepth 100000 in
theorem resize_at (s : St) (r : R3) (c : Cf) (hg : Wg s) (hc : Clk c) (w : World) (hr : SR w s r) : Calls Try.prog 67 #[sV s r, cV c] w (SsPost w r (resizeW s c) (rszW s c).2) := by
  have x : F4 c w r _ s r := F4.start hr
  obtain ⟨w1, hw1⟩ : ∃ w1, w1 = ((w.alloc (.cells (sA s r) 31)).alloc (.cells (cA c) 24)).alloc (.cells (sA S0 R0) 31) := ⟨_, rfl⟩
  rw [← hw1] at x
  have hA : ((w.alloc (.cells (sA s r) 31)).alloc (.cells #[.int .i64 c.p, .int .i64 c.c, .int .i64 c.q, .int .i64 c.g] 24)).alloc (.cells #[.int .i64 0, .int .i64 0, .int .i64 0, .int .i64 0, .int .i64 0, .slice none 0 0, .slice none 0 0, .slice none 0 0, .int .i64 0, .int .i64 0, .int .u64 0, .int .u64 0, .int .u64 0, .int .u64 0, .int .u64 0, .int .u64 0, .int .u64 0, .int .u64 0, .int .u64 0, .int .u64 0] 31) = w1 := hw1.symm
  have HA := Lib.hid hA
  have HX := Lib.hid x
  have q0 := x.setCf c
  have q1 := q0.cellset (q0.fr.set 4 (.int .i64 c.q) (reS s c) r rfl ⟨q0.fr.rows.pg, q0.fr.rows.qu, q0.fr.rows.gh⟩ q0.fr.frm)
  obtain ⟨wq, hwq⟩ : ∃ v, v = w1.setCells w.heap.size 0 (cA c).toList := ⟨_, rfl⟩
  rw [← hwq] at q0 q1
  have dq2 : wq.cell? ⟨w.heap.size + 1, 2, none⟩ = some (.int .i64 c.q) := by
    rw [cell_of_row (w := wq) (w.heap.size + 1) 2 (cA c) 24 (0, 0) q0.cfg]
    rfl
  have d4 := at4 q0.fr.box
  have f4 := q0.fr.box.free 4
  obtain ⟨w4, hw4⟩ : ∃ v, v = wq.setCell ⟨w.heap.size, 4, none⟩ (.int .i64 c.q) := ⟨_, rfl⟩
  rw [← hw4] at q1
  obtain ⟨s1, hs1⟩ : ∃ s1, s1 = reS s c := ⟨_, rfl⟩
  have HRS : Hid (rszW s c = spillW c.c (cool s1) ∧ resizeW s c = expire (rszW s c).1) := Lib.hid ⟨by rw [hs1]; rfl, rfl⟩
  rw [← hs1] at q1
  have H4 := Lib.hid q1
  have HWQ := Lib.hid (And.intro hwq hw4)
  have hww : Ww s1 := by rw [hs1]; exact ⟨hc, by show 1 ≤ c.q ∧ c.q ≤ c.c - 1; have := hc.2.2.1; omega, hg.w.nk, hg.w.pk, hg.w.qu, hg.w.gh, hg.w.hc, hg.w.ht⟩
  have hlen : s1.pg.length ≤ 768 := by rw [hs1]; show s.pg.length ≤ 768; have h1 := wg_len hg; have h2 := hg.w.ck.2.1.2; have h3 := hg.w.ck.2.2.2.2; omega
  have hcf : s1.cf = c := by rw [hs1]; rfl
  have hcl := cool_le hww
  have hsp := spill_sp (most := c.c) (cool_ww hww) (cool_rm hww) (by rw [hcl.cf, hcf]; omega)
  rw [← HRS.out.1] at hsp
  have HP := Lib.hid (And.intro hc (And.intro hww (And.intro hlen (And.intro hcf (And.intro hcl hsp)))))
  have hth : ∀ W : World, Box W w.heap.size (sA s r) → W.there w.heap.size 0 (cA c).size := fun W hB j hj => by
    have hj4 : j < 4 := hj
    have h20 : 0 + j < (sA s r).size := by rw [sA_len]; omega
    exact ⟨by rw [hB.cell (0 + j) _ (Array.getElem?_eq_getElem h20)]; rfl, hB.free _⟩
  have HT := Lib.hid (hth w1 x.fr.box)
  clear x hw1 hA hr hg hc hs1 hth q0 q1 hwq hw4 hww hlen hcf hcl hsp
  show Calls Try.prog 67 #[sV s r, cV c] w fun e w' => SsPost w r (resizeW s c) (rszW s c).2 e w'
  go_enter Try.func67, Try.ntmps67
  go_wp2_with (first | fail | (rw [HA.out]; refine wpList_load_row rfl 24 (.tmp 3) rfl (w.heap.size + 1) rfl 24 (cA c) (0, 0) _ HX.out.cfg Try.underlying24 rfl info24 ?_) | (refine wpList_store_mid rfl 24 (.tmp 8) (.tmp 7) rfl w.heap.size 0 (cA c) rfl rfl HT.out info24 (by simp [Value.oneCell']) ?_; rw [← HWQ.out.1]))
  rw [← HWQ.out.2]
  clear dq2 d4 f4 HX HT HA HWQ
  have C49 : Hid (∀ p : GrB w4, Calls Try.prog 70 #[sV s1 r] p.v (SPost p.v r (cool s1))) := Lib.hid fun p => cool_at s1 r HP.out.2.1 (by have := HP.out.2.2.1; omega) p.v (H4.out.keep p.h).fr.rows
  have C45 : Hid (∀ (V : World) (r1 : R3), SR V (cool s1) r1 → Calls Try.prog 72 #[sV (cool s1) r1, .int .i64 c.c] V (SpPost V r1 (rszW s c).1 (rszW s c).2)) := Lib.hid fun V r1 h => by
    rw [HRS.out.1]
    have hcb := HP.out.1.2.1
    exact spill_at (cool s1) r1 c.c ⟨by omega, by omega⟩ (cool_ww HP.out.2.1) (cool_rm HP.out.2.1) (by rw [HP.out.2.2.2.2.1.cf, HP.out.2.2.2.1]; omega) (by have h1 := HP.out.2.2.2.2.1.n; have h2 := HP.out.2.2.1; omega) V h
  have d1 : ∀ p : GrB w4, p.v.cell? ⟨w.heap.size + 1, 1, none⟩ = some (.int .i64 c.c) := fun p => by
    rw [cell_of_row (w := p.v) (w.heap.size + 1) 1 (cA c) 24 (0, 0) (H4.out.keep p.h).cfg]
    rfl
  go_cut [6] from 12 to 16 (fun v6 wx => ∃ (b : Nat) (r2 : R3) (A : Option Addr) (n cc : Nat), v6 = .pointer (some ⟨b, 0, none⟩) ∧ Hid (Mid4 c w r wx s1 b (rszW s c).1 (rszW s c).2 r2 A n cc))
  case first =>
    refine wp_region_held_drew (S := fun w' => ∃ p : GrB w4, w' = p.v) (by kernel_rfl) ⟨⟨_, below_drew (Below.refl _ _) 1⟩, rfl⟩ (fun hHeld => ?_)
    have hB0 : Below w4.heap.size w4 w4.drew := below_drew (Below.refl _ _) 1
    generalize w4.drew = wd at hB0 hHeld ⊢
    refine wpAnyH_take (i := 0) (v := ?tval1) rfl (by kernel_rfl) (by kernel_rfl) (by kernel_rfl) (fun _ _ _ h => h) (Or.inl ⟨by rfl, ?teq1⟩) (by assumption) ?trest1
    case teq1 => (rintro _ ⟨p, rfl⟩; refine exec31 (.tmp 2) ?_ ?_ (H4.out.keep p.h).fr.box <;> rfl)
    try simp only [put_laws]
    refine wpAnyH_take (i := 2) (v := ?tval2) rfl (by kernel_rfl) (by kernel_rfl) (by kernel_rfl) (fun _ _ _ h => h) (Or.inl ⟨by rfl, ?teq2⟩) (by assumption) ?trest2
    case teq2 => (rintro _ ⟨p, rfl⟩; go_simp; with_reducible rfl)
    try simp only [put_laws]
    refine wpAnyH_take (i := 3) (v := ?tval3) rfl (by kernel_rfl) (by kernel_rfl) (by kernel_rfl) (fun _ _ _ h => h) (Or.inl ⟨by rfl, ?teq3⟩) (by assumption) ?trest3
    case teq3 => (rintro _ ⟨p, rfl⟩; have h0 := d1 p; go_simp; with_reducible rfl)
    try simp only [put_laws]
    refine wpAnyH_ready (rs := [1, 5]) (by kernel_rfl) (by simp) ?_
    refine AllReadyH.cons rfl (fun K hK => ?_) ?_
    · go_simp
      refine (C49.out ⟨wd, hB0⟩).mono ?_
      rintro e wg ⟨r1, rfl, hr1, hf1, hb1⟩
      have hb1 : Below (World.heap wd).size wd wg := hb1
      have hf1 : Frm (World.heap wd).size r r1 := hf1
      go_wp2_with fail
      have hB1 : Below w4.heap.size w4 wg := hB0.trans (hb1.mono hB0.size)
      refine hK.out _ _ ⟨⟨_, hB1⟩, rfl⟩ (fun hHeld => ?_)
      clear hK K
      try simp only [put_laws]
      refine wpAnyH_ready (rs := [4, 5]) (by kernel_rfl) (by simp) ?_
      refine AllReadyH.cons rfl (fun K hK => ?_) ?_
      · go_simp
        refine (C45.out wg r1 hr1).mono ?_
        rintro e ws ⟨r2, A, n, cc, rfl, hn, hr2, hu, hA, hf2, hb2⟩
        subst hn
        go_wp2_with fail
        have hB2 : Below w4.heap.size w4 ws := hB1.trans (hb2.mono hB1.size)
        refine hK.out _ _ ⟨⟨_, hB2⟩, rfl⟩ (fun hHeld => ?_)
        clear hK K
        try simp only [put_laws]
        refine wpAnyH_ready (rs := [5]) (by kernel_rfl) (by simp) ?_
        refine AllReadyH.cons rfl (fun K hK => ?_) ?_
        · go_simp
          obtain ⟨wa, hw5⟩ : ∃ v, v = World.alloc ws (.cells #[.int .i64 0, .int .i64 0, .int .i64 0, .int .i64 0, .int .i64 0, .slice none 0 0, .slice none 0 0, .slice none 0 0, .int .i64 0, .int .i64 0, .int .u64 0, .int .u64 0, .int .u64 0, .int .u64 0, .int .u64 0, .int .u64 0, .int .u64 0, .int .u64 0, .int .u64 0, .int .u64 0, .slice none 0 0] 93) := ⟨_, rfl⟩
          have hba := alloc_below ws (.cells #[.int .i64 0, .int .i64 0, .int .i64 0, .int .i64 0, .int .i64 0, .slice none 0 0, .slice none 0 0, .slice none 0 0, .int .i64 0, .int .i64 0, .int .u64 0, .int .u64 0, .int .u64 0, .int .u64 0, .int .u64 0, .int .u64 0, .int .u64 0, .int .u64 0, .int .u64 0, .int .u64 0, .slice none 0 0] 93)
          have h76 : B76 wa (World.heap ws).size #[.int .i64 0, .int .i64 0, .int .i64 0, .int .i64 0, .int .i64 0, .slice none 0 0, .slice none 0 0, .slice none 0 0, .int .i64 0, .int .i64 0, .int .u64 0, .int .u64 0, .int .u64 0, .int .u64 0, .int .u64 0, .int .u64 0, .int .u64 0, .int .u64 0, .int .u64 0, .int .u64 0, .slice none 0 0] := hw5 ▸ b76_alloc ws _ rfl
          have hs5 : wa.heap.size = (World.heap ws).size + 1 := by rw [hw5]; simp
          rw [← hw5] at hba
          have hB3 : Below w4.heap.size w4 wa := hB2.trans (hba.mono hB2.size)
          rw [show World.alloc ws _ = wa from hw5.symm]
          refine hK.out _ _ ⟨⟨wa, hB3⟩, rfl⟩ (fun hHeld => ?_)
          clear hK K hw5
          try simp only [put_laws]
          refine wpAnyH_ready (rs := [6]) (by kernel_rfl) (by simp) ?_
          refine AllReadyH.cons rfl (fun K hK => ?_) ?_
          · refine step76 rfl (.tmp 6) (.tmp 16) rfl _ (rszW s c).1 r2 A _ cc rfl rfl _ h76 ?_
            have HM := Lib.hid (mid_fin4 H4.out hB3 hB2.size h76 (hr2.kept hba) (hr2.old.ap (Nat.le_refl _)) (hu.kept hba) (fun a e => by have := hu.lt a e; omega) (fun a e => by have := hA a e; have := hB1.size; omega) ((hf1.weak hB0.size).trans hf2 hB1.size) rfl)
            refine hK.out _ _ ⟨⟨_, below_setRow hB3 hB2.size⟩, rfl⟩ (fun hHeld => ?_)
            clear hK K
            try simp only [put_laws]
            refine wpAnyH_done (by kernel_rfl) ?_ _
            go_wp2
            go_meet
            exact ⟨_, r2, A, _, cc, rfl, HM⟩
          exact AllReadyH.nil
        exact AllReadyH.nil
      refine AllReadyH.cons rfl (fun K hK => ?_) ?_
      · go_simp
        obtain ⟨wa, hw5⟩ : ∃ v, v = World.alloc wg (.cells #[.int .i64 0, .int .i64 0, .int .i64 0, .int .i64 0, .int .i64 0, .slice none 0 0, .slice none 0 0, .slice none 0 0, .int .i64 0, .int .i64 0, .int .u64 0, .int .u64 0, .int .u64 0, .int .u64 0, .int .u64 0, .int .u64 0, .int .u64 0, .int .u64 0, .int .u64 0, .int .u64 0, .slice none 0 0] 93) := ⟨_, rfl⟩
        have hba := alloc_below wg (.cells #[.int .i64 0, .int .i64 0, .int .i64 0, .int .i64 0, .int .i64 0, .slice none 0 0, .slice none 0 0, .slice none 0 0, .int .i64 0, .int .i64 0, .int .u64 0, .int .u64 0, .int .u64 0, .int .u64 0, .int .u64 0, .int .u64 0, .int .u64 0, .int .u64 0, .int .u64 0, .int .u64 0, .slice none 0 0] 93)
        have h76 : B76 wa (World.heap wg).size #[.int .i64 0, .int .i64 0, .int .i64 0, .int .i64 0, .int .i64 0, .slice none 0 0, .slice none 0 0, .slice none 0 0, .int .i64 0, .int .i64 0, .int .u64 0, .int .u64 0, .int .u64 0, .int .u64 0, .int .u64 0, .int .u64 0, .int .u64 0, .int .u64 0, .int .u64 0, .int .u64 0, .slice none 0 0] := hw5 ▸ b76_alloc wg _ rfl
        have hs5 : wa.heap.size = (World.heap wg).size + 1 := by rw [hw5]; simp
        rw [← hw5] at hba
        have hB2 : Below w4.heap.size w4 wa := hB1.trans (hba.mono hB1.size)
        rw [show World.alloc wg _ = wa from hw5.symm]
        refine hK.out _ _ ⟨⟨wa, hB2⟩, rfl⟩ (fun hHeld => ?_)
        clear hK K hw5
        try simp only [put_laws]
        refine wpAnyH_ready (rs := [4]) (by kernel_rfl) (by simp) ?_
        refine AllReadyH.cons rfl (fun K hK => ?_) ?_
        · go_simp
          refine (C45.out wa r1 (hr1.kept hba)).mono ?_
          rintro e ws ⟨r2, A, n, cc, rfl, hn, hr2, hu, hA, hf2, hb2⟩
          subst hn
          go_wp2_with fail
          have hB3 : Below w4.heap.size w4 ws := hB2.trans (hb2.mono hB2.size)
          refine hK.out _ _ ⟨⟨_, hB3⟩, rfl⟩ (fun hHeld => ?_)
          clear hK K
          try simp only [put_laws]
          refine wpAnyH_ready (rs := [6]) (by kernel_rfl) (by simp) ?_
          refine AllReadyH.cons rfl (fun K hK => ?_) ?_
          · refine step76 rfl (.tmp 6) (.tmp 16) rfl _ (rszW s c).1 r2 A _ cc rfl rfl _ (h76.kept hb2 h76.lt) ?_
            have HM := Lib.hid (mid_fin4 H4.out hB3 hB1.size (h76.kept hb2 h76.lt) hr2 ((hr1.old.ap (Nat.le_refl _)).frm hf2 (by omega)) hu (fun a e => by have := hA a e; omega) (fun a e => by have := hA a e; have := hB2.size; omega) ((hf1.weak hB0.size).trans hf2 hB2.size) rfl)
            refine hK.out _ _ ⟨⟨_, below_setRow hB3 hB1.size⟩, rfl⟩ (fun hHeld => ?_)
            clear hK K
            try simp only [put_laws]
            refine wpAnyH_done (by kernel_rfl) ?_ _
            go_wp2
            go_meet
            exact ⟨_, r2, A, _, cc, rfl, HM⟩
          exact AllReadyH.nil
        exact AllReadyH.nil
      exact AllReadyH.nil
    refine AllReadyH.cons rfl (fun K hK => ?_) ?_
    · go_simp
      obtain ⟨wa, hw5⟩ : ∃ v, v = World.alloc wd (.cells #[.int .i64 0, .int .i64 0, .int .i64 0, .int .i64 0, .int .i64 0, .slice none 0 0, .slice none 0 0, .slice none 0 0, .int .i64 0, .int .i64 0, .int .u64 0, .int .u64 0, .int .u64 0, .int .u64 0, .int .u64 0, .int .u64 0, .int .u64 0, .int .u64 0, .int .u64 0, .int .u64 0, .slice none 0 0] 93) := ⟨_, rfl⟩
      have hba := alloc_below wd (.cells #[.int .i64 0, .int .i64 0, .int .i64 0, .int .i64 0, .int .i64 0, .slice none 0 0, .slice none 0 0, .slice none 0 0, .int .i64 0, .int .i64 0, .int .u64 0, .int .u64 0, .int .u64 0, .int .u64 0, .int .u64 0, .int .u64 0, .int .u64 0, .int .u64 0, .int .u64 0, .int .u64 0, .slice none 0 0] 93)
      have h76 : B76 wa (World.heap wd).size #[.int .i64 0, .int .i64 0, .int .i64 0, .int .i64 0, .int .i64 0, .slice none 0 0, .slice none 0 0, .slice none 0 0, .int .i64 0, .int .i64 0, .int .u64 0, .int .u64 0, .int .u64 0, .int .u64 0, .int .u64 0, .int .u64 0, .int .u64 0, .int .u64 0, .int .u64 0, .int .u64 0, .slice none 0 0] := hw5 ▸ b76_alloc wd _ rfl
      have hs5 : wa.heap.size = (World.heap wd).size + 1 := by rw [hw5]; simp
      rw [← hw5] at hba
      have hB1 : Below w4.heap.size w4 wa := hB0.trans (hba.mono hB0.size)
      rw [show World.alloc wd _ = wa from hw5.symm]
      refine hK.out _ _ ⟨⟨wa, hB1⟩, rfl⟩ (fun hHeld => ?_)
      clear hK K hw5
      try simp only [put_laws]
      refine wpAnyH_ready (rs := [1]) (by kernel_rfl) (by simp) ?_
      refine AllReadyH.cons rfl (fun K hK => ?_) ?_
      · go_simp
        refine (C49.out ⟨wa, hB1⟩).mono ?_
        rintro e wg ⟨r1, rfl, hr1, hf1, hb1⟩
        have hb1 : Below (World.heap wa).size wa wg := hb1
        have hf1 : Frm (World.heap wa).size r r1 := hf1
        go_wp2_with fail
        have hB2 : Below w4.heap.size w4 wg := hB1.trans (hb1.mono hB1.size)
        refine hK.out _ _ ⟨⟨_, hB2⟩, rfl⟩ (fun hHeld => ?_)
        clear hK K
        try simp only [put_laws]
        refine wpAnyH_ready (rs := [4]) (by kernel_rfl) (by simp) ?_
        refine AllReadyH.cons rfl (fun K hK => ?_) ?_
        · go_simp
          refine (C45.out wg r1 hr1).mono ?_
          rintro e ws ⟨r2, A, n, cc, rfl, hn, hr2, hu, hA, hf2, hb2⟩
          subst hn
          go_wp2_with fail
          have hB3 : Below w4.heap.size w4 ws := hB2.trans (hb2.mono hB2.size)
          refine hK.out _ _ ⟨⟨_, hB3⟩, rfl⟩ (fun hHeld => ?_)
          clear hK K
          try simp only [put_laws]
          refine wpAnyH_ready (rs := [6]) (by kernel_rfl) (by simp) ?_
          refine AllReadyH.cons rfl (fun K hK => ?_) ?_
          · refine step76 rfl (.tmp 6) (.tmp 16) rfl _ (rszW s c).1 r2 A _ cc rfl rfl _ ((h76.kept hb1 h76.lt).kept hb2 (h76.kept hb1 h76.lt).lt) ?_
            have HM := Lib.hid (mid_fin4 H4.out hB3 hB0.size ((h76.kept hb1 h76.lt).kept hb2 (h76.kept hb1 h76.lt).lt) hr2 (((H4.out.fr.old.ap (Nat.le_trans H4.out.fr.bel.size hB0.size)).frm hf1 (by omega)).frm hf2 (by have := hb1.size; omega)) hu (fun a e => by have := hA a e; have := hb1.size; omega) (fun a e => by have := hA a e; have := hB2.size; omega) ((hf1.weak hB1.size).trans hf2 hB2.size) rfl)
            refine hK.out _ _ ⟨⟨_, below_setRow hB3 hB0.size⟩, rfl⟩ (fun hHeld => ?_)
            clear hK K
            try simp only [put_laws]
            refine wpAnyH_done (by kernel_rfl) ?_ _
            go_wp2
            go_meet
            exact ⟨_, r2, A, _, cc, rfl, HM⟩
          exact AllReadyH.nil
        exact AllReadyH.nil
      exact AllReadyH.nil
    exact AllReadyH.nil
  case rest =>
    obtain ⟨b, r2, A, n, cc, rfl, HM⟩ := hcut
    have HS : Hid (Ww (rszW s c).1 ∧ (rszW s c).1.pg.length ≤ 1000) := Lib.hid ⟨HP.out.2.2.2.2.2.w, by have h1 := HP.out.2.2.2.2.2.n; have h2 := HP.out.2.2.2.2.1.n; have h3 := HP.out.2.2.1; omega⟩
    have HRZ := Lib.hid HRS.out.2
    obtain ⟨s2, hs2⟩ : ∃ s2, s2 = (rszW s c).1 := ⟨_, rfl⟩
    obtain ⟨out, hout⟩ : ∃ out, out = (rszW s c).2 := ⟨_, rfl⟩
    rw [← hs2] at HS HRZ
    rw [← hs2, ← hout] at HM
    have HO := Lib.hid hout
    clear C45 C49 d1 hs2 hout H4 HRS
    go_wp2_with fail
    refine wp_region_held_drew (S := fun W' => B76 W' b (spA s2 r2 A n cc)) (by kernel_rfl) (HM.out.b76.kept (below_drew (Below.refl _ _) 1) HM.out.b76.lt) (fun hHeld => ?_)
    have y0 : F4 c w r (World.drew wc) s1 r := HM.out.f4.keep (below_drew (Below.refl _ _) 1)
    have u0 : UR (World.drew wc) A cc out := HM.out.ur.kept (below_drew (Below.refl _ _) 1)
    have z0 : SR (World.drew wc) s2 r2 := HM.out.sr.kept (below_drew (Below.refl _ _) 1)
    generalize World.drew wc = wd at hHeld y0 u0 z0 ⊢
    refine wpAnyH_take (i := 0) (v := ?tval4) rfl (by kernel_rfl) (by kernel_rfl) (by kernel_rfl) (fun _ _ _ h => h) (Or.inl ⟨by rfl, ?teq4⟩) (by assumption) ?trest4
    case teq4 => (rintro _ p; go_simp; with_reducible rfl)
    try simp only [put_laws]
    refine wpAnyH_take (i := 1) (v := ?tval5) rfl (by kernel_rfl) (by kernel_rfl) (by kernel_rfl) (fun _ _ _ h => h) (Or.inl ⟨by rfl, ?teq5⟩) (by assumption) ?trest5
    case teq5 => (rintro _ p; refine exec76 (.tmp 17) ?_ ?_ p <;> rfl)
    try simp only [put_laws]
    refine wpAnyH_take (i := 3) (v := ?tval6) rfl (by kernel_rfl) (by kernel_rfl) (by kernel_rfl) (fun _ _ _ h => h) (Or.inl ⟨by rfl, ?teq6⟩) (by assumption) ?trest6
    case teq6 => (rintro _ p; go_simp; with_reducible rfl)
    try simp only [put_laws]
    refine wpAnyH_take (i := 4) (v := ?tval7) rfl (by kernel_rfl) (by kernel_rfl) (by kernel_rfl) (fun _ _ _ h => h) (Or.inl ⟨by rfl, ?teq7⟩) (by assumption) ?trest7
    case teq7 => (rintro _ p; have h0 := row76 p; go_simp; with_reducible rfl)
    try simp only [put_laws]
    refine wpAnyH_ready (rs := [2]) (by kernel_rfl) (by simp) ?_
    refine AllReadyH.cons rfl (fun K hK => ?_) ?_
    · go_simp
      refine (expire_at s2 r2 HS.out.1 HS.out.2 wd z0).mono ?_
      rintro e w8 ⟨r8, rfl, hr8, hf8, hb8⟩
      have y8 := y0.keep hb8
      have f8 : Frm (w.heap.size + 3) r r8 := HM.out.frm.trans hf8 y0.fr.hi
      have u8 := u0.kept hb8
      have q8 := hHeld.kept hb8 hHeld.lt
      go_wp2_with fail
      refine hK.out _ _ q8 (fun hHeld => ?_)
      clear hK K
      try simp only [put_laws]
      refine wpAnyH_ready (rs := [5]) (by kernel_rfl) (by simp) ?_
      refine AllReadyH.cons rfl (fun K hK => ?_) ?_
      · refine step31 rfl (.tmp 4) (.tmp 19) rfl _ (expire s2) r8 rfl rfl _ y8.res ?_
        have hl0 := HM.out.lo
        refine hK.out _ _ (q8.other (by omega) _) (fun hHeld => ?_)
        clear hK K
        try simp only [put_laws]
        refine wpAnyH_ready (rs := [6]) (by kernel_rfl) (by simp) ?_
        refine AllReadyH.cons rfl (fun K hK => ?_) ?_
        · go_simp
          refine hK.out _ _ hHeld (fun hHeld => ?_)
          clear hK K
          try simp only [put_laws]
          refine wpAnyH_done (by kernel_rfl) ?_ _
          go_wp2_with fail
          refine bodyPost_ret (results_s2 rfl _ _ _ _ rfl (y8.res.rowSet (sA_len _ _))) rfl ?_
          show SsPost w r (resizeW s c) (rszW s c).2 _ _
          rw [HRZ.out, ← HO.out]
          exact ⟨r8, A, n, cc, rfl, HM.out.n, sr_row hr8 f8 y8.fr.old (by omega) (by omega) _, ⟨vrow_row u8.row (fun a e => by have := HM.out.fresh a e; omega), fun a e => by rw [size_setRow]; exact u8.lt a e, u8.le⟩, fun a e => by have := HM.out.fresh a e; omega, f8.weak (by omega), below_setRow y8.fr.bel (by omega)⟩
        exact AllReadyH.nil
      exact AllReadyH.nil
    exact AllReadyH.nil
end Go.Proofs.Ytejcahkkpednfaa
