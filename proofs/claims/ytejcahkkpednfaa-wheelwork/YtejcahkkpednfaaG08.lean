/-
  The ring: it is cooled.
-/
import Derived.Test.YtejcahkkpednfaaG07
namespace Go.Proofs.Ytejcahkkpednfaa
open Go.RowKit
open Go.Proofs.StackM (Pg Cf Ct St up many fnd fnd_at fnd_no)
open Go.Proofs.WheelM
set_option linter.unusedVariables false
theorem d1_le (l : List Pg) : d1 l ≤ l.length := List.findIdx_le_length
def msC (s : St) : Nat := ws s.pg * 1001 + d1 s.pg
theorem msC_lt {s : St} {p : Pg} {l : List Pg} (hw : Ww s) (h : s.pg = p :: l) (hh : 0 < many s.pg 1) (hl : s.pg.length ≤ 1000) : msC (clS s p) < msC s := by
  unfold msC
  rcases clS_look h with ⟨_, h2⟩ | ⟨h1, h2⟩
  · have h3 := d1_le (clS s p).pg
    have h4 := (clS_le hw h).2.2
    rw [← h2, Nat.add_mul]
    omega
  · have e : (clS s p).pg = l ++ [p] := by rw [h2]; show s.pg.tail ++ [p] = _; rw [h]; rfl
    rw [e]
    have hw2 : ws (l ++ [p]) = ws s.pg := by rw [h, ws_app]; simp [ws]; omega
    rw [hw2]
    have := fi_turn h1 (by rw [← h]; exact hot_dg hh)
    unfold d1
    rw [h]
    omega
theorem turn_with {s : St} {q p : Pg} {l : List Pg} (h : s.pg = q :: l) : turnp { s with pg := s.pg.set 0 p } p = turnp s p := by
  unfold turnp
  dsimp only
  rw [List.length_set, h]
  rfl
theorem clS_len {s : St} (hw : Ww s) {p : Pg} {l : List Pg} (e : s.pg = p :: l) (hl : s.pg.length ≤ 1000) : (clS s p).pg.length ≤ 1000 := Nat.le_trans (clS_le hw e).2.2 hl
set_option maxHeartbeats 8000000 in
set_option maxRecDepth 100000 in
theorem cool_at (s : St) (r : R3) (hw : Ww s) (hl : s.pg.length ≤ 1000) (w : World) (hr : SR w s r) : Calls Try.prog 70 #[sV s r] w (SPost w r (cool s)) := by
  have x := F2.start hr
  obtain ⟨w1, hw1⟩ : ∃ w1, w1 = (w.alloc (.cells (sA s r) 31)).alloc (.cells (sA S0 R0) 31) := ⟨_, rfl⟩
  rw [← hw1] at x
  have hA : (w.alloc (.cells (sA s r) 31)).alloc (.cells #[.int .i64 0, .int .i64 0, .int .i64 0, .int .i64 0, .int .i64 0, .slice none 0 0, .slice none 0 0, .slice none 0 0, .int .i64 0, .int .i64 0, .int .u64 0, .int .u64 0, .int .u64 0, .int .u64 0, .int .u64 0, .int .u64 0, .int .u64 0, .int .u64 0, .int .u64 0, .int .u64 0] 31) = w1 := hw1.symm
  have HA := Lib.hid hA
  have HX := Lib.hid x
  have HL := Lib.hid hl
  have HWW := Lib.hid hw
  clear x hw1 hA hr hl hw
  show Calls Try.prog 70 #[sV s r] w fun e w' => SPost w r (cool s) e w'
  go_enter Try.func70, Try.ntmps70
  go_wp2_with fail
  rw [HA.out]
  go_loopg [] (msC s) (fun k wr => ∃ (cur : St) (rr : R3), Hid (F2 w r wr cur rr) ∧ Hid (Ww cur ∧ cur.pg.length ≤ 1000 ∧ cool cur = cool s ∧ k = msC cur))
  case atStart => exact ⟨s, r, HX, Lib.hid ⟨HWW.out, HL.out, rfl, rfl⟩⟩
  case round =>
    obtain ⟨cur, rr, HF, HC⟩ := hrel
    obtain ⟨nh, hnh⟩ : ∃ n, n = many cur.pg 1 := ⟨_, rfl⟩
    obtain ⟨cc, hcc⟩ : ∃ c, c = cur.cf.c := ⟨_, rfl⟩
    obtain ⟨tg, htg⟩ : ∃ c, c = cur.tg := ⟨_, rfl⟩
    have hhl : nh ≤ 1000 := by rw [hnh]; have := many_le cur.pg 1; have := HC.out.2.1; omega
    have hc1 : cc ≤ 256 ∧ 2 ≤ cc := by rw [hcc]; have := HC.out.1.ck.2.1; omega
    have ht1 : 1 ≤ tg ∧ tg ≤ cc - 1 := by rw [hcc, htg]; exact HC.out.1.tg
    obtain ⟨hc1a, hc1b⟩ := hc1
    obtain ⟨ht1a, ht1b⟩ := ht1
    have x1 : ∀ W : GrB wr, W.v.cell? ⟨w.heap.size, 1, none⟩ = some (.int .i64 cc) := fun W => by rw [hcc]; exact at1 (HF.out.keep W.h).fr.box
    have x4 : ∀ W : GrB wr, W.v.cell? ⟨w.heap.size, 4, none⟩ = some (.int .i64 tg) := fun W => by rw [htg]; exact at4 (HF.out.keep W.h).fr.box
    have x5 : ∀ W : GrB wr, W.v.cell? ⟨w.heap.size, 5, none⟩ = some (.slice rr.a1 cur.pg.length rr.c1) := fun W => at5 (HF.out.keep W.h).fr.box
    have C23 : Hid (∀ W : GrB wr, Calls Try.prog 30 #[.slice rr.a1 cur.pg.length rr.c1, .int .i64 1] W.v fun e w' => e = .returned (.int .i64 (nh : Int)) ∧ ∃ W' : GrB wr, w' = W'.v) := Lib.hid (grown_call (w := wr) fun V hV => (many_at cur.pg 1 rr.a1 cur.pg.length rr.c1 rfl (by have := HC.out.2.1; omega) V (HF.out.keep hV).fr.rows.pg.row).mono fun e w' ⟨e1, e2⟩ => ⟨by rw [hnh]; exact e1, e2 ▸ Below.refl _ _⟩)
    have HNN := Lib.hid (And.intro hnh (And.intro hcc htg))
    clear hnh hcc htg
    by_cases hm : cc - tg < (nh : Int)
    · have hgc : Gc cur := by unfold Gc; rw [← HNN.out.1, ← HNN.out.2.1, ← HNN.out.2.2]; exact hm
      have hhot := HC.out.1.hot hgc
      obtain ⟨p, l, hpl⟩ : ∃ p l, cur.pg = p :: l := by
        cases e : cur.pg with
        | nil => rw [e] at hhot; simp [many] at hhot
        | cons p l => exact ⟨p, l, rfl⟩
      have hpos : 0 < cur.pg.length := by rw [hpl]; simp
      have hE : cool (clS cur p) = cool s := by rw [← HC.out.2.2.1]; exact (cool_step hpl hgc hhot).symm
      have hM : msC (clS cur p) < gk := by rw [HC.out.2.2.2]; exact msC_lt HC.out.1 hpl hhot HC.out.2.1
      have hW2 := HC.out.1.clS hpl
      have hL2 := clS_len HC.out.1 hpl HC.out.2.1
      have hpok := HC.out.1.pk p (by rw [hpl]; simp)
      have HP := Lib.hid (And.intro hpl (And.intro hpos (And.intro hE (And.intro hM (And.intro hW2 hL2)))))
      clear hgc hhot hpos hE hM hW2 hL2 hpl
      go_wp2_with fail
      refine region_grown (by kernel_rfl) (by kernel_rfl) ?_
      repeat (go_big_quiet_step (first | (go_at_call 30; exact C23.out _)))
      refine wpQuiet_nil ?_
      rintro w9 ⟨⟨w8, hgl⟩, rfl⟩
      have HF9 := Lib.hid (HF.out.keep hgl)
      clear x1 x4 x5 C23 hgl HF hm
      obtain ⟨p0, p1, p2, p3⟩ := p
      by_cases h3 : p1 = 3
      · subst h3
        obtain ⟨rfl, rfl⟩ : p2 = true ∧ p3 = false := by unfold Pok at hpok; simpa using hpok
        clear hpok
        obtain ⟨b, off, ha, hcells⟩ := HF9.out.fr.rows.pg.row.at HP.out.2.1
        have d5 := at5 HF9.out.fr.box
        obtain ⟨k0, k1, k2, k3⟩ := hcells 0 HP.out.2.1
        rw [Nat.zero_mul, Nat.add_zero] at k0 k1 k2 k3
        have hq := HP.out.2.1
        have hp0 : cur.pg[0] = ⟨p0, 3, true, false⟩ := by have h9 := HP.out.1; simp [h9]
        rw [hp0] at k0 k1 k2 k3
        dsimp only at k0 k1 k2 k3
        obtain ⟨n, hn⟩ : ∃ n, n = cur.pg.length := ⟨_, rfl⟩
        have hpos : 0 < n := by rw [hn]; exact HP.out.2.1
        have z0 : (0 : Int) < (n : Int) := by omega
        rw [ha, ← hn] at d5
        have y0 := FQ.start HF9.out ⟨p0, 3, true, false⟩
        have hbl : w.heap.size ≠ w9.heap.size := by have := HF9.out.fr.box.lt; omega
        obtain ⟨w10, hw10⟩ : ∃ w10, w10 = w9.alloc (.cells #[.int .u64 p0, .int .i64 3, .bool true, .bool false] 58) := ⟨_, rfl⟩
        dsimp only at y0
        rw [← hw10] at y0
        obtain ⟨e0, e1, e2, e3⟩ := y0.b.at
        dsimp only at e0 e1 e2 e3
        have y1 := y0.cell 19 (.int .u64 (up cur.ct.st)) { cur with ct := { cur.ct with st := up cur.ct.st } } rfl rfl rfl rfl
        have hup0 := wrap_up cur.ct.st
        have dd0 := at19 y0.f.fr.box
        have ff0 := y0.f.fr.box.free 19
        have y2 := y1.cell 16 (.int .u64 (up cur.ct.fo)) { cur with ct := { cur.ct with st := up cur.ct.st, fo := up cur.ct.fo } } rfl rfl rfl rfl
        have hup1 := wrap_up cur.ct.fo
        have dd1 := at16 y0.f.fr.box
        have ff1 := y0.f.fr.box.free 16
        obtain ⟨w11, hw11⟩ : ∃ w11, w11 = ((w10).setCell ⟨w.heap.size, 19, none⟩ (.int .u64 (up cur.ct.st))).setCell ⟨w.heap.size, 16, none⟩ (.int .u64 (up cur.ct.fo)) := ⟨_, rfl⟩
        rw [← hw11] at y2
        have HY := Lib.hid y2
        have HW := Lib.hid (And.intro hw10 hw11)
        have HPB := Lib.hid hn
        obtain ⟨j0, j1, j2, j3⟩ := y2.b.at
        dsimp only at j0 j1 j2 j3
        clear hq HF9 hcells hp0 hw10 hw11 ha hn y0 y1 y2
        go_wp2_with (first | fail | (refine st59n rfl (.tmp 3) (.tmp 17) rfl p0 3 true false rfl rfl _ rfl ?_; rw [← HW.out.1]) | (rw [← HW.out.2]; refine ld31 rfl (.tmp 1) rfl _ rfl _ HY.out.f.fr.box ?_))
        clear dd0 ff0 hup0 dd1 ff1 hup1 e0 e1 e2 e3 k0 k1 k2 k3 d5 HW hbl
        have hcl : Hid (clS cur ⟨p0, 3, true, false⟩ = falls (leave (setc cur (cFo cur)) 0)) := Lib.hid (by unfold clS; rw [if_pos rfl])
        refine (leave_at (setc cur (cFo cur)) rr 0 HP.out.2.1 HC.out.2.1 HC.out.1.hc HC.out.1.ht w11 HY.out.f.fr.rows).mono ?_
        rintro e w12 ⟨r1, rfl, hr1, hf1, hb1⟩
        have H12 := Lib.hid (And.intro (HY.out.f.keep hb1) (And.intro hr1 (HY.out.f.fr.told hr1 hf1)))
        clear hr1 hf1 hb1 HY j0 j1 j2 j3
        go_wp2_with fail
        refine (falls_at (leave (setc cur (cFo cur)) 0) r1 (by have := HC.out.1.ck.2.1.2; show cur.cf.c ≤ 1000; omega) HC.out.1.tg w12 H12.out.2.1).mono ?_
        rintro e w13 ⟨r2, rfl, hr2, hf2, hb2⟩
        have H13 := Lib.hid (And.intro (H12.out.1.keep hb2) (And.intro hr2 (H12.out.1.grow H12.out.2.2 hf2)))
        clear hr2 hf2 hb2 H12
        go_wp2_with (first | fail | refine st31 rfl (.tmp 1) (.tmp 35) rfl _ _ _ rfl rfl _ H13.out.1.fr.box ?_)
        go_roundg (msC (clS cur ⟨p0, 3, true, false⟩))
        case rel => exact ⟨clS cur ⟨p0, 3, true, false⟩, _, Lib.hid (by rw [hcl.out]; exact H13.out.1.setAll H13.out.2.1 H13.out.2.2), Lib.hid ⟨HP.out.2.2.2.2.1, HP.out.2.2.2.2.2, HP.out.2.2.1, rfl⟩⟩
        case measure => exact HP.out.2.2.2.1
      · by_cases h1 : p1 = 1
        · subst h1
          obtain rfl : p2 = false := by unfold Pok at hpok; simpa using hpok
          clear hpok h3
          cases p3
          · skip
            obtain ⟨b, off, ha, hcells⟩ := HF9.out.fr.rows.pg.row.at HP.out.2.1
            have d5 := at5 HF9.out.fr.box
            obtain ⟨k0, k1, k2, k3⟩ := hcells 0 HP.out.2.1
            rw [Nat.zero_mul, Nat.add_zero] at k0 k1 k2 k3
            have hq := HP.out.2.1
            have hp0 : cur.pg[0] = ⟨p0, 1, false, false⟩ := by have h9 := HP.out.1; simp [h9]
            rw [hp0] at k0 k1 k2 k3
            dsimp only at k0 k1 k2 k3
            obtain ⟨n, hn⟩ : ∃ n, n = cur.pg.length := ⟨_, rfl⟩
            have hpos : 0 < n := by rw [hn]; exact HP.out.2.1
            have z0 : (0 : Int) < (n : Int) := by omega
            rw [ha, ← hn] at d5
            have y0 := FQ.start HF9.out ⟨p0, 1, false, false⟩
            have hbl : w.heap.size ≠ w9.heap.size := by have := HF9.out.fr.box.lt; omega
            obtain ⟨w10, hw10⟩ : ∃ w10, w10 = w9.alloc (.cells #[.int .u64 p0, .int .i64 1, .bool false, .bool false] 58) := ⟨_, rfl⟩
            dsimp only at y0
            rw [← hw10] at y0
            obtain ⟨e0, e1, e2, e3⟩ := y0.b.at
            dsimp only at e0 e1 e2 e3
            have y1 := y0.cell 19 (.int .u64 (up cur.ct.st)) { cur with ct := { cur.ct with st := up cur.ct.st } } rfl rfl rfl rfl
            have hup0 := wrap_up cur.ct.st
            have dd0 := at19 y0.f.fr.box
            have ff0 := y0.f.fr.box.free 19
            have y2 := y1.cell 13 (.int .u64 (up cur.ct.lo)) { cur with ct := { cur.ct with st := up cur.ct.st, lo := up cur.ct.lo } } rfl rfl rfl rfl
            have hup1 := wrap_up cur.ct.lo
            have dd1 := at13 y0.f.fr.box
            have ff1 := y0.f.fr.box.free 13
            have y3 := y2.page 1 (.int .i64 2) ⟨p0, 2, false, false⟩ rfl
            have ffp : w10.frozen? ⟨w9.heap.size, 1, none⟩ = false := by have hb := y0.b; unfold PB at hb; simp [World.frozen?, hb]
            obtain ⟨w11, hw11⟩ : ∃ w11, w11 = (((w10).setCell ⟨w.heap.size, 19, none⟩ (.int .u64 (up cur.ct.st))).setCell ⟨w.heap.size, 13, none⟩ (.int .u64 (up cur.ct.lo))).setCell ⟨w9.heap.size, 1, none⟩ (.int .i64 2) := ⟨_, rfl⟩
            rw [← hw11] at y3
            have HY := Lib.hid y3
            have HW := Lib.hid (And.intro hw10 hw11)
            have HPB := Lib.hid hn
            obtain ⟨j0, j1, j2, j3⟩ := y3.b.at
            dsimp only at j0 j1 j2 j3
            clear hq HF9 hcells hp0 hw10 hw11 ha hn y0 y1 y2 y3
            go_wp2_with (first | fail | (refine st59n rfl (.tmp 3) (.tmp 17) rfl p0 1 false false rfl rfl _ rfl ?_; rw [← HW.out.1]) | (rw [← HW.out.2]; refine ld31 rfl (.tmp 1) rfl _ rfl _ HY.out.f.fr.box ?_))
            clear dd0 ff0 hup0 dd1 ff1 hup1 e0 e1 e2 e3 k0 k1 k2 k3 d5 HW hbl ffp
            have hbp : (setc cur (cLo cur)).pg = ⟨p0, 1, false, false⟩ :: l := HP.out.1
            have hbl2 : (setc cur (cLo cur)).pg.length ≤ 1000 := by rw [hbp]; have h8 := HC.out.2.1; rw [HP.out.1] at h8; exact h8
            have hcl : Hid (clS cur ⟨p0, 1, false, false⟩ = turnp { (setc cur (cLo cur)) with pg := (setc cur (cLo cur)).pg.set 0 ⟨p0, 2, false, false⟩ } ⟨p0, 2, false, false⟩) := Lib.hid (by rw [turn_with hbp]; unfold clS; rw [if_neg (show ¬ ((1 : Int) = 3) by decide), if_neg (fun e => Bool.false_ne_true e.2), if_pos rfl])
            have hb1c : Hd (setc cur (cLo cur)).co (setc cur (cLo cur)).pg.length := (by have h8 := HC.out.1.hc; exact h8)
            have hb1t : Hd (setc cur (cLo cur)).te (setc cur (cLo cur)).pg.length := (by have h8 := HC.out.1.ht; exact h8)
            have HB := Lib.hid (And.intro hbp (And.intro hbl2 (And.intro hb1c hb1t)))
            clear hbp hbl2 hb1c hb1t
            refine (with_at (setc cur (cLo cur)) rr 0 ⟨p0, 2, false, false⟩ (by rw [HB.out.1]; simp) HB.out.2.1 w11 HY.out.f.fr.rows).mono ?_
            rintro e w14 ⟨r4, rfl, hr4, hf4, hb4⟩
            have H14 := Lib.hid (And.intro (HY.out.f.keep hb4) (And.intro hr4 (HY.out.f.fr.told hr4 hf4)))
            clear hr4 hf4 hb4 HY j0 j1 j2 j3
            go_wp2_with fail
            refine (turn_at { (setc cur (cLo cur)) with pg := (setc cur (cLo cur)).pg.set 0 ⟨p0, 2, false, false⟩ } r4 ⟨p0, 2, false, false⟩ l (by show (setc cur (cLo cur)).pg.set 0 ⟨p0, 2, false, false⟩ = _; rw [HB.out.1]; rfl) (by show ((setc cur (cLo cur)).pg.set 0 ⟨p0, 2, false, false⟩).length ≤ 1000; rw [List.length_set]; exact HB.out.2.1) (by show Hd (setc cur (cLo cur)).co ((setc cur (cLo cur)).pg.set 0 ⟨p0, 2, false, false⟩).length; rw [List.length_set]; exact HB.out.2.2.1) (by show Hd (setc cur (cLo cur)).te ((setc cur (cLo cur)).pg.set 0 ⟨p0, 2, false, false⟩).length; rw [List.length_set]; exact HB.out.2.2.2) w14 H14.out.2.1).mono ?_
            rintro e w15 ⟨r5, rfl, hr5, hf5, hb5⟩
            have H15 := Lib.hid (And.intro (H14.out.1.keep hb5) (And.intro hr5 (H14.out.1.grow H14.out.2.2 hf5)))
            clear hr5 hf5 hb5 H14
            go_wp2_with (first | fail | refine st31 rfl (.tmp 1) (.tmp 74) rfl _ _ _ rfl rfl _ H15.out.1.fr.box ?_)
            go_roundg (msC (clS cur ⟨p0, 1, false, false⟩))
            case rel => exact ⟨clS cur ⟨p0, 1, false, false⟩, _, Lib.hid (by rw [hcl.out]; exact H15.out.1.setAll H15.out.2.1 H15.out.2.2), Lib.hid ⟨HP.out.2.2.2.2.1, HP.out.2.2.2.2.2, HP.out.2.2.1, rfl⟩⟩
            case measure => exact HP.out.2.2.2.1
          · skip
            obtain ⟨b, off, ha, hcells⟩ := HF9.out.fr.rows.pg.row.at HP.out.2.1
            have d5 := at5 HF9.out.fr.box
            obtain ⟨k0, k1, k2, k3⟩ := hcells 0 HP.out.2.1
            rw [Nat.zero_mul, Nat.add_zero] at k0 k1 k2 k3
            have hq := HP.out.2.1
            have hp0 : cur.pg[0] = ⟨p0, 1, false, true⟩ := by have h9 := HP.out.1; simp [h9]
            rw [hp0] at k0 k1 k2 k3
            dsimp only at k0 k1 k2 k3
            obtain ⟨n, hn⟩ : ∃ n, n = cur.pg.length := ⟨_, rfl⟩
            have hpos : 0 < n := by rw [hn]; exact HP.out.2.1
            have z0 : (0 : Int) < (n : Int) := by omega
            rw [ha, ← hn] at d5
            have y0 := FQ.start HF9.out ⟨p0, 1, false, true⟩
            have hbl : w.heap.size ≠ w9.heap.size := by have := HF9.out.fr.box.lt; omega
            obtain ⟨w10, hw10⟩ : ∃ w10, w10 = w9.alloc (.cells #[.int .u64 p0, .int .i64 1, .bool false, .bool true] 58) := ⟨_, rfl⟩
            dsimp only at y0
            rw [← hw10] at y0
            obtain ⟨e0, e1, e2, e3⟩ := y0.b.at
            dsimp only at e0 e1 e2 e3
            have y1 := y0.cell 19 (.int .u64 (up cur.ct.st)) { cur with ct := { cur.ct with st := up cur.ct.st } } rfl rfl rfl rfl
            have hup0 := wrap_up cur.ct.st
            have dd0 := at19 y0.f.fr.box
            have ff0 := y0.f.fr.box.free 19
            have y2 := y1.cell 17 (.int .u64 (up cur.ct.cl)) { cur with ct := { cur.ct with st := up cur.ct.st, cl := up cur.ct.cl } } rfl rfl rfl rfl
            have hup1 := wrap_up cur.ct.cl
            have dd1 := at17 y0.f.fr.box
            have ff1 := y0.f.fr.box.free 17
            have y3 := y2.page 3 (.bool false) ⟨p0, 1, false, false⟩ rfl
            have ffp : w10.frozen? ⟨w9.heap.size, 3, none⟩ = false := by have hb := y0.b; unfold PB at hb; simp [World.frozen?, hb]
            obtain ⟨w11, hw11⟩ : ∃ w11, w11 = (((w10).setCell ⟨w.heap.size, 19, none⟩ (.int .u64 (up cur.ct.st))).setCell ⟨w.heap.size, 17, none⟩ (.int .u64 (up cur.ct.cl))).setCell ⟨w9.heap.size, 3, none⟩ (.bool false) := ⟨_, rfl⟩
            rw [← hw11] at y3
            have HY := Lib.hid y3
            have HW := Lib.hid (And.intro hw10 hw11)
            have HPB := Lib.hid hn
            obtain ⟨j0, j1, j2, j3⟩ := y3.b.at
            dsimp only at j0 j1 j2 j3
            clear hq HF9 hcells hp0 hw10 hw11 ha hn y0 y1 y2 y3
            go_wp2_with (first | fail | (refine st59n rfl (.tmp 3) (.tmp 17) rfl p0 1 false true rfl rfl _ rfl ?_; rw [← HW.out.1]) | (rw [← HW.out.2]; refine ld31 rfl (.tmp 1) rfl _ rfl _ HY.out.f.fr.box ?_))
            clear dd0 ff0 hup0 dd1 ff1 hup1 e0 e1 e2 e3 k0 k1 k2 k3 d5 HW hbl ffp
            have hbp : (setc cur (cCl cur)).pg = ⟨p0, 1, false, true⟩ :: l := HP.out.1
            have hbl2 : (setc cur (cCl cur)).pg.length ≤ 1000 := by rw [hbp]; have h8 := HC.out.2.1; rw [HP.out.1] at h8; exact h8
            have hcl : Hid (clS cur ⟨p0, 1, false, true⟩ = turnp { (setc cur (cCl cur)) with pg := (setc cur (cCl cur)).pg.set 0 ⟨p0, 1, false, false⟩ } ⟨p0, 1, false, false⟩) := Lib.hid (by rw [turn_with hbp]; unfold clS; rw [if_neg (show ¬ ((1 : Int) = 3) by decide), if_pos ⟨rfl, rfl⟩])
            have hb1c : Hd (setc cur (cCl cur)).co (setc cur (cCl cur)).pg.length := (by have h8 := HC.out.1.hc; exact h8)
            have hb1t : Hd (setc cur (cCl cur)).te (setc cur (cCl cur)).pg.length := (by have h8 := HC.out.1.ht; exact h8)
            have HB := Lib.hid (And.intro hbp (And.intro hbl2 (And.intro hb1c hb1t)))
            clear hbp hbl2 hb1c hb1t
            refine (with_at (setc cur (cCl cur)) rr 0 ⟨p0, 1, false, false⟩ (by rw [HB.out.1]; simp) HB.out.2.1 w11 HY.out.f.fr.rows).mono ?_
            rintro e w14 ⟨r4, rfl, hr4, hf4, hb4⟩
            have H14 := Lib.hid (And.intro (HY.out.f.keep hb4) (And.intro hr4 (HY.out.f.fr.told hr4 hf4)))
            clear hr4 hf4 hb4 HY j0 j1 j2 j3
            go_wp2_with fail
            refine (turn_at { (setc cur (cCl cur)) with pg := (setc cur (cCl cur)).pg.set 0 ⟨p0, 1, false, false⟩ } r4 ⟨p0, 1, false, false⟩ l (by show (setc cur (cCl cur)).pg.set 0 ⟨p0, 1, false, false⟩ = _; rw [HB.out.1]; rfl) (by show ((setc cur (cCl cur)).pg.set 0 ⟨p0, 1, false, false⟩).length ≤ 1000; rw [List.length_set]; exact HB.out.2.1) (by show Hd (setc cur (cCl cur)).co ((setc cur (cCl cur)).pg.set 0 ⟨p0, 1, false, false⟩).length; rw [List.length_set]; exact HB.out.2.2.1) (by show Hd (setc cur (cCl cur)).te ((setc cur (cCl cur)).pg.set 0 ⟨p0, 1, false, false⟩).length; rw [List.length_set]; exact HB.out.2.2.2) w14 H14.out.2.1).mono ?_
            rintro e w15 ⟨r5, rfl, hr5, hf5, hb5⟩
            have H15 := Lib.hid (And.intro (H14.out.1.keep hb5) (And.intro hr5 (H14.out.1.grow H14.out.2.2 hf5)))
            clear hr5 hf5 hb5 H14
            go_wp2_with (first | fail | refine st31 rfl (.tmp 1) (.tmp 74) rfl _ _ _ rfl rfl _ H15.out.1.fr.box ?_)
            go_roundg (msC (clS cur ⟨p0, 1, false, true⟩))
            case rel => exact ⟨clS cur ⟨p0, 1, false, true⟩, _, Lib.hid (by rw [hcl.out]; exact H15.out.1.setAll H15.out.2.1 H15.out.2.2), Lib.hid ⟨HP.out.2.2.2.2.1, HP.out.2.2.2.2.2, HP.out.2.2.1, rfl⟩⟩
            case measure => exact HP.out.2.2.2.1
        · obtain rfl : p1 = 2 := by unfold Pok at hpok; dsimp only at hpok; rcases hpok with h | h | h; exact absurd h.1 h1; exact h; exact absurd h.1 h3
          clear hpok h3 h1
          cases p2
          · skip
            obtain ⟨b, off, ha, hcells⟩ := HF9.out.fr.rows.pg.row.at HP.out.2.1
            have d5 := at5 HF9.out.fr.box
            obtain ⟨k0, k1, k2, k3⟩ := hcells 0 HP.out.2.1
            rw [Nat.zero_mul, Nat.add_zero] at k0 k1 k2 k3
            have hq := HP.out.2.1
            have hp0 : cur.pg[0] = ⟨p0, 2, false, p3⟩ := by have h9 := HP.out.1; simp [h9]
            rw [hp0] at k0 k1 k2 k3
            dsimp only at k0 k1 k2 k3
            obtain ⟨n, hn⟩ : ∃ n, n = cur.pg.length := ⟨_, rfl⟩
            have hpos : 0 < n := by rw [hn]; exact HP.out.2.1
            have z0 : (0 : Int) < (n : Int) := by omega
            rw [ha, ← hn] at d5
            have y0 := FQ.start HF9.out ⟨p0, 2, false, p3⟩
            have hbl : w.heap.size ≠ w9.heap.size := by have := HF9.out.fr.box.lt; omega
            obtain ⟨w10, hw10⟩ : ∃ w10, w10 = w9.alloc (.cells #[.int .u64 p0, .int .i64 2, .bool false, .bool p3] 58) := ⟨_, rfl⟩
            dsimp only at y0
            rw [← hw10] at y0
            obtain ⟨e0, e1, e2, e3⟩ := y0.b.at
            dsimp only at e0 e1 e2 e3
            have y1 := y0.cell 19 (.int .u64 (up cur.ct.st)) { cur with ct := { cur.ct with st := up cur.ct.st } } rfl rfl rfl rfl
            have hup0 := wrap_up cur.ct.st
            have dd0 := at19 y0.f.fr.box
            have ff0 := y0.f.fr.box.free 19
            obtain ⟨w11, hw11⟩ : ∃ w11, w11 = (w10).setCell ⟨w.heap.size, 19, none⟩ (.int .u64 (up cur.ct.st)) := ⟨_, rfl⟩
            rw [← hw11] at y1
            have HY := Lib.hid y1
            have HW := Lib.hid (And.intro hw10 hw11)
            have HPB := Lib.hid hn
            obtain ⟨j0, j1, j2, j3⟩ := y1.b.at
            dsimp only at j0 j1 j2 j3
            clear hq HF9 hcells hp0 hw10 hw11 ha hn y0 y1
            go_wp2_with (first | fail | (refine st59n rfl (.tmp 3) (.tmp 17) rfl p0 2 false p3 rfl rfl _ rfl ?_; rw [← HW.out.1]) | (rw [← HW.out.2]; refine ld31 rfl (.tmp 1) rfl _ rfl _ HY.out.f.fr.box ?_))
            clear dd0 ff0 hup0 e0 e1 e2 e3 k0 k1 k2 k3 d5 HW hbl
            have hbp : (setc cur (cSt cur)).pg = ⟨p0, 2, false, p3⟩ :: l := HP.out.1
            have hbl2 : (setc cur (cSt cur)).pg.length ≤ 1000 := by rw [hbp]; have h8 := HC.out.2.1; rw [HP.out.1] at h8; exact h8
            have hcl : Hid (clS cur ⟨p0, 2, false, p3⟩ = turnp { (setc cur (cSt cur)) with pg := (setc cur (cSt cur)).pg.set 0 ⟨p0, 2, false, p3⟩ } ⟨p0, 2, false, p3⟩) := Lib.hid (by rw [turn_with hbp]; unfold clS; rw [if_neg (show ¬ ((2 : Int) = 3) by decide), if_neg (fun e => absurd (show (2 : Int) = 1 from e.1) (by decide)), if_neg (show ¬ ((2 : Int) = 1) by decide), if_neg (show ¬ (false = true) by decide)])
            have hb1c : Hd (setc cur (cSt cur)).co (setc cur (cSt cur)).pg.length := (by have h8 := HC.out.1.hc; exact h8)
            have hb1t : Hd (setc cur (cSt cur)).te (setc cur (cSt cur)).pg.length := (by have h8 := HC.out.1.ht; exact h8)
            have HB := Lib.hid (And.intro hbp (And.intro hbl2 (And.intro hb1c hb1t)))
            clear hbp hbl2 hb1c hb1t
            refine (with_at (setc cur (cSt cur)) rr 0 ⟨p0, 2, false, p3⟩ (by rw [HB.out.1]; simp) HB.out.2.1 w11 HY.out.f.fr.rows).mono ?_
            rintro e w14 ⟨r4, rfl, hr4, hf4, hb4⟩
            have H14 := Lib.hid (And.intro (HY.out.f.keep hb4) (And.intro hr4 (HY.out.f.fr.told hr4 hf4)))
            clear hr4 hf4 hb4 HY j0 j1 j2 j3
            go_wp2_with fail
            refine (turn_at { (setc cur (cSt cur)) with pg := (setc cur (cSt cur)).pg.set 0 ⟨p0, 2, false, p3⟩ } r4 ⟨p0, 2, false, p3⟩ l (by show (setc cur (cSt cur)).pg.set 0 ⟨p0, 2, false, p3⟩ = _; rw [HB.out.1]; rfl) (by show ((setc cur (cSt cur)).pg.set 0 ⟨p0, 2, false, p3⟩).length ≤ 1000; rw [List.length_set]; exact HB.out.2.1) (by show Hd (setc cur (cSt cur)).co ((setc cur (cSt cur)).pg.set 0 ⟨p0, 2, false, p3⟩).length; rw [List.length_set]; exact HB.out.2.2.1) (by show Hd (setc cur (cSt cur)).te ((setc cur (cSt cur)).pg.set 0 ⟨p0, 2, false, p3⟩).length; rw [List.length_set]; exact HB.out.2.2.2) w14 H14.out.2.1).mono ?_
            rintro e w15 ⟨r5, rfl, hr5, hf5, hb5⟩
            have H15 := Lib.hid (And.intro (H14.out.1.keep hb5) (And.intro hr5 (H14.out.1.grow H14.out.2.2 hf5)))
            clear hr5 hf5 hb5 H14
            go_wp2_with (first | fail | refine st31 rfl (.tmp 1) (.tmp 74) rfl _ _ _ rfl rfl _ H15.out.1.fr.box ?_)
            go_roundg (msC (clS cur ⟨p0, 2, false, p3⟩))
            case rel => exact ⟨clS cur ⟨p0, 2, false, p3⟩, _, Lib.hid (by rw [hcl.out]; exact H15.out.1.setAll H15.out.2.1 H15.out.2.2), Lib.hid ⟨HP.out.2.2.2.2.1, HP.out.2.2.2.2.2, HP.out.2.2.1, rfl⟩⟩
            case measure => exact HP.out.2.2.2.1
          · skip
            obtain ⟨b, off, ha, hcells⟩ := HF9.out.fr.rows.pg.row.at HP.out.2.1
            have d5 := at5 HF9.out.fr.box
            obtain ⟨k0, k1, k2, k3⟩ := hcells 0 HP.out.2.1
            rw [Nat.zero_mul, Nat.add_zero] at k0 k1 k2 k3
            have hq := HP.out.2.1
            have hp0 : cur.pg[0] = ⟨p0, 2, true, p3⟩ := by have h9 := HP.out.1; simp [h9]
            rw [hp0] at k0 k1 k2 k3
            dsimp only at k0 k1 k2 k3
            obtain ⟨n, hn⟩ : ∃ n, n = cur.pg.length := ⟨_, rfl⟩
            have hpos : 0 < n := by rw [hn]; exact HP.out.2.1
            have z0 : (0 : Int) < (n : Int) := by omega
            rw [ha, ← hn] at d5
            have y0 := FQ.start HF9.out ⟨p0, 2, true, p3⟩
            have hbl : w.heap.size ≠ w9.heap.size := by have := HF9.out.fr.box.lt; omega
            obtain ⟨w10, hw10⟩ : ∃ w10, w10 = w9.alloc (.cells #[.int .u64 p0, .int .i64 2, .bool true, .bool p3] 58) := ⟨_, rfl⟩
            dsimp only at y0
            rw [← hw10] at y0
            obtain ⟨e0, e1, e2, e3⟩ := y0.b.at
            dsimp only at e0 e1 e2 e3
            have y1 := y0.cell 19 (.int .u64 (up cur.ct.st)) { cur with ct := { cur.ct with st := up cur.ct.st } } rfl rfl rfl rfl
            have hup0 := wrap_up cur.ct.st
            have dd0 := at19 y0.f.fr.box
            have ff0 := y0.f.fr.box.free 19
            have y2 := y1.cell 18 (.int .u64 (up cur.ct.en)) { cur with ct := { cur.ct with st := up cur.ct.st, en := up cur.ct.en } } rfl rfl rfl rfl
            have hup1 := wrap_up cur.ct.en
            have dd1 := at18 y0.f.fr.box
            have ff1 := y0.f.fr.box.free 18
            have y3 := y2.page 2 (.bool false) ⟨p0, 2, false, p3⟩ rfl
            have ffp : w10.frozen? ⟨w9.heap.size, 2, none⟩ = false := by have hb := y0.b; unfold PB at hb; simp [World.frozen?, hb]
            obtain ⟨w11, hw11⟩ : ∃ w11, w11 = (((w10).setCell ⟨w.heap.size, 19, none⟩ (.int .u64 (up cur.ct.st))).setCell ⟨w.heap.size, 18, none⟩ (.int .u64 (up cur.ct.en))).setCell ⟨w9.heap.size, 2, none⟩ (.bool false) := ⟨_, rfl⟩
            rw [← hw11] at y3
            have HY := Lib.hid y3
            have HW := Lib.hid (And.intro hw10 hw11)
            have HPB := Lib.hid hn
            obtain ⟨j0, j1, j2, j3⟩ := y3.b.at
            dsimp only at j0 j1 j2 j3
            clear hq HF9 hcells hp0 hw10 hw11 ha hn y0 y1 y2 y3
            go_wp2_with (first | fail | (refine st59n rfl (.tmp 3) (.tmp 17) rfl p0 2 true p3 rfl rfl _ rfl ?_; rw [← HW.out.1]) | (rw [← HW.out.2]; refine ld31 rfl (.tmp 1) rfl _ rfl _ HY.out.f.fr.box ?_))
            clear dd0 ff0 hup0 dd1 ff1 hup1 e0 e1 e2 e3 k0 k1 k2 k3 d5 HW hbl ffp
            have cF := falls_at (setc cur (cEn cur)) rr (by have := HC.out.1.ck.2.1.2; show cur.cf.c ≤ 1000; omega) HC.out.1.tg w11 HY.out.f.fr.rows
            obtain ⟨F, hF⟩ : ∃ F, F = falls (setc cur (cEn cur)) := ⟨_, rfl⟩
            rw [← hF] at cF
            have HF0 := Lib.hid hF
            have CF := Lib.hid cF
            clear cF hF
            refine CF.out.mono ?_
            rintro e w12 ⟨r1, rfl, hr1, hf1, hb1⟩
            have y20 := HY.out.keep hb1
            have y21 := y20.all hr1 (HY.out.f.fr.told hr1 hf1) (HY.out.new hf1)
            obtain ⟨w13, hw13⟩ : ∃ w13, w13 = w12.setRow w.heap.size (sA F r1) := ⟨_, rfl⟩
            rw [← hw13] at y21
            have HBX := Lib.hid y20.f.fr.box
            have HY2 := Lib.hid y21
            have HW13 := Lib.hid hw13
            clear hr1 hf1 hb1 HY j0 j1 j2 j3 y20 hw13 CF
            obtain ⟨j0, j1, j2, j3⟩ := y21.b.at
            dsimp only at j0 j1 j2 j3
            clear y21
            go_wp2_with (first | fail | (refine st31 rfl (.tmp 1) (.tmp 70) rfl _ _ _ rfl rfl _ HBX.out ?_; rw [← HW13.out]) | (refine ld31 rfl (.tmp 1) rfl _ rfl _ HY2.out.f.fr.box ?_))
            have hbp : F.pg = ⟨p0, 2, true, p3⟩ :: l := by rw [HF0.out, falls_pg]; exact HP.out.1
            have hbl2 : F.pg.length ≤ 1000 := by rw [hbp]; have h8 := HC.out.2.1; rw [HP.out.1] at h8; exact h8
            have hcl : Hid (clS cur ⟨p0, 2, true, p3⟩ = turnp { F with pg := F.pg.set 0 ⟨p0, 2, false, p3⟩ } ⟨p0, 2, false, p3⟩) := Lib.hid (by rw [turn_with hbp, HF0.out]; unfold clS; rw [if_neg (show ¬ ((2 : Int) = 3) by decide), if_neg (fun e => absurd (show (2 : Int) = 1 from e.1) (by decide)), if_neg (show ¬ ((2 : Int) = 1) by decide), if_pos rfl])
            have hb1c : Hd F.co F.pg.length := (by have h8 := HC.out.1.hc; rw [HF0.out, falls_pg, falls_co]; exact h8)
            have hb1t : Hd F.te F.pg.length := (by have h8 := HC.out.1.ht; rw [HF0.out, falls_pg, falls_te]; exact h8)
            have HB := Lib.hid (And.intro hbp (And.intro hbl2 (And.intro hb1c hb1t)))
            clear hbp hbl2 hb1c hb1t
            refine (with_at F r1 0 ⟨p0, 2, false, p3⟩ (by rw [HB.out.1]; simp) HB.out.2.1 w13 HY2.out.f.fr.rows).mono ?_
            rintro e w14 ⟨r4, rfl, hr4, hf4, hb4⟩
            have H14 := Lib.hid (And.intro (HY2.out.f.keep hb4) (And.intro hr4 (HY2.out.f.fr.told hr4 hf4)))
            clear hr4 hf4 hb4 HY2 j0 j1 j2 j3
            go_wp2_with fail
            refine (turn_at { F with pg := F.pg.set 0 ⟨p0, 2, false, p3⟩ } r4 ⟨p0, 2, false, p3⟩ l (by show F.pg.set 0 ⟨p0, 2, false, p3⟩ = _; rw [HB.out.1]; rfl) (by show (F.pg.set 0 ⟨p0, 2, false, p3⟩).length ≤ 1000; rw [List.length_set]; exact HB.out.2.1) (by show Hd F.co (F.pg.set 0 ⟨p0, 2, false, p3⟩).length; rw [List.length_set]; exact HB.out.2.2.1) (by show Hd F.te (F.pg.set 0 ⟨p0, 2, false, p3⟩).length; rw [List.length_set]; exact HB.out.2.2.2) w14 H14.out.2.1).mono ?_
            rintro e w15 ⟨r5, rfl, hr5, hf5, hb5⟩
            have H15 := Lib.hid (And.intro (H14.out.1.keep hb5) (And.intro hr5 (H14.out.1.grow H14.out.2.2 hf5)))
            clear hr5 hf5 hb5 H14
            go_wp2_with (first | fail | refine st31 rfl (.tmp 1) (.tmp 74) rfl _ _ _ rfl rfl _ H15.out.1.fr.box ?_)
            go_roundg (msC (clS cur ⟨p0, 2, true, p3⟩))
            case rel => exact ⟨clS cur ⟨p0, 2, true, p3⟩, _, Lib.hid (by rw [hcl.out]; exact H15.out.1.setAll H15.out.2.1 H15.out.2.2), Lib.hid ⟨HP.out.2.2.2.2.1, HP.out.2.2.2.2.2, HP.out.2.2.1, rfl⟩⟩
            case measure => exact HP.out.2.2.2.1

    · have hd : decide (cc - tg < (nh : Int)) = false := decide_eq_false hm
      have HE : Hid (cool s = cur) := Lib.hid (by rw [← HC.out.2.2.1]; exact cool_done (by rw [← HNN.out.1, ← HNN.out.2.1, ← HNN.out.2.2]; exact hm))
      go_wp2_with fail
      refine region_grown (by kernel_rfl) (by kernel_rfl) ?_
      repeat (go_big_quiet_step (first | (go_at_call 30; exact C23.out _)))
      refine wpQuiet_nil ?_
      rintro w9 ⟨⟨w8, hgl⟩, rfl⟩
      have HF9 := Lib.hid (HF.out.keep hgl)
      clear x1 x4 x5 C23 hgl HF hm
      go_wp2_with (first | fail | refine ld31 rfl (.tmp 1) rfl _ rfl _ HF9.out.fr.box ?_ | refine st31 rfl (.tmp 2) (.tmp 75) rfl _ _ _ rfl rfl _ HF9.out.res ?_)
      refine bodyPost_ret (results_s rfl _ _ _ _ rfl (HF9.out.res.rowSet (sA_len _ _))) rfl ?_
      rw [HE.out]
      exact HF9.out.ret HF9.out.fr.rows HF9.out.fr.frm rfl
end Go.Proofs.Ytejcahkkpednfaa
