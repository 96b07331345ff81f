/-
  The ring: it expires.
-/
import Derived.Test.YtejcahkkpednfaaG07
namespace Go.Proofs.Ytejcahkkpednfaa
open Go.RowKit
open Go.Proofs.StackM (Pg Cf Ct St up many fnd fnd_at fnd_no)
open Go.Proofs.WheelM
set_option linter.unusedVariables false
def msE (s : St) : Nat := tws s.pg * 1001 + d3 s
theorem d3_le (s : St) : d3 s ≤ s.pg.length := by unfold d3; rw [← rot_len s.te.toNat s.pg]; exact List.findIdx_le_length
theorem exS_n {s : St} (hw : Ww s) {p : Pg} (h : s.pg[s.te.toNat]? = some p) : (exS s p).pg.length ≤ s.pg.length := by
  rw [lN, lN]
  rcases exS_num hw h with ⟨_, _, e, _, _⟩ | ⟨_, _, e, _⟩ | ⟨_, _, e, _⟩ <;> rw [e] <;> (try dsimp only) <;> omega
theorem msE_lt {s : St} (hw : Ww s) {p : Pg} (h : s.pg[s.te.toNat]? = some p) (hg : 0 < many s.pg 3) (hl : s.pg.length ≤ 1000) : msE (exS s p) < msE s := by
  unfold msE
  rcases exS_look h with ⟨_, h2⟩ | ⟨h1, h2⟩
  · have h3 := d3_le (exS s p)
    have h4 := exS_n hw h
    rw [← h2, Nat.add_mul]
    omega
  · rw [h2]
    have h3 := d3_on h h1 hw.ht.1 hg
    have e : tws (cS3 s).pg = tws s.pg := rfl
    omega
/-- a count is set in a frame -/
theorem F2.setCell9 {w w1 : World} {r0 r : R3} {s : St} (x : F2 w r0 w1 s r) (a : Int) : F2 w r0 (w1.setCell ⟨w.heap.size, 9, none⟩ (.int .i64 a)) { s with te := a } r := x.setTe a
set_option maxHeartbeats 8000000 in
set_option maxRecDepth 100000 in
theorem expire_at (s : St) (r : R3) (hw : Ww s) (hl : s.pg.length ≤ 1000) (w : World) (hr : SR w s r) : Calls Try.prog 73 #[sV s r] w (SPost w r (expire s)) := by
  have x := F2.start hr
  obtain ⟨w1, hw1⟩ : ∃ w1, w1 = (w.alloc (.cells (sA s r) 31)).alloc (.cells (sA S0 R0) 31) := ⟨_, rfl⟩
  rw [← hw1] at x
  have hA : (w.alloc (.cells (sA s r) 31)).alloc (.cells #[.int .i64 0, .int .i64 0, .int .i64 0, .int .i64 0, .int .i64 0, .slice none 0 0, .slice none 0 0, .slice none 0 0, .int .i64 0, .int .i64 0, .int .u64 0, .int .u64 0, .int .u64 0, .int .u64 0, .int .u64 0, .int .u64 0, .int .u64 0, .int .u64 0, .int .u64 0, .int .u64 0] 31) = w1 := hw1.symm
  have HA := Lib.hid hA
  have HX := Lib.hid x
  have HL := Lib.hid hl
  have HWW := Lib.hid hw
  clear x hw1 hA hr hl hw
  show Calls Try.prog 73 #[sV s r] w fun e w' => SPost w r (expire s) e w'
  go_enter Try.func73, Try.ntmps73
  go_wp2_with fail
  rw [HA.out]
  go_loopg [] (msE s) (fun k wr => ∃ (cur : St) (rr : R3), Hid (F2 w r wr cur rr) ∧ Hid (Ww cur ∧ cur.pg.length ≤ 1000 ∧ expire cur = expire s ∧ k = msE cur))
  case atStart => exact ⟨s, r, HX, Lib.hid ⟨HWW.out, HL.out, rfl, rfl⟩⟩
  case round =>
    obtain ⟨cur, rr, HF, HC⟩ := hrel
    obtain ⟨ng, hng⟩ : ∃ n, n = many cur.pg 3 := ⟨_, rfl⟩
    obtain ⟨cg, hcg⟩ : ∃ c, c = cur.cf.g := ⟨_, rfl⟩
    have hhl : ng ≤ 1000 := by rw [hng]; have := many_le cur.pg 3; have := HC.out.2.1; omega
    have hc1 : 0 ≤ cg ∧ cg ≤ 512 := by rw [hcg]; exact HC.out.1.ck.2.2.2
    obtain ⟨hc1a, hc1b⟩ := hc1
    have x3 : ∀ W : GrB wr, W.v.cell? ⟨w.heap.size, 3, none⟩ = some (.int .i64 cg) := fun W => by rw [hcg]; exact at3 (HF.out.keep W.h).fr.box
    have x5 : ∀ W : GrB wr, W.v.cell? ⟨w.heap.size, 5, none⟩ = some (.slice rr.a1 cur.pg.length rr.c1) := fun W => at5 (HF.out.keep W.h).fr.box
    have C23 : Hid (∀ W : GrB wr, Calls Try.prog 30 #[.slice rr.a1 cur.pg.length rr.c1, .int .i64 3] W.v fun e w' => e = .returned (.int .i64 (ng : Int)) ∧ ∃ W' : GrB wr, w' = W'.v) := Lib.hid (grown_call (w := wr) fun V hV => (many_at cur.pg 3 rr.a1 cur.pg.length rr.c1 rfl (by have := HC.out.2.1; omega) V (HF.out.keep hV).fr.rows.pg.row).mono fun e w' ⟨e1, e2⟩ => ⟨by rw [hng]; exact e1, e2 ▸ Below.refl _ _⟩)
    have HNN := Lib.hid (And.intro hng hcg)
    clear hng hcg
    by_cases hm : cg < (ng : Int)
    · have hgc : (many cur.pg 3 : Int) > cur.cf.g := by rw [← HNN.out.1, ← HNN.out.2]; exact hm
      have hhot := g3_hot HC.out.1 hgc
      obtain ⟨p, hpl⟩ := HC.out.1.at HC.out.1.ht (pos_len hhot)
      obtain ⟨i, hi⟩ : ∃ i : Nat, i = cur.te.toNat := ⟨_, rfl⟩
      have hte : cur.te = (i : Int) := by rw [hi]; have := HC.out.1.ht.1; omega
      have hil : i < cur.pg.length := by rw [hi]; exact at_lt hpl
      have hpi : cur.pg[i] = p := by
        have h9 := hpl
        rw [← hi, List.getElem?_eq_getElem hil] at h9
        injection h9
      have hE : expire (exS cur p) = expire s := by rw [← HC.out.2.2.1]; exact (expire_step hpl hgc HC.out.1.ht.1 hhot).symm
      have hM : msE (exS cur p) < gk := by rw [HC.out.2.2.2]; exact msE_lt HC.out.1 hpl hhot HC.out.2.1
      have hW2 := HC.out.1.exS hpl
      have hL2 := Nat.le_trans (exS_n HC.out.1 hpl) HC.out.2.1
      have hpok := HC.out.1.pk p (List.mem_of_getElem? hpl)
      have HP : Hid (cur.te = (i : Int) ∧ ∃ h : i < cur.pg.length, cur.pg[i] = p ∧ expire (exS cur p) = expire s ∧ msE (exS cur p) < gk ∧ Ww (exS cur p) ∧ (exS cur p).pg.length ≤ 1000) := Lib.hid ⟨hte, hil, hpi, hE, hM, hW2, hL2⟩
      clear hgc hhot hpl hi hte hil hpi hE hM hW2 hL2
      go_wp2_with fail
      refine region_grown (by kernel_rfl) (by kernel_rfl) ?_
      repeat (go_big_quiet_step (first | (go_at_call 30; exact C23.out _)))
      refine wpQuiet_nil ?_
      rintro w9 ⟨⟨w8, hgl⟩, rfl⟩
      have HF9 := Lib.hid (HF.out.keep hgl)
      clear x3 x5 C23 hgl HF hm
      obtain ⟨p0, p1, p2, p3⟩ := p
      by_cases h3 : p1 = 3
      · subst h3
        obtain ⟨rfl, rfl⟩ : p2 = true ∧ p3 = false := by unfold Pok at hpok; simpa using hpok
        clear hpok
        obtain ⟨b, off, ha, hcells⟩ := HF9.out.fr.rows.pg.row.at (Exists.choose HP.out.2)
        have d5 := at5 HF9.out.fr.box
        have d9 := at9 HF9.out.fr.box
        rw [HP.out.1] at d9
        obtain ⟨k0, k1, k2, k3⟩ := hcells i (Exists.choose HP.out.2)
        have hq := (Exists.choose HP.out.2)
        have hp0 : cur.pg[i] = ⟨p0, 3, true, false⟩ := (Exists.choose_spec HP.out.2).1
        rw [hp0] at k0 k1 k2 k3
        dsimp only at k0 k1 k2 k3
        obtain ⟨n, hn⟩ : ∃ n, n = cur.pg.length := ⟨_, rfl⟩
        have hin : i < n := by rw [hn]; exact (Exists.choose HP.out.2)
        have hnl : n ≤ 1000 := by rw [hn]; exact HC.out.2.1
        have z0 : (0 : Int) ≤ (i : Int) := by omega
        have z1 : (i : Int) < (n : Int) := by omega
        rw [ha, ← hn] at d5
        have y0 := FQ.start HF9.out ⟨p0, 3, true, false⟩
        have hbl : w.heap.size ≠ w9.heap.size := by have := HF9.out.fr.box.lt; omega
        obtain ⟨w10, hw10⟩ : ∃ w10, w10 = w9.alloc (.cells #[.int .u64 p0, .int .i64 3, .bool true, .bool false] 58) := ⟨_, rfl⟩
        dsimp only at y0
        rw [← hw10] at y0
        obtain ⟨e0, e1, e2, e3⟩ := y0.b.at
        dsimp only at e0 e1 e2 e3
        have y1 := y0.cell 19 (.int .u64 (up cur.ct.st)) { cur with ct := { cur.ct with st := up cur.ct.st } } rfl rfl rfl rfl
        have hup0 := wrap_up cur.ct.st
        have dd0 := at19 y0.f.fr.box
        have ff0 := y0.f.fr.box.free 19
        have y2 := y1.cell 16 (.int .u64 (up cur.ct.fo)) { cur with ct := { cur.ct with st := up cur.ct.st, fo := up cur.ct.fo } } rfl rfl rfl rfl
        have hup1 := wrap_up cur.ct.fo
        have dd1 := at16 y0.f.fr.box
        have ff1 := y0.f.fr.box.free 16
        obtain ⟨w11, hw11⟩ : ∃ w11, w11 = ((w10).setCell ⟨w.heap.size, 19, none⟩ (.int .u64 (up cur.ct.st))).setCell ⟨w.heap.size, 16, none⟩ (.int .u64 (up cur.ct.fo)) := ⟨_, rfl⟩
        rw [← hw11] at y2
        have HY := Lib.hid y2
        have HW := Lib.hid (And.intro hw10 hw11)
        have HN := Lib.hid hn
        obtain ⟨j0, j1, j2, j3⟩ := y2.b.at
        dsimp only at j0 j1 j2 j3
        have g9 := at9 y2.f.fr.box
        dsimp only at g9
        rw [HP.out.1] at g9
        have g5 := at5 y2.f.fr.box
        dsimp only at g5
        rw [← hn] at g5
        have h9 := y2.f.fr.box.free 9
        clear hq HF9 hcells hp0 hw10 hw11 ha hn y0 y1 y2
        go_wp2_with (first | fail | (refine st59n rfl (.tmp 3) (.tmp 16) rfl p0 3 true false rfl rfl _ rfl ?_; rw [← HW.out.1]) | (rw [← HW.out.2]; refine ld31 rfl (.tmp 1) rfl _ rfl _ HY.out.f.fr.box ?_))
        clear dd0 ff0 hup0 dd1 ff1 hup1 e0 e1 e2 e3 k0 k1 k2 k3 d5 d9 HW hbl
        have hcl : Hid (exS cur ⟨p0, 3, true, false⟩ = falls (leave (setc cur (cFo cur)) i)) := Lib.hid (by unfold exS; rw [if_pos rfl]; unfold cF3; rw [HP.out.1, Int.toNat_natCast])
        refine (leave_at (setc cur (cFo cur)) rr i (Exists.choose HP.out.2) HC.out.2.1 HC.out.1.hc HC.out.1.ht w11 HY.out.f.fr.rows).mono ?_
        rintro e w12 ⟨r1, rfl, hr1, hf1, hb1⟩
        have H12 := Lib.hid (And.intro (HY.out.f.keep hb1) (And.intro hr1 (HY.out.f.fr.told hr1 hf1)))
        clear hr1 hf1 hb1 HY j0 j1 j2 j3 g9 g5 h9
        go_wp2_with fail
        refine (falls_at (leave (setc cur (cFo cur)) i) r1 (by have := HC.out.1.ck.2.1.2; show cur.cf.c ≤ 1000; omega) HC.out.1.tg w12 H12.out.2.1).mono ?_
        rintro e w13 ⟨r2, rfl, hr2, hf2, hb2⟩
        have H13 := Lib.hid (And.intro (H12.out.1.keep hb2) (And.intro hr2 (H12.out.1.grow H12.out.2.2 hf2)))
        clear hr2 hf2 hb2 H12
        go_wp2_with (first | fail | refine st31 rfl (.tmp 1) (.tmp 36) rfl _ _ _ rfl rfl _ H13.out.1.fr.box ?_)
        go_roundg (msE (exS cur ⟨p0, 3, true, false⟩))
        case rel => exact ⟨exS cur ⟨p0, 3, true, false⟩, _, Lib.hid (by rw [hcl.out]; exact H13.out.1.setAll H13.out.2.1 H13.out.2.2), Lib.hid ⟨(Exists.choose_spec HP.out.2).2.2.2.1, (Exists.choose_spec HP.out.2).2.2.2.2, (Exists.choose_spec HP.out.2).2.1, rfl⟩⟩
        case measure => exact (Exists.choose_spec HP.out.2).2.2.1
      · by_cases h1 : p1 = 1
        · subst h1
          obtain rfl : p2 = false := by unfold Pok at hpok; simpa using hpok
          clear hpok h3
          obtain ⟨b, off, ha, hcells⟩ := HF9.out.fr.rows.pg.row.at (Exists.choose HP.out.2)
          have d5 := at5 HF9.out.fr.box
          have d9 := at9 HF9.out.fr.box
          rw [HP.out.1] at d9
          obtain ⟨k0, k1, k2, k3⟩ := hcells i (Exists.choose HP.out.2)
          have hq := (Exists.choose HP.out.2)
          have hp0 : cur.pg[i] = ⟨p0, 1, false, p3⟩ := (Exists.choose_spec HP.out.2).1
          rw [hp0] at k0 k1 k2 k3
          dsimp only at k0 k1 k2 k3
          obtain ⟨n, hn⟩ : ∃ n, n = cur.pg.length := ⟨_, rfl⟩
          have hin : i < n := by rw [hn]; exact (Exists.choose HP.out.2)
          have hnl : n ≤ 1000 := by rw [hn]; exact HC.out.2.1
          have z0 : (0 : Int) ≤ (i : Int) := by omega
          have z1 : (i : Int) < (n : Int) := by omega
          rw [ha, ← hn] at d5
          have y0 := FQ.start HF9.out ⟨p0, 1, false, p3⟩
          have hbl : w.heap.size ≠ w9.heap.size := by have := HF9.out.fr.box.lt; omega
          obtain ⟨w10, hw10⟩ : ∃ w10, w10 = w9.alloc (.cells #[.int .u64 p0, .int .i64 1, .bool false, .bool p3] 58) := ⟨_, rfl⟩
          dsimp only at y0
          rw [← hw10] at y0
          obtain ⟨e0, e1, e2, e3⟩ := y0.b.at
          dsimp only at e0 e1 e2 e3
          have y1 := y0.cell 19 (.int .u64 (up cur.ct.st)) { cur with ct := { cur.ct with st := up cur.ct.st } } rfl rfl rfl rfl
          have hup0 := wrap_up cur.ct.st
          have dd0 := at19 y0.f.fr.box
          have ff0 := y0.f.fr.box.free 19
          obtain ⟨w11, hw11⟩ : ∃ w11, w11 = (w10).setCell ⟨w.heap.size, 19, none⟩ (.int .u64 (up cur.ct.st)) := ⟨_, rfl⟩
          rw [← hw11] at y1
          have HY := Lib.hid y1
          have HW := Lib.hid (And.intro hw10 hw11)
          have HN := Lib.hid hn
          obtain ⟨j0, j1, j2, j3⟩ := y1.b.at
          dsimp only at j0 j1 j2 j3
          have g9 := at9 y1.f.fr.box
          dsimp only at g9
          rw [HP.out.1] at g9
          have g5 := at5 y1.f.fr.box
          dsimp only at g5
          rw [← hn] at g5
          have h9 := y1.f.fr.box.free 9
          have g9b := at9 y0.f.fr.box
          rw [HP.out.1] at g9b
          have g5b := at5 y0.f.fr.box
          rw [← hn] at g5b
          clear hq HF9 hcells hp0 hw10 hw11 ha hn y0 y1
          go_wp2_with (first | fail | (refine st59n rfl (.tmp 3) (.tmp 16) rfl p0 1 false p3 rfl rfl _ rfl ?_; rw [← HW.out.1]))
          rw [← HW.out.2]
          refine (on_at (i : Int) (n : Int) ⟨z0, by omega⟩ ⟨by omega, by omega⟩ w11).mono ?_
          rintro e w12 ⟨rfl, h12⟩
          subst h12
          clear dd0 ff0 hup0 e0 e1 e2 e3 k0 k1 k2 k3 d5 d9 HW hbl j0 j1 j2 j3 g9b g5b
          have hcl : Hid (exS cur ⟨p0, 1, false, p3⟩ = { setc cur (cSt cur) with te := onw (i : Int) (n : Int) }) := Lib.hid (by unfold exS; rw [if_neg (show ¬ ((1 : Int) = 3) by decide), if_neg (fun e => absurd (show (1 : Int) = 2 from e.1) (by decide))]; unfold cS3; rw [HP.out.1, HN.out])
          go_wp2_with fail
          go_roundg (msE (exS cur ⟨p0, 1, false, p3⟩))
          case rel => exact ⟨exS cur ⟨p0, 1, false, p3⟩, _, Lib.hid (by rw [hcl.out]; exact HY.out.f.setTe (onw (i : Int) (n : Int))), Lib.hid ⟨(Exists.choose_spec HP.out.2).2.2.2.1, (Exists.choose_spec HP.out.2).2.2.2.2, (Exists.choose_spec HP.out.2).2.1, rfl⟩⟩
          case measure => exact (Exists.choose_spec HP.out.2).2.2.1
        · obtain rfl : p1 = 2 := by unfold Pok at hpok; dsimp only at hpok; rcases hpok with h | h | h; exact absurd h.1 h1; exact h; exact absurd h.1 h3
          clear hpok h3 h1
          cases p2
          · skip
            obtain ⟨b, off, ha, hcells⟩ := HF9.out.fr.rows.pg.row.at (Exists.choose HP.out.2)
            have d5 := at5 HF9.out.fr.box
            have d9 := at9 HF9.out.fr.box
            rw [HP.out.1] at d9
            obtain ⟨k0, k1, k2, k3⟩ := hcells i (Exists.choose HP.out.2)
            have hq := (Exists.choose HP.out.2)
            have hp0 : cur.pg[i] = ⟨p0, 2, false, p3⟩ := (Exists.choose_spec HP.out.2).1
            rw [hp0] at k0 k1 k2 k3
            dsimp only at k0 k1 k2 k3
            obtain ⟨n, hn⟩ : ∃ n, n = cur.pg.length := ⟨_, rfl⟩
            have hin : i < n := by rw [hn]; exact (Exists.choose HP.out.2)
            have hnl : n ≤ 1000 := by rw [hn]; exact HC.out.2.1
            have z0 : (0 : Int) ≤ (i : Int) := by omega
            have z1 : (i : Int) < (n : Int) := by omega
            rw [ha, ← hn] at d5
            have y0 := FQ.start HF9.out ⟨p0, 2, false, p3⟩
            have hbl : w.heap.size ≠ w9.heap.size := by have := HF9.out.fr.box.lt; omega
            obtain ⟨w10, hw10⟩ : ∃ w10, w10 = w9.alloc (.cells #[.int .u64 p0, .int .i64 2, .bool false, .bool p3] 58) := ⟨_, rfl⟩
            dsimp only at y0
            rw [← hw10] at y0
            obtain ⟨e0, e1, e2, e3⟩ := y0.b.at
            dsimp only at e0 e1 e2 e3
            have y1 := y0.cell 19 (.int .u64 (up cur.ct.st)) { cur with ct := { cur.ct with st := up cur.ct.st } } rfl rfl rfl rfl
            have hup0 := wrap_up cur.ct.st
            have dd0 := at19 y0.f.fr.box
            have ff0 := y0.f.fr.box.free 19
            obtain ⟨w11, hw11⟩ : ∃ w11, w11 = (w10).setCell ⟨w.heap.size, 19, none⟩ (.int .u64 (up cur.ct.st)) := ⟨_, rfl⟩
            rw [← hw11] at y1
            have HY := Lib.hid y1
            have HW := Lib.hid (And.intro hw10 hw11)
            have HN := Lib.hid hn
            obtain ⟨j0, j1, j2, j3⟩ := y1.b.at
            dsimp only at j0 j1 j2 j3
            have g9 := at9 y1.f.fr.box
            dsimp only at g9
            rw [HP.out.1] at g9
            have g5 := at5 y1.f.fr.box
            dsimp only at g5
            rw [← hn] at g5
            have h9 := y1.f.fr.box.free 9
            have g9b := at9 y0.f.fr.box
            rw [HP.out.1] at g9b
            have g5b := at5 y0.f.fr.box
            rw [← hn] at g5b
            clear hq HF9 hcells hp0 hw10 hw11 ha hn y0 y1
            go_wp2_with (first | fail | (refine st59n rfl (.tmp 3) (.tmp 16) rfl p0 2 false p3 rfl rfl _ rfl ?_; rw [← HW.out.1]))
            rw [← HW.out.2]
            refine (on_at (i : Int) (n : Int) ⟨z0, by omega⟩ ⟨by omega, by omega⟩ w11).mono ?_
            rintro e w12 ⟨rfl, h12⟩
            subst h12
            clear dd0 ff0 hup0 e0 e1 e2 e3 k0 k1 k2 k3 d5 d9 HW hbl j0 j1 j2 j3 g9b g5b
            have hcl : Hid (exS cur ⟨p0, 2, false, p3⟩ = { setc cur (cSt cur) with te := onw (i : Int) (n : Int) }) := Lib.hid (by unfold exS; rw [if_neg (show ¬ ((2 : Int) = 3) by decide), if_neg (fun e => Bool.false_ne_true e.2)]; unfold cS3; rw [HP.out.1, HN.out])
            go_wp2_with fail
            go_roundg (msE (exS cur ⟨p0, 2, false, p3⟩))
            case rel => exact ⟨exS cur ⟨p0, 2, false, p3⟩, _, Lib.hid (by rw [hcl.out]; exact HY.out.f.setTe (onw (i : Int) (n : Int))), Lib.hid ⟨(Exists.choose_spec HP.out.2).2.2.2.1, (Exists.choose_spec HP.out.2).2.2.2.2, (Exists.choose_spec HP.out.2).2.1, rfl⟩⟩
            case measure => exact (Exists.choose_spec HP.out.2).2.2.1
          · skip
            obtain ⟨b, off, ha, hcells⟩ := HF9.out.fr.rows.pg.row.at (Exists.choose HP.out.2)
            have d5 := at5 HF9.out.fr.box
            have d9 := at9 HF9.out.fr.box
            rw [HP.out.1] at d9
            obtain ⟨k0, k1, k2, k3⟩ := hcells i (Exists.choose HP.out.2)
            have hq := (Exists.choose HP.out.2)
            have hp0 : cur.pg[i] = ⟨p0, 2, true, p3⟩ := (Exists.choose_spec HP.out.2).1
            rw [hp0] at k0 k1 k2 k3
            dsimp only at k0 k1 k2 k3
            obtain ⟨n, hn⟩ : ∃ n, n = cur.pg.length := ⟨_, rfl⟩
            have hin : i < n := by rw [hn]; exact (Exists.choose HP.out.2)
            have hnl : n ≤ 1000 := by rw [hn]; exact HC.out.2.1
            have z0 : (0 : Int) ≤ (i : Int) := by omega
            have z1 : (i : Int) < (n : Int) := by omega
            rw [ha, ← hn] at d5
            have y0 := FQ.start HF9.out ⟨p0, 2, true, p3⟩
            have hbl : w.heap.size ≠ w9.heap.size := by have := HF9.out.fr.box.lt; omega
            obtain ⟨w10, hw10⟩ : ∃ w10, w10 = w9.alloc (.cells #[.int .u64 p0, .int .i64 2, .bool true, .bool p3] 58) := ⟨_, rfl⟩
            dsimp only at y0
            rw [← hw10] at y0
            obtain ⟨e0, e1, e2, e3⟩ := y0.b.at
            dsimp only at e0 e1 e2 e3
            have y1 := y0.cell 19 (.int .u64 (up cur.ct.st)) { cur with ct := { cur.ct with st := up cur.ct.st } } rfl rfl rfl rfl
            have hup0 := wrap_up cur.ct.st
            have dd0 := at19 y0.f.fr.box
            have ff0 := y0.f.fr.box.free 19
            have y2 := y1.cell 18 (.int .u64 (up cur.ct.en)) { cur with ct := { cur.ct with st := up cur.ct.st, en := up cur.ct.en } } rfl rfl rfl rfl
            have hup1 := wrap_up cur.ct.en
            have dd1 := at18 y0.f.fr.box
            have ff1 := y0.f.fr.box.free 18
            have y3 := y2.page 2 (.bool false) ⟨p0, 2, false, p3⟩ rfl
            have ffp : w10.frozen? ⟨w9.heap.size, 2, none⟩ = false := by have hb := y0.b; unfold PB at hb; simp [World.frozen?, hb]
            obtain ⟨w11, hw11⟩ : ∃ w11, w11 = (((w10).setCell ⟨w.heap.size, 19, none⟩ (.int .u64 (up cur.ct.st))).setCell ⟨w.heap.size, 18, none⟩ (.int .u64 (up cur.ct.en))).setCell ⟨w9.heap.size, 2, none⟩ (.bool false) := ⟨_, rfl⟩
            rw [← hw11] at y3
            have HY := Lib.hid y3
            have HW := Lib.hid (And.intro hw10 hw11)
            have HN := Lib.hid hn
            obtain ⟨j0, j1, j2, j3⟩ := y3.b.at
            dsimp only at j0 j1 j2 j3
            have g9 := at9 y3.f.fr.box
            dsimp only at g9
            rw [HP.out.1] at g9
            have g5 := at5 y3.f.fr.box
            dsimp only at g5
            rw [← hn] at g5
            have h9 := y3.f.fr.box.free 9
            clear hq HF9 hcells hp0 hw10 hw11 ha hn y0 y1 y2 y3
            go_wp2_with (first | fail | (refine st59n rfl (.tmp 3) (.tmp 16) rfl p0 2 true p3 rfl rfl _ rfl ?_; rw [← HW.out.1]) | (rw [← HW.out.2]; refine ld31 rfl (.tmp 1) rfl _ rfl _ HY.out.f.fr.box ?_))
            clear dd0 ff0 hup0 dd1 ff1 hup1 e0 e1 e2 e3 k0 k1 k2 k3 d5 d9 HW hbl ffp
            have hcl : Hid (exS cur ⟨p0, 2, true, p3⟩ = { falls { setc cur (cEn cur) with pg := cur.pg.set i ⟨p0, 2, false, p3⟩ } with te := onw (i : Int) (n : Int) }) := Lib.hid (by unfold exS; rw [if_neg (show ¬ ((2 : Int) = 3) by decide), if_pos ⟨rfl, rfl⟩]; unfold cE3; rw [HP.out.1, Int.toNat_natCast, HN.out])
            refine (with_at (setc cur (cEn cur)) rr i ⟨p0, 2, false, p3⟩ (Exists.choose HP.out.2) HC.out.2.1 w11 HY.out.f.fr.rows).mono ?_
            rintro e w12 ⟨r1, rfl, hr1, hf1, hb1⟩
            have H12 := Lib.hid (And.intro (HY.out.f.keep hb1) (And.intro hr1 (HY.out.f.fr.told hr1 hf1)))
            clear hr1 hf1 hb1 HY j0 j1 j2 j3 g9 g5 h9
            go_wp2_with fail
            refine (falls_at { setc cur (cEn cur) with pg := cur.pg.set i ⟨p0, 2, false, p3⟩ } r1 (by have := HC.out.1.ck.2.1.2; show cur.cf.c ≤ 1000; omega) HC.out.1.tg w12 H12.out.2.1).mono ?_
            rintro e w13 ⟨r2, rfl, hr2, hf2, hb2⟩
            have y20 := H12.out.1.keep hb2
            have y21 := y20.setAll hr2 (H12.out.1.grow H12.out.2.2 hf2)
            have HBX := Lib.hid y20.fr.box
            obtain ⟨w14, hw14⟩ : ∃ w14, w14 = w13.setRow w.heap.size (sA (falls { setc cur (cEn cur) with pg := cur.pg.set i ⟨p0, 2, false, p3⟩ }) r2) := ⟨_, rfl⟩
            rw [← hw14] at y21
            have g9 := at9 y21.fr.box
            rw [falls_te] at g9
            dsimp only [setc] at g9
            rw [HP.out.1] at g9
            have g5 := at5 y21.fr.box
            rw [falls_pg] at g5
            dsimp only at g5
            rw [List.length_set, ← HN.out] at g5
            have h9 := y21.fr.box.free 9
            have HY2 := Lib.hid y21
            have HW14 := Lib.hid hw14
            clear hr2 hf2 hb2 H12 y20 y21 hw14
            go_wp2_with (first | fail | (refine st31 rfl (.tmp 1) (.tmp 56) rfl _ _ _ rfl rfl _ HBX.out ?_; rw [← HW14.out]))
            refine (on_at (i : Int) (n : Int) ⟨z0, by omega⟩ ⟨by omega, by omega⟩ w14).mono ?_
            rintro e w15 ⟨rfl, h15⟩
            subst h15
            go_wp2_with fail
            go_roundg (msE (exS cur ⟨p0, 2, true, p3⟩))
            case rel => exact ⟨exS cur ⟨p0, 2, true, p3⟩, _, Lib.hid (by rw [hcl.out]; exact HY2.out.setTe (onw (i : Int) (n : Int))), Lib.hid ⟨(Exists.choose_spec HP.out.2).2.2.2.1, (Exists.choose_spec HP.out.2).2.2.2.2, (Exists.choose_spec HP.out.2).2.1, rfl⟩⟩
            case measure => exact (Exists.choose_spec HP.out.2).2.2.1
    · have hd : decide (cg < (ng : Int)) = false := decide_eq_false hm
      have HE : Hid (expire s = cur) := Lib.hid (by rw [← HC.out.2.2.1]; exact expire_done (by rw [← HNN.out.1, ← HNN.out.2]; exact hm))
      go_wp2_with fail
      refine region_grown (by kernel_rfl) (by kernel_rfl) ?_
      repeat (go_big_quiet_step (first | (go_at_call 30; exact C23.out _)))
      refine wpQuiet_nil ?_
      rintro w9 ⟨⟨w8, hgl⟩, rfl⟩
      have HF9 := Lib.hid (HF.out.keep hgl)
      clear x3 x5 C23 hgl HF hm
      go_wp2_with (first | fail | refine ld31 rfl (.tmp 1) rfl _ rfl _ HF9.out.fr.box ?_ | refine st31 rfl (.tmp 2) (.tmp 64) rfl _ _ _ rfl rfl _ HF9.out.res ?_)
      refine bodyPost_ret (results_s rfl _ _ _ _ rfl (HF9.out.res.rowSet (sA_len _ _))) rfl ?_
      rw [HE.out]
      exact HF9.out.ret HF9.out.fr.rows HF9.out.fr.frm rfl
end Go.Proofs.Ytejcahkkpednfaa
