/-
  The ring: the cold hand is at a cold page with a Mark.
-/
import Derived.Test.YtejcahkkpednfaaG08
import Derived.Deep.RegionHeld3
import Derived.Deep.CutRange
namespace Go.Proofs.Ytejcahkkpednfaa
open Go.RowKit
open Go.Proofs.StackM (Pg Cf Ct St up many fnd fnd_at fnd_no)
open Go.Proofs.WheelM
set_option linter.unusedVariables false
theorem exec31 {o : Oper} {a : Act} {w : World} {g : Nat} {cs : Array Value} (x : Operand) (ho : o.op = .load 31 x) (hx : a.eval x = .pointer (some ⟨g, 0, none⟩)) (h : Box w g cs) : (execOp a.eval o).run Try.prog w = .ok (.value (.agg cs)) w := by
  simp [execOp, ho, hx, h.loadI]
theorem step31 {ops : Array Oper} {o : Oper} {a : Act} {w : World} {K : Act → World → Prop} {Q : Exit → Act → World → Prop} {E : Prop} (hgd : o.guard = none) (x y : Operand) (ho : o.op = .store 31 x y) (g : Nat) (s : St) (r : R3) (hx : a.eval x = .pointer (some ⟨g, 0, none⟩)) (hy : a.eval y = sV s r) (cs : Array Value) (h : Box w g cs)
    (hK : K a (w.setRow g (sA s r))) (hd : o.dst = none := by rfl) : if Region.wanted o (yielded ops a.tmps) = true then Oper.wp Try.prog o a w K Q else E := by
  have hw : Region.wanted o (yielded ops a.tmps) = true := by simp [Region.wanted, hgd]
  rw [if_pos hw]
  exact wp_store_row 31 x y ho g (sA s r) hx hy 31 cs h.1 (by rw [sA_len]; exact info31) (by rw [sA_len, h.2]) (sA_one s r) (by rw [hd]; exact hK)
/-- what is put into a frame, written out -/
theorem put_laws : (∀ (a : Act) (t : Tmp) (v : Value), a.put (some t) v = { a with tmps := a.tmps.setIfInBounds t v }) ∧ (∀ (a : Act) (v : Value), a.put none v = a) ∧ (∀ (l : List Value) (i : Nat) (v : Value), l.toArray.setIfInBounds i v = (l.set i v).toArray) ∧ (∀ (x v : Value) (l : List Value), (x :: l).set 0 v = v :: l) ∧ (∀ (x v : Value) (l : List Value) (i : Nat), (x :: l).set (i + 1) v = x :: l.set i v) :=
  ⟨fun _ _ _ => rfl, fun _ _ => rfl, fun _ _ _ => by simp, fun _ _ _ => rfl, fun _ _ _ _ => rfl⟩
theorem PB.other {w : World} {b g : Nat} {p : Pg} (h : PB w b p) (hne : g ≠ b) (ds : Array Value) : PB (w.setRow g ds) b p := by
  unfold PB at *
  simp only [World.setRow, Array.getElem?_modify]
  rw [if_neg hne]
  exact h
set_option maxHeartbeats 2000000 in
set_option maxRecDepth 100000 in
theorem markedT_at (s : St) (r : R3) (i : Nat) (p0 : Int) (hw : Ww s) (hl : s.pg.length ≤ 999) (hco : s.co = (i : Int)) (hi : i < s.pg.length) (hpi : s.pg[i] = ⟨p0, 2, false, true⟩) (w : World) (hr : SR w s r) : Calls Try.prog 90 #[sV s r] w (SPost w r (mkT s ⟨p0, 2, false, true⟩)) := by
  have x := F2.start hr
  obtain ⟨w1, hw1⟩ : ∃ w1, w1 = (w.alloc (.cells (sA s r) 31)).alloc (.cells (sA S0 R0) 31) := ⟨_, rfl⟩
  rw [← hw1] at x
  have hA : ((w.alloc (.cells (sA s r) 31)).alloc (.cells #[.int .i64 0, .int .i64 0, .int .i64 0, .int .i64 0, .int .i64 0, .slice none 0 0, .slice none 0 0, .slice none 0 0, .int .i64 0, .int .i64 0, .int .u64 0, .int .u64 0, .int .u64 0, .int .u64 0, .int .u64 0, .int .u64 0, .int .u64 0, .int .u64 0, .int .u64 0, .int .u64 0] 31)) = w1 := hw1.symm
  have hs1 : w1.heap.size = w.heap.size + 1 + 1 := by rw [hw1]; simp
  obtain ⟨b, off, ha, hcells⟩ := x.fr.rows.pg.row.at hi
  obtain ⟨k0, k1, k2, k3⟩ := hcells i hi
  rw [hpi] at k0 k1 k2 k3
  dsimp only at k0 k1 k2 k3
  obtain ⟨n, hn⟩ : ∃ n, n = s.pg.length := ⟨_, rfl⟩
  have hin : i < n := by rw [hn]; exact hi
  have hnl : n ≤ 999 := by rw [hn]; exact hl
  have z0 : (0 : Int) ≤ (i : Int) := by omega
  have z1 : (i : Int) < (n : Int) := by omega
  have d5 := at5 x.fr.box
  rw [ha, ← hn] at d5
  have d8 := at8 x.fr.box
  rw [hco] at d8
  rw [← hA] at d5 d8 k0 k1 k2 k3
  have y0 := FQ.start x ⟨p0, 2, false, true⟩
  rw [hs1] at y0
  dsimp only at y0
  obtain ⟨w10, hw10⟩ : ∃ w10, w10 = w1.alloc (.cells #[.int .u64 p0, .int .i64 2, .bool false, .bool true] 58) := ⟨_, rfl⟩
  rw [← hw10] at y0
  have y1 := y0.page 3 (.bool false) ⟨p0, 2, false, false⟩ rfl
  have y2 := y1.cell 17 (.int .u64 (up s.ct.cl)) (setc s (cClr s)) rfl rfl rfl rfl
  obtain ⟨w11, hw11⟩ : ∃ w11, w11 = (w10.setCell ⟨w.heap.size + 1 + 1, 3, none⟩ (.bool false)).setCell ⟨w.heap.size, 17, none⟩ (.int .u64 (up s.ct.cl)) := ⟨_, rfl⟩
  rw [← hw11] at y2
  obtain ⟨e0, e1, e2, e3⟩ := y0.b.at
  dsimp only at e0 e1 e2 e3
  have ffp : w10.frozen? ⟨w.heap.size + 1 + 1, 3, none⟩ = false := by have hb := y0.b; unfold PB at hb; simp [World.frozen?, hb]
  have dd := at17 y0.f.fr.box
  have ff := y0.f.fr.box.free 17
  have hup := wrap_up s.ct.cl
  have g8 : w11.cell? ⟨w.heap.size, 8, none⟩ = some (.int .i64 (i : Int)) := by have h8 := at8 y2.f.fr.box; rw [show (setc s (cClr s)).co = (i : Int) from hco] at h8; exact h8
  have HA := Lib.hid hA
  have HS := Lib.hid hs1
  have HW := Lib.hid (And.intro hw10 hw11)
  have HY := Lib.hid y2
  have HH := Lib.hid (And.intro hi (And.intro hl (And.intro hw hco)))
  have HPI := Lib.hid (show s.pg[i]? = some ⟨p0, 2, false, true⟩ from by rw [List.getElem?_eq_getElem hi, hpi])
  have HN := Lib.hid hn
  clear x hw1 hA hs1 ha hcells y0 y1 y2 hw10 hw11 hn hr hpi hi hl hw hco
  show Calls Try.prog 90 #[sV s r] w fun e w' => SPost w r (mkT s ⟨p0, 2, false, true⟩) e w'
  go_enter Try.func90, Try.ntmps90
  go_wp2_with (first | fail | (rw [HA.out, ← HS.out]; refine st59n rfl (.tmp 3) (.tmp 9) rfl p0 2 false true rfl rfl _ rfl ?_; rw [HS.out, ← HW.out.1]) | (rw [← HW.out.2]; refine ld31 rfl (.tmp 1) rfl _ rfl _ HY.out.f.fr.box ?_))
  refine (leave_at (setc s (cClr s)) r i HH.out.1 (by have h8 := HH.out.2.1; show s.pg.length ≤ 1000; omega) HH.out.2.2.1.hc HH.out.2.2.1.ht w11 HY.out.f.fr.rows).mono ?_
  rintro e w12 ⟨r1, rfl, hr1, hf1, hb1⟩
  have y20 := HY.out.keep hb1
  have y21 := y20.all hr1 (HY.out.f.fr.told hr1 hf1) (HY.out.new hf1)
  obtain ⟨w13, hw13⟩ : ∃ w13, w13 = w12.setRow w.heap.size (sA (leave (setc s (cClr s)) i) r1) := ⟨_, rfl⟩
  rw [← hw13] at y21
  have HBX := Lib.hid y20.f.fr.box
  have HW13 := Lib.hid hw13
  obtain ⟨j0, j1, j2, j3⟩ := y21.b.at
  dsimp only at j0 j1 j2 j3
  have y22 := y21.page 2 (.bool true) ⟨p0, 2, true, false⟩ rfl
  have ffq : w13.frozen? ⟨w.heap.size + 1 + 1, 2, none⟩ = false := by have hb := y21.b; unfold PB at hb; simp [World.frozen?, hb]
  obtain ⟨w14, hw14⟩ : ∃ w14, w14 = w13.setCell ⟨w.heap.size + 1 + 1, 2, none⟩ (.bool true) := ⟨_, rfl⟩
  rw [← hw14] at y22
  obtain ⟨l0, l1, l2, l3⟩ := y22.b.at
  dsimp only at l0 l1 l2 l3
  have HW14 := Lib.hid hw14
  have H14 := Lib.hid y22
  have hle : Hid ((leave (setc s (cClr s)) i).pg.length ≤ 1000) := Lib.hid (by show (s.pg.eraseIdx i).length ≤ 1000; have := List.length_eraseIdx_le s.pg i; have := HH.out.2.1; omega)
  clear hr1 hf1 hb1 HY y20 y21 hw13 y22 hw14 e0 e1 e2 e3 k0 k1 k2 k3 d5 d8 ffp dd ff hup HW HA g8
  go_wp2_with (first | fail | (refine st31 rfl (.tmp 1) (.tmp 20) rfl _ _ _ rfl rfl _ HBX.out ?_; rw [← HW13.out]) | (rw [← HW14.out]; refine ld31 rfl (.tmp 1) rfl _ rfl _ H14.out.f.fr.box ?_))
  refine (head_at (leave (setc s (cClr s)) i) r1 ⟨p0, 2, true, false⟩ hle.out w14 H14.out.f.fr.rows).mono ?_
  rintro e w15 ⟨r2, rfl, hr2, hf2, hb2⟩
  have H15 := Lib.hid (And.intro (H14.out.f.keep hb2) (And.intro hr2 (H14.out.f.fr.told hr2 hf2)))
  have hcl : Hid (mkT s ⟨p0, 2, false, true⟩ = head (leave (setc s (cClr s)) i) ⟨p0, 2, true, false⟩) := Lib.hid (by unfold mkT; rw [HH.out.2.2.2, Int.toNat_natCast])
  clear hr2 hf2 hb2 H14 l0 l1 l2 l3 j0 j1 j2 j3
  go_wp2_with (first | fail | refine st31 rfl (.tmp 2) (.tmp 27) rfl _ _ _ rfl rfl _ H15.out.1.res ?_)
  refine bodyPost_ret (results_s rfl _ _ _ _ rfl (H15.out.1.res.rowSet (sA_len _ _))) rfl ?_
  rw [hcl.out]
  exact H15.out.1.ret H15.out.2.1 H15.out.2.2 rfl
set_option maxHeartbeats 2000000 in
set_option maxRecDepth 100000 in
theorem markedR_at (s : St) (r : R3) (i : Nat) (p0 : Int) (hw : Ww s) (hl : s.pg.length ≤ 999) (hco : s.co = (i : Int)) (hi : i < s.pg.length) (hpi : s.pg[i] = ⟨p0, 2, true, true⟩) (w : World) (hr : SR w s r) : Calls Try.prog 90 #[sV s r] w (SPost w r (cool (mkR s ⟨p0, 2, true, true⟩))) := by
  have x := F2.start hr
  obtain ⟨w1, hw1⟩ : ∃ w1, w1 = (w.alloc (.cells (sA s r) 31)).alloc (.cells (sA S0 R0) 31) := ⟨_, rfl⟩
  rw [← hw1] at x
  have hA : ((w.alloc (.cells (sA s r) 31)).alloc (.cells #[.int .i64 0, .int .i64 0, .int .i64 0, .int .i64 0, .int .i64 0, .slice none 0 0, .slice none 0 0, .slice none 0 0, .int .i64 0, .int .i64 0, .int .u64 0, .int .u64 0, .int .u64 0, .int .u64 0, .int .u64 0, .int .u64 0, .int .u64 0, .int .u64 0, .int .u64 0, .int .u64 0] 31)) = w1 := hw1.symm
  have hs1 : w1.heap.size = w.heap.size + 1 + 1 := by rw [hw1]; simp
  obtain ⟨b, off, ha, hcells⟩ := x.fr.rows.pg.row.at hi
  obtain ⟨k0, k1, k2, k3⟩ := hcells i hi
  rw [hpi] at k0 k1 k2 k3
  dsimp only at k0 k1 k2 k3
  obtain ⟨n, hn⟩ : ∃ n, n = s.pg.length := ⟨_, rfl⟩
  have hin : i < n := by rw [hn]; exact hi
  have hnl : n ≤ 999 := by rw [hn]; exact hl
  have z0 : (0 : Int) ≤ (i : Int) := by omega
  have z1 : (i : Int) < (n : Int) := by omega
  have d5 := at5 x.fr.box
  rw [ha, ← hn] at d5
  have d8 := at8 x.fr.box
  rw [hco] at d8
  rw [← hA] at d5 d8 k0 k1 k2 k3
  have y0 := FQ.start x ⟨p0, 2, true, true⟩
  rw [hs1] at y0
  dsimp only at y0
  obtain ⟨w10, hw10⟩ : ∃ w10, w10 = w1.alloc (.cells #[.int .u64 p0, .int .i64 2, .bool true, .bool true] 58) := ⟨_, rfl⟩
  rw [← hw10] at y0
  have y1 := y0.page 3 (.bool false) ⟨p0, 2, true, false⟩ rfl
  have y2 := y1.cell 17 (.int .u64 (up s.ct.cl)) (setc s (cClr s)) rfl rfl rfl rfl
  obtain ⟨w11, hw11⟩ : ∃ w11, w11 = (w10.setCell ⟨w.heap.size + 1 + 1, 3, none⟩ (.bool false)).setCell ⟨w.heap.size, 17, none⟩ (.int .u64 (up s.ct.cl)) := ⟨_, rfl⟩
  rw [← hw11] at y2
  obtain ⟨e0, e1, e2, e3⟩ := y0.b.at
  dsimp only at e0 e1 e2 e3
  have ffp : w10.frozen? ⟨w.heap.size + 1 + 1, 3, none⟩ = false := by have hb := y0.b; unfold PB at hb; simp [World.frozen?, hb]
  have dd := at17 y0.f.fr.box
  have ff := y0.f.fr.box.free 17
  have hup := wrap_up s.ct.cl
  have g8 : w11.cell? ⟨w.heap.size, 8, none⟩ = some (.int .i64 (i : Int)) := by have h8 := at8 y2.f.fr.box; rw [show (setc s (cClr s)).co = (i : Int) from hco] at h8; exact h8
  have HA := Lib.hid hA
  have HS := Lib.hid hs1
  have HW := Lib.hid (And.intro hw10 hw11)
  have HY := Lib.hid y2
  have HH := Lib.hid (And.intro hi (And.intro hl (And.intro hw hco)))
  have HPI := Lib.hid (show s.pg[i]? = some ⟨p0, 2, true, true⟩ from by rw [List.getElem?_eq_getElem hi, hpi])
  have HN := Lib.hid hn
  clear x hw1 hA hs1 ha hcells y0 y1 y2 hw10 hw11 hn hr hpi hi hl hw hco
  show Calls Try.prog 90 #[sV s r] w fun e w' => SPost w r (cool (mkR s ⟨p0, 2, true, true⟩)) e w'
  go_enter Try.func90, Try.ntmps90
  go_wp2_with (first | fail | (rw [HA.out, ← HS.out]; refine st59n rfl (.tmp 3) (.tmp 9) rfl p0 2 true true rfl rfl _ rfl ?_; rw [HS.out, ← HW.out.1]) | (rw [← HW.out.2]; refine ld31 rfl (.tmp 1) rfl _ rfl _ HY.out.f.fr.box ?_))
  refine (leave_at (setc s (cClr s)) r i HH.out.1 (by have h8 := HH.out.2.1; show s.pg.length ≤ 1000; omega) HH.out.2.2.1.hc HH.out.2.2.1.ht w11 HY.out.f.fr.rows).mono ?_
  rintro e w12 ⟨r1, rfl, hr1, hf1, hb1⟩
  have y20 := HY.out.keep hb1
  have y21 := y20.all hr1 (HY.out.f.fr.told hr1 hf1) (HY.out.new hf1)
  obtain ⟨w13, hw13⟩ : ∃ w13, w13 = w12.setRow w.heap.size (sA (leave (setc s (cClr s)) i) r1) := ⟨_, rfl⟩
  rw [← hw13] at y21
  have HBX := Lib.hid y20.f.fr.box
  have HW13 := Lib.hid hw13
  obtain ⟨j0, j1, j2, j3⟩ := y21.b.at
  dsimp only at j0 j1 j2 j3
  have y22 := (y21.page 2 (.bool false) ⟨p0, 2, false, false⟩ rfl).page 1 (.int .i64 1) ⟨p0, 1, false, false⟩ rfl
  have y23 := y22.cell 12 (.int .u64 (up s.ct.ra)) (leave (setc s (cClRa s)) i) rfl rfl rfl rfl
  have ffq : w13.frozen? ⟨w.heap.size + 1 + 1, 2, none⟩ = false := by have hb := y21.b; unfold PB at hb; simp [World.frozen?, hb]
  have ffr : w13.frozen? ⟨w.heap.size + 1 + 1, 1, none⟩ = false := by have hb := y21.b; unfold PB at hb; simp [World.frozen?, hb]
  have f12 := y21.f.fr.box.free 12
  have d12 : w13.cell? ⟨w.heap.size, 12, none⟩ = some (.int .u64 s.ct.ra) := (by have h := at12 y21.f.fr.box; exact h)
  have hur := wrap_up s.ct.ra
  obtain ⟨w14, hw14⟩ : ∃ w14, w14 = ((w13.setCell ⟨w.heap.size + 1 + 1, 2, none⟩ (.bool false)).setCell ⟨w.heap.size + 1 + 1, 1, none⟩ (.int .i64 1)).setCell ⟨w.heap.size, 12, none⟩ (.int .u64 (up s.ct.ra)) := ⟨_, rfl⟩
  rw [← hw14] at y23
  have HW14 := Lib.hid hw14
  have H14 := Lib.hid y23
  have hww : Ww (leave (setc s (cClRa s)) i) := (HH.out.2.2.1.setc (cClRa s)).leave HH.out.1
  have hle : (leave (setc s (cClRa s)) i).pg.length + 1 ≤ 1000 := by show (s.pg.eraseIdx i).length + 1 ≤ 1000; rw [List.length_eraseIdx_of_lt HH.out.1]; have := HH.out.2.1; have := HH.out.1; omega
  have hcm : mkR s ⟨p0, 2, true, true⟩ = head (rises (leave (setc s (cClRa s)) i)) ⟨p0, 1, false, false⟩ := by unfold mkR; rw [HH.out.2.2.2, Int.toNat_natCast]
  have hww2 : Ww (mkR s ⟨p0, 2, true, true⟩) := mkR_ww HH.out.2.2.1 (by rw [HH.out.2.2.2, Int.toNat_natCast]; exact HPI.out)
  have hle2 : (mkR s ⟨p0, 2, true, true⟩).pg.length ≤ 1000 := by rw [hcm]; show ((rises (leave (setc s (cClRa s)) i)).pg ++ [_]).length ≤ 1000; rw [rises_pg, List.length_append]; exact hle
  rw [hcm] at hww2 hle2
  have HQ := Lib.hid (And.intro hww (And.intro hle (And.intro hww2 (And.intro hle2 hcm))))
  have cR : ∀ V r1, SR V (leave (setc s (cClRa s)) i) r1 → Calls Try.prog 71 #[sV (leave (setc s (cClRa s)) i) r1] V (SPost V r1 (rises (leave (setc s (cClRa s)) i))) := fun V r1 h => rises_at _ r1 (by have := HH.out.2.2.1.ck.2.1.2; show s.cf.c ≤ 1000; omega) hww.tg V h
  have cH : ∀ V r1, SR V (rises (leave (setc s (cClRa s)) i)) r1 → Calls Try.prog 74 #[sV (rises (leave (setc s (cClRa s)) i)) r1, .agg #[.int .u64 p0, .int .i64 1, .bool false, .bool false]] V (SPost V r1 (head (rises (leave (setc s (cClRa s)) i)) ⟨p0, 1, false, false⟩)) := fun V r1 h => head_at _ r1 ⟨p0, 1, false, false⟩ (by rw [rises_pg]; omega) V h
  have cC : ∀ V r1, SR V (head (rises (leave (setc s (cClRa s)) i)) ⟨p0, 1, false, false⟩) r1 → Calls Try.prog 70 #[sV (head (rises (leave (setc s (cClRa s)) i)) ⟨p0, 1, false, false⟩) r1] V (SPost V r1 (cool (head (rises (leave (setc s (cClRa s)) i)) ⟨p0, 1, false, false⟩))) := fun V r1 h => cool_at _ r1 hww2 hle2 V h
  obtain ⟨A, hAA⟩ : ∃ A, A = leave (setc s (cClRa s)) i := ⟨_, rfl⟩
  obtain ⟨B, hBB⟩ : ∃ B, B = rises A := ⟨_, rfl⟩
  obtain ⟨C, hCC⟩ : ∃ C, C = head B ⟨p0, 1, false, false⟩ := ⟨_, rfl⟩
  obtain ⟨D, hDD⟩ : ∃ D, D = cool C := ⟨_, rfl⟩
  rw [← hAA] at H14 cR cH cC
  rw [← hBB] at cR cH cC
  rw [← hCC] at cH cC
  rw [← hDD] at cC
  have hT : Hid (cool (mkR s ⟨p0, 2, true, true⟩) = D) := Lib.hid (by rw [hcm, hDD, hCC, hBB, hAA])
  have HR := Lib.hid cR
  have HHd := Lib.hid cH
  have HCo := Lib.hid cC
  clear hr1 hf1 hb1 HY y20 y21 hw13 y22 y23 hw14 e0 e1 e2 e3 k0 k1 k2 k3 d5 d8 ffp dd ff hup HW HA g8 hww hle hcm hww2 hle2 cR cH cC hAA hBB hCC hDD
  go_wp2_with (first | fail | (refine st31 rfl (.tmp 1) (.tmp 20) rfl _ _ _ rfl rfl _ HBX.out ?_; rw [← HW13.out]))
  rw [← HW14.out]
  clear j0 j1 j2 j3 ffq ffr d12 f12 hur HBX HW13
  refine wp_region_held_drew (S := fun V => Box V w.heap.size (sA A r1) ∧ PB V (w.heap.size + 1 + 1) ⟨p0, 1, false, false⟩) (by kernel_rfl) ⟨(H14.out.keep (below_drew (Below.refl _ _) 1)).f.fr.box, (H14.out.keep (below_drew (Below.refl _ _) 1)).b⟩ (fun hHeld => ?_)
  have hB0 : Below w14.heap.size w14 w14.drew := below_drew (Below.refl _ _) 1
  generalize w14.drew = wd at hB0 hHeld ⊢
  refine wpAnyH_take (i := 0) (v := ?tval1) rfl (by kernel_rfl) (by kernel_rfl) (by kernel_rfl) (fun _ _ _ h => h) (Or.inl ⟨by rfl, ?teq1⟩) (by assumption) ?trest1
  case teq1 => (intro w0 q; refine exec31 (.tmp 1) ?_ ?_ q.1 <;> rfl)
  try simp only [put_laws]
  refine wpAnyH_take (i := 2) (v := ?tval2) rfl (by kernel_rfl) (by kernel_rfl) (by kernel_rfl) (fun _ _ _ h => h) (Or.inl ⟨by rfl, ?teq2⟩) (by assumption) ?trest2
  case teq2 => (intro w0 q; obtain ⟨q0, q1, q2, q3⟩ := q.2.at; dsimp only at q0 q1 q2 q3; go_simp; with_reducible rfl)
  try simp only [put_laws]
  refine wpAnyH_ready (rs := [1]) (by kernel_rfl) (by simp) ?_
  refine AllReadyH.cons rfl (fun K hK => ?_) AllReadyH.nil
  go_simp
  refine (HR.out wd r1 (H14.out.keep hB0).f.fr.rows).mono ?_
  rintro e wg ⟨r2, rfl, hr2, hf2, hb2⟩
  have hb2 : Below (World.heap wd).size wd wg := hb2
  have hf2 : Frm (World.heap wd).size r1 r2 := hf2
  go_wp2_with fail
  have hB1 : Below w14.heap.size w14 wg := hB0.trans (hb2.mono hB0.size)
  refine hK.out _ _ ⟨(H14.out.keep hB1).f.fr.box, (H14.out.keep hB1).b⟩ (fun hHeld => ?_)
  clear hK K
  try simp only [put_laws]
  refine wpAnyH_ready (rs := [3]) (by kernel_rfl) (by simp) ?_
  refine AllReadyH.cons rfl (fun K hK => ?_) AllReadyH.nil
  go_simp
  refine (HHd.out wg r2 hr2).mono ?_
  rintro e wh ⟨r3, rfl, hr3, hf3, hb3⟩
  have hb3 : Below (World.heap wg).size wg wh := hb3
  have hf3 : Frm (World.heap wg).size r2 r3 := hf3
  go_wp2_with fail
  have hB2 : Below w14.heap.size w14 wh := hB1.trans (hb3.mono hB1.size)
  refine hK.out _ _ ⟨(H14.out.keep hB2).f.fr.box, (H14.out.keep hB2).b⟩ (fun hHeld => ?_)
  clear hK K
  try simp only [put_laws]
  refine wpAnyH_ready (rs := [4]) (by kernel_rfl) (by simp) ?_
  refine AllReadyH.cons rfl (fun K hK => ?_) AllReadyH.nil
  go_simp
  refine (HCo.out wh r3 hr3).mono ?_
  rintro e wi ⟨r4, rfl, hr4, hf4, hb4⟩
  have hb4 : Below (World.heap wh).size wh wi := hb4
  have hf4 : Frm (World.heap wh).size r3 r4 := hf4
  go_wp2_with fail
  have hB3 : Below w14.heap.size w14 wi := hB2.trans (hb4.mono hB2.size)
  refine hK.out _ _ ⟨(H14.out.keep hB3).f.fr.box, (H14.out.keep hB3).b⟩ (fun hHeld => ?_)
  clear hK K
  try simp only [put_laws]
  refine wpAnyH_ready (rs := [5]) (by kernel_rfl) (by simp) ?_
  refine AllReadyH.cons rfl (fun K hK => ?_) AllReadyH.nil
  have H19 := Lib.hid (And.intro (H14.out.f.keep hB3) (And.intro hr4 (((H14.out.f.fr.frm.trans (hf2.weak hB0.size) H14.out.f.fr.hi).trans hf3 (Nat.le_trans H14.out.f.fr.hi hB1.size)).trans hf4 (Nat.le_trans H14.out.f.fr.hi hB2.size))))
  refine step31 rfl (.tmp 2) (.tmp 40) rfl _ D r4 rfl rfl _ H19.out.1.res ?_
  refine hK.out _ _ ⟨(H14.out.keep hB3).f.fr.box.other (by omega) _, (H14.out.keep hB3).b.other (by omega) _⟩ (fun hHeld => ?_)
  clear hK K
  try simp only [put_laws]
  refine wpAnyH_done (by kernel_rfl) ?_ _
  go_wp2_with fail
  refine bodyPost_ret (results_s rfl _ _ _ _ rfl (H19.out.1.res.rowSet (sA_len _ _))) rfl ?_
  rw [hT.out]
  exact H19.out.1.ret H19.out.2.1 H19.out.2.2 rfl
end Go.Proofs.Ytejcahkkpednfaa
