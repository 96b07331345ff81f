/-
  What the program tells: Kept, New, and Admit where nothing is admitted.
  What the program tells: Admit.
-/
import Derived.Test.YtejcahkkpednfaaG25
namespace Go.Proofs.Ytejcahkkpednfaa
open Go.RowKit
open Go.Proofs.StackM (Pg Cf Ct St up many fnd fnd_at fnd_no)
open Go.Proofs.WheelM
set_option linter.unusedVariables false
set_option maxHeartbeats 2000000 in
set_option maxRecDepth 100000 in
theorem pkept_at (s : St) (r : R3) (k : Int) (h : Rg s) (hl : Lim s 10000) (hk : Kw s) (w : World) (hr : SR w s r) : Calls Try.prog 17 #[sV s r, .int .u64 k] w fun e w' => e = .returned (.bool (decide (KptW s k))) ∧ Below w.heap.size w w' := by
  have x := Fr.start1 hr
  obtain ⟨w1, hw1⟩ : ∃ w1, w1 = w.alloc (.cells (sA s r) 31) := ⟨_, rfl⟩
  rw [← hw1] at x
  have HW := Lib.hid hw1
  have HX := Lib.hid x
  have HL := Lib.hid (And.intro h (And.intro hl hk))
  obtain ⟨b, hb⟩ : ∃ b, b = decide (KptW s k) := ⟨_, rfl⟩
  rw [← hb]
  have HBB := Lib.hid hb
  clear hw1 x hr h hl hk hb
  go_enter Try.func17, Try.ntmps17
  go_wp2_with (first | fail | (rw [← HW.out]; refine ld31 rfl (.tmp 2) rfl _ rfl _ HX.out.box ?_))
  refine (right_yes s r HL.out.1 (HL.out.2.1.up (by omega)) HL.out.2.2 w1 HX.out.rows).mono ?_
  rintro e w2 ⟨rfl, hb2⟩
  have H2 := Lib.hid (HX.out.keep hb2)
  have d5 := at5 H2.out.box
  have C34 := kindOf_at s.pg k r.a1 s.pg.length r.c1 rfl (by have := (rg_lim HL.out.1).1; omega) w2 H2.out.rows.pg.row
  obtain ⟨z, hz⟩ : ∃ z, z = kdl s.pg k := ⟨_, rfl⟩
  rw [← hz] at C34
  have CK := Lib.hid C34
  have HZ := Lib.hid hz
  have CI := fun W => iskept_at z W
  rw [kpt_kdl HZ.out, ← HBB.out] at CI
  have CII := Lib.hid CI
  clear hb2 HX HW C34 hz CI
  go_wp2_with fail
  refine CK.out.mono ?_
  rintro e w3 ⟨rfl, hb3⟩
  have H3 := Lib.hid (H2.out.keep hb3)
  clear hb3 H2 d5 CK
  go_wp2_with fail
  refine (CII.out w3).mono ?_
  rintro e w4 ⟨rfl, hw4⟩
  subst hw4
  go_wp2_with fail
  go_ret
  exact ⟨rfl, H3.out.bel⟩
set_option maxHeartbeats 2000000 in
set_option maxRecDepth 100000 in
theorem pnew_at (c : Cf) (w : World) : Calls Try.prog 19 #[cV c] w fun e w' => (∃ r', e = .returned (.tuple #[sV (if Cl c then newW c else S0) r', .int .i64 (if Cl c then 0 else 2)]) ∧ SR w' (if Cl c then newW c else S0) r' ∧ Frm w.heap.size R0 r') ∧ Below w.heap.size w w' := by
  have hb1 := alloc_below w (.cells (cA c) 24)
  have hb2 := alloc_below (w.alloc (.cells (cA c) 24)) (.cells (sA S0 R0) 31)
  obtain ⟨w1, hw1⟩ : ∃ w1, w1 = (w.alloc (.cells (cA c) 24)).alloc (.cells (sA S0 R0) 31) := ⟨_, rfl⟩
  have hc : w1.heap[w.heap.size]? = some (.cells (cA c) 24 (0, 0)) := by
    rw [hw1, hb2.block _ (by simp)]
    exact heap_alloc_new _ _
  have hx : Box w1 (w.heap.size + 1) (sA S0 R0) := by
    have := box_alloc (w.alloc (.cells (cA c) 24)) (sA S0 R0) rfl
    rw [hw1]; simpa using this
  have hb : Below w.heap.size w w1 := by rw [hw1]; exact hb1.trans (hb2.mono hb1.size)
  have hA : (w.alloc (.cells #[.int .i64 c.p, .int .i64 c.c, .int .i64 c.q, .int .i64 c.g] 24)).alloc (.cells #[.int .i64 0, .int .i64 0, .int .i64 0, .int .i64 0, .int .i64 0, .slice none 0 0, .slice none 0 0, .slice none 0 0, .int .i64 0, .int .i64 0, .int .u64 0, .int .u64 0, .int .u64 0, .int .u64 0, .int .u64 0, .int .u64 0, .int .u64 0, .int .u64 0, .int .u64 0, .int .u64 0] 31) = w1 := hw1.symm
  have HA := Lib.hid hA
  have HC := Lib.hid hc
  have HX := Lib.hid (And.intro hx hb)
  clear hw1 hb1 hb2 hc hx hb hA
  by_cases hcl : Cl c
  · simp only [if_pos hcl]
    have HCL := Lib.hid (decide_eq_true hcl)
    clear hcl
    go_enter Try.func19, Try.ntmps19
    go_wp2_with (first | fail | (rw [HA.out]; refine wpList_load_row rfl 24 (.tmp 1) rfl w.heap.size rfl 24 (cA c) (0, 0) _ HC.out Try.underlying24 rfl info24 ?_))
    refine Calls.mono (clock_at c.p c.c c.q c.g w1) ?_
    rintro e w2 ⟨rfl, hb2⟩
    rw [show decide (Clk ⟨c.p, c.c, c.q, c.g⟩) = true from HCL.out]
    have H2 : Hid (Box w2 (w.heap.size + 1) (sA S0 R0) ∧ Below w.heap.size w w2 ∧ w2.heap[w.heap.size]? = some (.cells (cA c) 24 (0, 0))) := Lib.hid ⟨HX.out.1.kept hb2 HX.out.1.lt, HX.out.2.trans (hb2.mono HX.out.2.size), (hb2.block _ (Array.getElem?_eq_some_iff.1 HC.out).1).trans HC.out⟩
    clear hb2 HX HA HC
    have hq : w2.cell? ⟨w.heap.size, 2, none⟩ = some (.int .i64 c.q) := by rw [cell_of_head H2.out.2.2]; rfl
    go_wp2_with (first | fail | refine wpList_load_row rfl 24 (.tmp 1) rfl w.heap.size rfl 24 (cA c) (0, 0) _ H2.out.2.2 Try.underlying24 rfl info24 ?_ | refine bld31w rfl (.tmp 8) (.tmp 10) rfl c rfl rfl ?_ | refine st31 rfl (.tmp 2) (.tmp 11) rfl _ (newW c) R0 rfl rfl _ H2.out.1 ?_)
    refine bodyPost_ret (results_s2 rfl _ _ _ _ rfl (H2.out.1.rowSet (sA_len _ _))) rfl ?_
    exact ⟨⟨R0, rfl, ⟨⟨.inl ⟨rfl, rfl, rfl⟩, fun a e => (by cases e), Nat.le_refl _⟩, ⟨.inl ⟨rfl, rfl, rfl⟩, fun a e => (by cases e), Nat.le_refl _⟩, ⟨.inl ⟨rfl, rfl, rfl⟩, fun a e => (by cases e), Nat.le_refl _⟩⟩, Frm.refl _ _⟩, below_setRow H2.out.2.1 (Nat.le_succ _)⟩
  · simp only [if_neg hcl]
    have HCL := Lib.hid (decide_eq_false hcl)
    clear hcl
    go_enter Try.func19, Try.ntmps19
    go_wp2_with (first | fail | (rw [HA.out]; refine wpList_load_row rfl 24 (.tmp 1) rfl w.heap.size rfl 24 (cA c) (0, 0) _ HC.out Try.underlying24 rfl info24 ?_))
    refine Calls.mono (clock_at c.p c.c c.q c.g w1) ?_
    rintro e w2 ⟨rfl, hb2⟩
    rw [show decide (Clk ⟨c.p, c.c, c.q, c.g⟩) = false from HCL.out]
    have H2 : Hid (Box w2 (w.heap.size + 1) (sA S0 R0) ∧ Below w.heap.size w w2) := Lib.hid ⟨HX.out.1.kept hb2 HX.out.1.lt, HX.out.2.trans (hb2.mono HX.out.2.size)⟩
    clear hb2 HX HA HC
    go_wp2_with (first | fail | refine bld31zL rfl rfl ?_ | refine st31 rfl (.tmp 2) (.tmp 7) rfl _ S0 R0 rfl rfl _ H2.out.1 ?_)
    refine bodyPost_ret (results_s2 rfl _ _ _ _ rfl (H2.out.1.rowSet (sA_len _ _))) rfl ?_
    exact ⟨⟨R0, rfl, sr_zero _, Frm.refl _ _⟩, below_setRow H2.out.2 (Nat.le_succ _)⟩
set_option maxHeartbeats 2000000 in
set_option maxRecDepth 100000 in
theorem padmit_bad (s : St) (r : R3) (k : Int) (h : ¬ Rg s) (hl : Lim s 10000) (hk : Kw s) (w : World) (hr : SR w s r) : Calls Try.prog 12 #[sV s r, .int .u64 k] w (S3Post w r S0 [] false) := by
  have x := F2.start hr
  obtain ⟨w1, hw1⟩ : ∃ w1, w1 = (w.alloc (.cells (sA s r) 31)).alloc (.cells (sA S0 R0) 31) := ⟨_, rfl⟩
  rw [← hw1] at x
  have hA : (w.alloc (.cells (sA s r) 31)).alloc (.cells #[.int .i64 0, .int .i64 0, .int .i64 0, .int .i64 0, .int .i64 0, .slice none 0 0, .slice none 0 0, .slice none 0 0, .int .i64 0, .int .i64 0, .int .u64 0, .int .u64 0, .int .u64 0, .int .u64 0, .int .u64 0, .int .u64 0, .int .u64 0, .int .u64 0, .int .u64 0, .int .u64 0] 31) = w1 := hw1.symm
  have HA := Lib.hid hA
  have HX := Lib.hid x
  have HL := Lib.hid (And.intro h (And.intro hl hk))
  clear x hw1 hA hl hr h hk
  show Calls Try.prog 12 #[sV s r, .int .u64 k] w fun e w' => S3Post w r S0 [] false e w'
  go_enter Try.func12, Try.ntmps12
  go_wp2_with (first | fail | (rw [HA.out]; refine ld31 rfl (.tmp 2) rfl _ rfl _ HX.out.fr.box ?_))
  refine (right_no s r HL.out.1 (HL.out.2.1.up (by omega)) HL.out.2.2 w1 HX.out.fr.rows).mono ?_
  rintro e w2 ⟨rfl, hb2⟩
  have H2 := Lib.hid (HX.out.keep hb2)
  clear hb2 HX HA
  go_wp2_with (first | fail | refine bld31zL rfl rfl ?_ | refine st31 rfl (.tmp 4) (.tmp 12) rfl _ S0 R0 rfl rfl _ H2.out.res ?_)
  refine bodyPost_ret (results_s3 rfl _ _ _ _ rfl (H2.out.res.rowSet (sA_len _ _))) rfl ?_
  exact ⟨R0, none, 0, 0, rfl, rfl, sr_zero _, ur_nil _, fun a e => (by cases e), frm_zero _ _, below_setRow H2.out.fr.bel (Nat.le_succ _)⟩
set_option maxHeartbeats 2000000 in
set_option maxRecDepth 100000 in
theorem padmit_no (s : St) (r : R3) (k : Int) (h : Rg s) (hl : Lim s 10000) (hk : Kw s) (w : World) (hr : SR w s r) (hkp : KptW s k) : Calls Try.prog 12 #[sV s r, .int .u64 k] w (S3Post w r s [] false) := by
  have x := F2.start hr
  obtain ⟨w1, hw1⟩ : ∃ w1, w1 = (w.alloc (.cells (sA s r) 31)).alloc (.cells (sA S0 R0) 31) := ⟨_, rfl⟩
  rw [← hw1] at x
  have hA : (w.alloc (.cells (sA s r) 31)).alloc (.cells #[.int .i64 0, .int .i64 0, .int .i64 0, .int .i64 0, .int .i64 0, .slice none 0 0, .slice none 0 0, .slice none 0 0, .int .i64 0, .int .i64 0, .int .u64 0, .int .u64 0, .int .u64 0, .int .u64 0, .int .u64 0, .int .u64 0, .int .u64 0, .int .u64 0, .int .u64 0, .int .u64 0] 31) = w1 := hw1.symm
  have HA := Lib.hid hA
  have HX := Lib.hid x
  have HL := Lib.hid (And.intro h (And.intro hl (And.intro hk hkp)))
  clear hkp
  clear x hw1 hA hl hr h hk
  show Calls Try.prog 12 #[sV s r, .int .u64 k] w fun e w' => S3Post w r s [] false e w'
  go_enter Try.func12, Try.ntmps12
  go_wp2_with (first | fail | (rw [HA.out]; refine ld31 rfl (.tmp 2) rfl _ rfl _ HX.out.fr.box ?_))
  refine (right_yes s r HL.out.1 (HL.out.2.1.up (by omega)) HL.out.2.2.1 w1 HX.out.fr.rows).mono ?_
  rintro e w2 ⟨rfl, hb2⟩
  have H2 := Lib.hid (HX.out.keep hb2)
  clear hb2 HX HA
  go_wp2_with (first | fail | refine ld31 rfl (.tmp 2) rfl _ rfl _ H2.out.fr.box ?_)
  refine (begin_at s r (HL.out.2.1.up (by omega)) w2 H2.out.fr.rows).mono ?_
  rintro e w3 ⟨B, r3, A3, c3, rfl, hwk, hb3⟩
  have x3 := H2.out.keep hb3
  obtain ⟨lo, hlo⟩ : ∃ lo, lo = w2.heap.size := ⟨_, rfl⟩
  rw [← hlo] at hwk hb3
  have H3 : Hid (WK lo w3 B s r3 A3 c3 [] ∧ TF w lo w3) := Lib.hid ⟨hwk, x3.res, x3.fr.bel, by rw [hlo]; exact H2.out.fr.hi⟩
  have d5 := hwk.at5
  have C34 := kindOf_at s.pg k r3.a1 s.pg.length r3.c1 rfl (by have := (rg_lim HL.out.1).1; omega) w3 hwk.prow
  obtain ⟨z, hz⟩ : ∃ z, z = kdl s.pg k := ⟨_, rfl⟩
  rw [← hz] at C34
  have CK := Lib.hid C34
  have HZ := Lib.hid hz
  clear hwk hb3 x3 hlo H2 C34 hz
  go_wp2_with fail
  refine CK.out.mono ?_
  rintro e w4 ⟨rfl, hb4⟩
  have H4 : Hid (WK lo w4 B s r3 A3 c3 [] ∧ TF w lo w4) := Lib.hid ⟨H3.out.1.kept hb4, H3.out.2.keep (hb4.mono H3.out.1.low)⟩
  clear hb4 H3 d5 CK
  go_wp2_with fail
  have CI := iskept_at z w4
  rw [kpt_kdl HZ.out, decide_eq_true HL.out.2.2.2] at CI
  have CII := Lib.hid CI
  clear CI
  refine CII.out.mono ?_
  rintro e w5 ⟨rfl, rfl⟩
  go_wp2_with (first | fail | refine ldK rfl (.tmp 26) rfl rfl H4.out.1 ?_ | refine st31 rfl (.tmp 4) (.tmp 27) rfl _ s r3 rfl rfl _ H4.out.2.res ?_)
  refine bodyPost_ret (results_s3 rfl _ _ _ _ rfl (H4.out.2.res.rowSet (sA_len _ _))) rfl ?_
  exact H4.out.2.ret3n H4.out.1 r false
end Go.Proofs.Ytejcahkkpednfaa
namespace Go.Proofs.Ytejcahkkpednfaa
open Go.RowKit
open Go.Proofs.StackM (Pg Cf Ct St up many fnd fnd_at fnd_no)
open Go.Proofs.WheelM
set_option linter.unusedVariables false
theorem admB_ok {s : St} (h : Wg s) {k : Int} (hk : ¬ KptW s k) : Sp (s.cf.c - 1) (admA s k) (admB s k).1 := by
  obtain ⟨a1, a2, a3, _⟩ := admA_ok h hk
  exact spill_sp a1 a2 (by rw [a3]; omega)
set_option maxHeartbeats 8000000 in
set_option maxRecDepth 100000 in
theorem padmit_yes (s : St) (r : R3) (k : Int) (h : Rg s) (hl : Lim s 10000) (hk : Kw s) (w : World) (hr : SR w s r) (hkp : ¬ KptW s k) : Calls Try.prog 12 #[sV s r, .int .u64 k] w (S3Post w r (admitW s k) (admB s k).2 true) := by
  have x := F2.start hr
  obtain ⟨w1, hw1⟩ : ∃ w1, w1 = (w.alloc (.cells (sA s r) 31)).alloc (.cells (sA S0 R0) 31) := ⟨_, rfl⟩
  rw [← hw1] at x
  have hA : (w.alloc (.cells (sA s r) 31)).alloc (.cells #[.int .i64 0, .int .i64 0, .int .i64 0, .int .i64 0, .int .i64 0, .slice none 0 0, .slice none 0 0, .slice none 0 0, .int .i64 0, .int .i64 0, .int .u64 0, .int .u64 0, .int .u64 0, .int .u64 0, .int .u64 0, .int .u64 0, .int .u64 0, .int .u64 0, .int .u64 0, .int .u64 0] 31) = w1 := hw1.symm
  have HA := Lib.hid hA
  have HX := Lib.hid x
  have HAA := Lib.hid (admA_ok h hkp)
  have HSP := Lib.hid (admB_ok h hkp)
  have HAC := Lib.hid (admC_ok h hkp)
  have HL := Lib.hid (And.intro h (And.intro hl (And.intro hk hkp)))
  clear hkp
  clear x hw1 hA hl hr h hk
  show Calls Try.prog 12 #[sV s r, .int .u64 k] w fun e w' => S3Post w r (admitW s k) (admB s k).2 true e w'
  go_enter Try.func12, Try.ntmps12
  go_wp2_with (first | fail | (rw [HA.out]; refine ld31 rfl (.tmp 2) rfl _ rfl _ HX.out.fr.box ?_))
  refine (right_yes s r HL.out.1 (HL.out.2.1.up (by omega)) HL.out.2.2.1 w1 HX.out.fr.rows).mono ?_
  rintro e w2 ⟨rfl, hb2⟩
  have H2 := Lib.hid (HX.out.keep hb2)
  clear hb2 HX HA
  go_wp2_with (first | fail | refine ld31 rfl (.tmp 2) rfl _ rfl _ H2.out.fr.box ?_)
  refine (begin_at s r (HL.out.2.1.up (by omega)) w2 H2.out.fr.rows).mono ?_
  rintro e w3 ⟨B, r3, A3, c3, rfl, hwk, hb3⟩
  have x3 := H2.out.keep hb3
  obtain ⟨lo, hlo⟩ : ∃ lo, lo = w2.heap.size := ⟨_, rfl⟩
  rw [← hlo] at hwk hb3
  have H3 : Hid (WK lo w3 B s r3 A3 c3 [] ∧ TF w lo w3) := Lib.hid ⟨hwk, x3.res, x3.fr.bel, by rw [hlo]; exact H2.out.fr.hi⟩
  have d5 := hwk.at5
  have C34 := kindOf_at s.pg k r3.a1 s.pg.length r3.c1 rfl (by have := (rg_lim HL.out.1).1; omega) w3 hwk.prow
  obtain ⟨z, hz⟩ : ∃ z, z = kdl s.pg k := ⟨_, rfl⟩
  rw [← hz] at C34
  have CK := Lib.hid C34
  have HZ := Lib.hid hz
  clear hwk hb3 x3 hlo H2 C34 hz
  go_wp2_with fail
  refine CK.out.mono ?_
  rintro e w4 ⟨rfl, hb4⟩
  have H4 : Hid (WK lo w4 B s r3 A3 c3 [] ∧ TF w lo w4) := Lib.hid ⟨H3.out.1.kept hb4, H3.out.2.keep (hb4.mono H3.out.1.low)⟩
  clear hb4 H3 d5 CK
  go_wp2_with fail
  have CI := iskept_at z w4
  rw [kpt_kdl HZ.out, decide_eq_false HL.out.2.2.2] at CI
  have CII := Lib.hid CI
  clear CI
  refine CII.out.mono ?_
  rintro e w5 ⟨rfl, hw5⟩
  subst hw5
  have d11 := H4.out.1.at11
  have f11 := H4.out.1.free 11
  have hup := wrap_up s.ct.mi
  have h5 := H4.out.1.ct11 (up s.ct.mi)
  obtain ⟨w6, hw6⟩ : ∃ w6, w6 = w5.setCell ⟨B, 11, none⟩ (.int .u64 (up s.ct.mi)) := ⟨_, rfl⟩
  rw [← hw6] at h5
  have hb6 : Below lo w5 w6 := by rw [hw6]; exact H4.out.1.set1 11 _
  have H6 : Hid (WK lo w6 B (misW s) r3 A3 c3 [] ∧ TF w lo w6) := Lib.hid ⟨h5, H4.out.2.keep hb6⟩
  have HW6 := Lib.hid hw6
  clear h5 hw6 hb6 H4 CII
  cases hf : fnd s.pg k with
  | none =>
    have hz0 : z = 0 := by rw [HZ.out]; unfold kdl; rw [hf]
    have haA : admA s k = misW s := by unfold admA; rw [hf]
    have HAD : Hid (admitW s k = head (admC s k) ⟨k, 2, true, false⟩) := Lib.hid (by unfold admitW; rw [if_neg HL.out.2.2.2, hf])
    subst hz0
    have H8 : Hid (WK lo w6 B (admA s k) r3 A3 c3 [] ∧ TF w lo w6) := Lib.hid (by rw [haA]; exact H6.out)
    clear hf haA H6
    have d1q := H8.out.1.at1
    rw [HAA.out.2.2.1, HW6.out] at d1q
    have d1 := H8.out.1.at1
    rw [HAA.out.2.2.1] at d1
    obtain ⟨cc, hcc⟩ : ∃ t, t = s.cf.c := ⟨_, rfl⟩
    rw [← hcc] at d1 d1q
    have hcb : 2 ≤ cc ∧ cc ≤ 256 := by rw [hcc]; exact HL.out.1.w.ck.2.1
    obtain ⟨hcb1, hcb2⟩ := hcb
    have hwr : IntKind.i64.wrap (cc - 1) = cc - 1 := by rw [IntKind.wrap_i64]; omega
    have C39 := preclaim_at H8.out.1 (s.cf.c - 1) HAA.out.1 HAA.out.2.1 (by rw [HAA.out.2.2.1]; omega) (Nat.le_trans HAA.out.2.2.2.2.1 (by have := (rg_lim HL.out.1).1; omega)) (by decide)
    rw [← hcc] at C39
    have CR := Lib.hid C39
    have HCC := Lib.hid hcc
    clear C39 hcc
    go_wp2_with fail
    rw [← HW6.out]
    refine CR.out.mono ?_
    rintro e w9 ⟨rfl, r9, A9, c9, h9, hb9⟩
    have H9 : Hid (WK lo w9 B (admB s k).1 r9 A9 c9 (admB s k).2 ∧ TF w lo w9) := Lib.hid ⟨by have h10 := h9; rw [HCC.out, List.nil_append] at h10; exact h10, H8.out.2.keep hb9⟩
    clear h9 hb9 H8 CR d1 d1q hwr hcb1 hcb2
    have CE := Lib.hid (pexpire_at H9.out.1 HSP.out.w (Nat.le_trans HSP.out.n (Nat.le_trans HAA.out.2.2.2.2.1 (by have := (rg_lim HL.out.1).1; omega))))
    go_wp2_with fail
    refine CE.out.mono ?_
    rintro e w10 ⟨rfl, r10, A10, c10, h10, hb10⟩
    have H10 : Hid (WK lo w10 B (admC s k) r10 A10 c10 (admB s k).2 ∧ TF w lo w10) := Lib.hid ⟨h10, H9.out.2.keep hb10⟩
    clear h10 hb10 H9 CE
    have CH := Lib.hid (phead_at H10.out.1 k 2 true false (by have h1 := HAC.out.2.2.2.2.1; have := (rg_lim HL.out.1).1; omega))
    go_wp2_with fail
    refine CH.out.mono ?_
    rintro e w11 ⟨rfl, r11, A11, c11, h11, hb11⟩
    have H11 : Hid (WK lo w11 B (admitW s k) r11 A11 c11 (admB s k).2 ∧ TF w lo w11) := Lib.hid ⟨by rw [HAD.out]; exact h11, H10.out.2.keep hb11⟩
    clear h11 hb11 H10 CH
    go_wp2_with fail
    have hbd : Below w11.heap.size w11 w11.drew := below_drew (Below.refl _ _) 1
    have HD : Hid (WK lo w11.drew B (admitW s k) r11 A11 c11 (admB s k).2 ∧ TF w lo w11.drew) := Lib.hid ⟨H11.out.1.kept hbd, H11.out.2.keep (hbd.mono H11.out.1.low)⟩
    clear hbd H11
    refine wp_region_held_drew (S := fun W' => W'.heap[B]? = some (.cells (spA (admitW s k) r11 A11 (admB s k).2.length c11) 72 (0, 0))) (by kernel_rfl) HD.out.1.box (fun hHeld => ?_)
    generalize World.drew w11 = wd at hHeld HD ⊢
    refine wpAnyH_take (i := 0) (v := ?tv1) (by simp only [get_laws]; rfl) (by kernel_rfl) (by kernel_rfl) (by kernel_rfl) (by intro _ _ _ h; exact h) (Or.inl ⟨by rfl, ?te1⟩) (by assumption) ?tr1
    case te1 => (intro w0 _; go_simp; with_reducible rfl)
    try simp only [put_laws]
    refine wpAnyH_take (i := 1) (v := ?tv2) (by simp only [get_laws]; rfl) (by kernel_rfl) (by kernel_rfl) (by kernel_rfl) (by intro _ _ _ h; exact h) (Or.inl ⟨by rfl, ?te2⟩) (by assumption) ?tr2
    case te2 => (intro w0 _; go_simp; with_reducible rfl)
    try simp only [put_laws]
    refine wpAnyH_take (i := 2) (v := ?tv3) (by simp only [get_laws]; rfl) (by kernel_rfl) (by kernel_rfl) (by kernel_rfl) (by intro _ _ _ h; exact h) (Or.inl ⟨by rfl, ?te3⟩) (by assumption) ?tr3
    case te3 => (intro w0 _; go_simp; with_reducible rfl)
    try simp only [put_laws]
    refine wpAnyH_take (i := 3) (v := ?tv4) (by simp only [get_laws]; rfl) (by kernel_rfl) (by kernel_rfl) (by kernel_rfl) (by intro _ _ _ h; exact h) (Or.inl ⟨by rfl, ?te4⟩) (by assumption) ?tr4
    case te4 => (intro w0 q; refine execW (.tmp 76) ?_ ?_ q <;> rfl)
    try simp only [put_laws]
    refine wpAnyH_take (i := 4) (v := ?tv5) (by simp only [get_laws]; rfl) (by kernel_rfl) (by kernel_rfl) (by kernel_rfl) (by intro _ _ _ h; exact h) (Or.inl ⟨by rfl, ?te5⟩) (by assumption) ?tr5
    case te5 => (intro w0 _; go_simp; with_reducible rfl)
    try simp only [put_laws]
    refine wpAnyH_take (i := 5) (v := ?tv6) (by simp only [get_laws]; rfl) (by kernel_rfl) (by kernel_rfl) (by kernel_rfl) (by intro _ _ _ h; exact h) (Or.inl ⟨by rfl, ?te6⟩) (by assumption) ?tr6
    case te6 => (intro w0 _; go_simp; with_reducible rfl)
    try simp only [put_laws]
    refine wpAnyH_take (i := 6) (v := ?tv7) (by simp only [get_laws]; rfl) (by kernel_rfl) (by kernel_rfl) (by kernel_rfl) (by intro _ _ _ h; exact h) (Or.inl ⟨by rfl, ?te7⟩) (by assumption) ?tr7
    case te7 => (intro w0 _; go_simp; with_reducible rfl)
    try simp only [put_laws]
    refine wpAnyH_take (i := 7) (v := ?tv8) (by simp only [get_laws]; rfl) (by kernel_rfl) (by kernel_rfl) (by kernel_rfl) (by intro _ _ _ h; exact h) (Or.inl ⟨by rfl, ?te8⟩) (by assumption) ?tr8
    case te8 => (intro w0 q; have h0 := row68 q; go_simp; with_reducible rfl)
    try simp only [put_laws]
    refine wpAnyH_ready (rs := [8]) (by kernel_rfl) (by simp) ?_
    refine AllReadyH.cons rfl (fun K hK => ?_) AllReadyH.nil
    refine step31 rfl (.tmp 4) (.tmp 77) rfl _ (admitW s k) r11 rfl rfl _ HD.out.2.res ?_
    have hRB : w.heap.size + 1 ≠ B := by have := HD.out.1.hlo; have := HD.out.2.lo; omega
    refine hK.out _ _ (by rw [setRow_other wd _ B _ (fun e => hRB e.symm)]; exact HD.out.1.box) (fun hHeld => ?_)
    clear hK K
    try simp only [put_laws]
    refine wpAnyH_ready (rs := [9]) (by kernel_rfl) (by simp) ?_
    refine AllReadyH.cons rfl (fun K hK => ?_) AllReadyH.nil
    go_simp
    refine hK.out _ _ hHeld (fun hHeld => ?_)
    clear hK K
    try simp only [put_laws]
    refine wpAnyH_ready (rs := [10]) (by kernel_rfl) (by simp) ?_
    refine AllReadyH.cons rfl (fun K hK => ?_) AllReadyH.nil
    go_simp
    refine hK.out _ _ hHeld (fun hHeld => ?_)
    clear hK K
    try simp only [put_laws]
    clear hHeld
    refine wpAnyH_done (by kernel_rfl) ?_ _
    go_wp2_with fail
    refine bodyPost_ret (results_s3 rfl _ _ _ _ rfl (HD.out.2.res.rowSet (sA_len _ _))) rfl ?_
    show S3Post w r (admitW s k) (admB s k).2 true _ _
    exact HD.out.2.ret3 HD.out.1 r true
  | some i =>
    obtain ⟨p, hp, hpk, hpm⟩ := fnd_page hf
    have hzk : z = p.kind := by rw [HZ.out, kdl_is]; exact isW_at hf hp
    have hz3 : z = 3 := by
      have h1 := HL.out.1.w.pk p hpm
      have h2 : ¬ (isW s k = 1 ∨ isW s k = 2) := HL.out.2.2.2
      rw [← kdl_is, ← HZ.out, hzk] at h2
      rw [hzk]
      unfold Pok at h1
      omega
    have haA : admA s k = cool (rises (leave (misW s) i)) := by unfold admA; rw [hf]
    have HAD : Hid (admitW s k = cool (head (raW (admC s k)) ⟨k, 1, false, false⟩)) := Lib.hid (by unfold admitW; rw [if_neg HL.out.2.2.2, hf])
    have hlt := fnd_lt hf
    have C9 : Calls Try.prog 35 #[.slice r3.a1 s.pg.length r3.c1, .int .u64 k] w6 fun e w' => e = .returned (.int .i64 (i : Int)) ∧ Below w6.heap.size w6 w' := by
      have h9 := place_at s.pg k r3.a1 s.pg.length r3.c1 rfl (by have := (rg_lim HL.out.1).1; omega) w6 H6.out.1.prow
      unfold fi at h9
      rw [hf] at h9
      exact h9
    have C35 := Lib.hid C9
    have HI := Lib.hid (And.intro hlt haA)
    have u5 : w6.cell? ⟨B, 5, none⟩ = some (.slice r3.a1 s.pg.length r3.c1) := H6.out.1.at5
    rw [HW6.out] at u5
    subst hz3
    clear hf haA hp hpk hpm hzk C9 hlt
    go_wp2_with fail
    rw [← HW6.out]
    refine C35.out.mono ?_
    rintro e w7 ⟨rfl, hb7⟩
    have H7 : Hid (WK lo w7 B (misW s) r3 A3 c3 [] ∧ TF w lo w7) := Lib.hid ⟨H6.out.1.kept hb7, H6.out.2.keep (hb7.mono H6.out.1.low)⟩
    have CL := Lib.hid (pleave_at H7.out.1 i HI.out.1 (by have := (rg_lim HL.out.1).1; show s.pg.length ≤ 1000; omega) HL.out.1.w.hc HL.out.1.w.ht)
    clear hb7 H6 C35 u5
    go_wp2_with fail
    refine CL.out.mono ?_
    rintro e w12 ⟨rfl, r12, A12, c12, h12, hb12⟩
    have H12 : Hid (WK lo w12 B (leave (misW s) i) r12 A12 c12 [] ∧ TF w lo w12) := Lib.hid ⟨h12, H7.out.2.keep hb12⟩
    have CT := Lib.hid (raiT_at H12.out.1 HL.out.1.w.tg.1 HL.out.1.w.tg.2 (by have := HL.out.1.w.ck.2.1; show s.cf.c ≤ 1000; omega))
    clear h12 hb12 H7 CL
    go_wp2_with fail
    refine CT.out.mono ?_
    rintro e w13 ⟨rfl, r13, A13, c13, h13, hb13⟩
    have H13 : Hid (WK lo w13 B (rises (leave (misW s) i)) r13 A13 c13 [] ∧ TF w lo w13) := Lib.hid ⟨h13, H12.out.2.keep hb13⟩
    have hww : Ww (rises (leave (misW s) i)) := ((HL.out.1.w.setc (misW s).ct).leave HI.out.1).rises
    have CC := Lib.hid (pcool_at H13.out.1 hww (by rw [rises_pg]; show (s.pg.eraseIdx i).length ≤ 1000; have := (rg_lim HL.out.1).1; rw [List.length_eraseIdx_of_lt HI.out.1]; omega))
    clear h13 hb13 H12 CT hww
    go_wp2_with fail
    refine CC.out.mono ?_
    rintro e w8 ⟨rfl, r8, A8, c8, h8, hb8⟩
    have H8 : Hid (WK lo w8 B (admA s k) r8 A8 c8 [] ∧ TF w lo w8) := Lib.hid ⟨by rw [HI.out.2]; exact h8, H13.out.2.keep hb8⟩
    clear h8 hb8 H13 CC
    have d1 := H8.out.1.at1
    rw [HAA.out.2.2.1] at d1
    obtain ⟨cc, hcc⟩ : ∃ t, t = s.cf.c := ⟨_, rfl⟩
    rw [← hcc] at d1
    have hcb : 2 ≤ cc ∧ cc ≤ 256 := by rw [hcc]; exact HL.out.1.w.ck.2.1
    obtain ⟨hcb1, hcb2⟩ := hcb
    have hwr : IntKind.i64.wrap (cc - 1) = cc - 1 := by rw [IntKind.wrap_i64]; omega
    have C39 := preclaim_at H8.out.1 (s.cf.c - 1) HAA.out.1 HAA.out.2.1 (by rw [HAA.out.2.2.1]; omega) (Nat.le_trans HAA.out.2.2.2.2.1 (by have := (rg_lim HL.out.1).1; omega)) (by decide)
    rw [← hcc] at C39
    have CR := Lib.hid C39
    have HCC := Lib.hid hcc
    clear C39 hcc
    go_wp2_with fail
    refine CR.out.mono ?_
    rintro e w9 ⟨rfl, r9, A9, c9, h9, hb9⟩
    have H9 : Hid (WK lo w9 B (admB s k).1 r9 A9 c9 (admB s k).2 ∧ TF w lo w9) := Lib.hid ⟨by have h10 := h9; rw [HCC.out, List.nil_append] at h10; exact h10, H8.out.2.keep hb9⟩
    clear h9 hb9 H8 CR d1 hwr hcb1 hcb2
    have CE := Lib.hid (pexpire_at H9.out.1 HSP.out.w (Nat.le_trans HSP.out.n (Nat.le_trans HAA.out.2.2.2.2.1 (by have := (rg_lim HL.out.1).1; omega))))
    go_wp2_with fail
    refine CE.out.mono ?_
    rintro e w10 ⟨rfl, r10, A10, c10, h10, hb10⟩
    have H10 : Hid (WK lo w10 B (admC s k) r10 A10 c10 (admB s k).2 ∧ TF w lo w10) := Lib.hid ⟨h10, H9.out.2.keep hb10⟩
    clear h10 hb10 H9 CE
    have hwh : Ww (head (admC s k) ⟨k, 1, false, false⟩) := HAC.out.1.head (head_nd HAC.out.1 HAC.out.2.2.2.1) (.inl ⟨rfl, rfl⟩)
    have CH := Lib.hid (praise_at H10.out.1 k hwh (by have h1 := HAC.out.2.2.2.2.1; have := (rg_lim HL.out.1).1; omega))
    clear hwh
    go_wp2_with fail
    refine CH.out.mono ?_
    rintro e w11 ⟨rfl, r11, A11, c11, h11, hb11⟩
    have H11 : Hid (WK lo w11 B (admitW s k) r11 A11 c11 (admB s k).2 ∧ TF w lo w11) := Lib.hid ⟨by rw [HAD.out]; exact h11, H10.out.2.keep hb11⟩
    clear h11 hb11 H10 CH
    go_wp2_with fail
    have hbd : Below w11.heap.size w11 w11.drew := below_drew (Below.refl _ _) 1
    have HD : Hid (WK lo w11.drew B (admitW s k) r11 A11 c11 (admB s k).2 ∧ TF w lo w11.drew) := Lib.hid ⟨H11.out.1.kept hbd, H11.out.2.keep (hbd.mono H11.out.1.low)⟩
    clear hbd H11
    refine wp_region_held_drew (S := fun W' => W'.heap[B]? = some (.cells (spA (admitW s k) r11 A11 (admB s k).2.length c11) 72 (0, 0))) (by kernel_rfl) HD.out.1.box (fun hHeld => ?_)
    generalize World.drew w11 = wd at hHeld HD ⊢
    refine wpAnyH_take (i := 0) (v := ?tv9) (by simp only [get_laws]; rfl) (by kernel_rfl) (by kernel_rfl) (by kernel_rfl) (by intro _ _ _ h; exact h) (Or.inl ⟨by rfl, ?te9⟩) (by assumption) ?tr9
    case te9 => (intro w0 _; go_simp; with_reducible rfl)
    try simp only [put_laws]
    refine wpAnyH_take (i := 1) (v := ?tv10) (by simp only [get_laws]; rfl) (by kernel_rfl) (by kernel_rfl) (by kernel_rfl) (by intro _ _ _ h; exact h) (Or.inl ⟨by rfl, ?te10⟩) (by assumption) ?tr10
    case te10 => (intro w0 _; go_simp; with_reducible rfl)
    try simp only [put_laws]
    refine wpAnyH_take (i := 2) (v := ?tv11) (by simp only [get_laws]; rfl) (by kernel_rfl) (by kernel_rfl) (by kernel_rfl) (by intro _ _ _ h; exact h) (Or.inl ⟨by rfl, ?te11⟩) (by assumption) ?tr11
    case te11 => (intro w0 _; go_simp; with_reducible rfl)
    try simp only [put_laws]
    refine wpAnyH_take (i := 3) (v := ?tv12) (by simp only [get_laws]; rfl) (by kernel_rfl) (by kernel_rfl) (by kernel_rfl) (by intro _ _ _ h; exact h) (Or.inl ⟨by rfl, ?te12⟩) (by assumption) ?tr12
    case te12 => (intro w0 q; refine execW (.tmp 76) ?_ ?_ q <;> rfl)
    try simp only [put_laws]
    refine wpAnyH_take (i := 4) (v := ?tv13) (by simp only [get_laws]; rfl) (by kernel_rfl) (by kernel_rfl) (by kernel_rfl) (by intro _ _ _ h; exact h) (Or.inl ⟨by rfl, ?te13⟩) (by assumption) ?tr13
    case te13 => (intro w0 _; go_simp; with_reducible rfl)
    try simp only [put_laws]
    refine wpAnyH_take (i := 5) (v := ?tv14) (by simp only [get_laws]; rfl) (by kernel_rfl) (by kernel_rfl) (by kernel_rfl) (by intro _ _ _ h; exact h) (Or.inl ⟨by rfl, ?te14⟩) (by assumption) ?tr14
    case te14 => (intro w0 _; go_simp; with_reducible rfl)
    try simp only [put_laws]
    refine wpAnyH_take (i := 6) (v := ?tv15) (by simp only [get_laws]; rfl) (by kernel_rfl) (by kernel_rfl) (by kernel_rfl) (by intro _ _ _ h; exact h) (Or.inl ⟨by rfl, ?te15⟩) (by assumption) ?tr15
    case te15 => (intro w0 _; go_simp; with_reducible rfl)
    try simp only [put_laws]
    refine wpAnyH_take (i := 7) (v := ?tv16) (by simp only [get_laws]; rfl) (by kernel_rfl) (by kernel_rfl) (by kernel_rfl) (by intro _ _ _ h; exact h) (Or.inl ⟨by rfl, ?te16⟩) (by assumption) ?tr16
    case te16 => (intro w0 q; have h0 := row68 q; go_simp; with_reducible rfl)
    try simp only [put_laws]
    refine wpAnyH_ready (rs := [8]) (by kernel_rfl) (by simp) ?_
    refine AllReadyH.cons rfl (fun K hK => ?_) AllReadyH.nil
    refine step31 rfl (.tmp 4) (.tmp 77) rfl _ (admitW s k) r11 rfl rfl _ HD.out.2.res ?_
    have hRB : w.heap.size + 1 ≠ B := by have := HD.out.1.hlo; have := HD.out.2.lo; omega
    refine hK.out _ _ (by rw [setRow_other wd _ B _ (fun e => hRB e.symm)]; exact HD.out.1.box) (fun hHeld => ?_)
    clear hK K
    try simp only [put_laws]
    refine wpAnyH_ready (rs := [9]) (by kernel_rfl) (by simp) ?_
    refine AllReadyH.cons rfl (fun K hK => ?_) AllReadyH.nil
    go_simp
    refine hK.out _ _ hHeld (fun hHeld => ?_)
    clear hK K
    try simp only [put_laws]
    refine wpAnyH_ready (rs := [10]) (by kernel_rfl) (by simp) ?_
    refine AllReadyH.cons rfl (fun K hK => ?_) AllReadyH.nil
    go_simp
    refine hK.out _ _ hHeld (fun hHeld => ?_)
    clear hK K
    try simp only [put_laws]
    clear hHeld
    refine wpAnyH_done (by kernel_rfl) ?_ _
    go_wp2_with fail
    refine bodyPost_ret (results_s3 rfl _ _ _ _ rfl (HD.out.2.res.rowSet (sA_len _ _))) rfl ?_
    show S3Post w r (admitW s k) (admB s k).2 true _ _
    exact HD.out.2.ret3 HD.out.1 r true
theorem padmit_at (s : St) (r : R3) (k : Int) (h : Rg s) (hl : Lim s 10000) (hk : Kw s) (w : World) (hr : SR w s r) : Calls Try.prog 12 #[sV s r, .int .u64 k] w (S3Post w r (admitW s k) (admOutW s k) (!decide (KptW s k))) := by
  by_cases hkp : KptW s k
  · rw [decide_eq_true hkp, show admitW s k = s by unfold admitW; rw [if_pos hkp], show admOutW s k = [] by unfold admOutW; rw [if_pos hkp]]; exact padmit_no s r k h hl hk w hr hkp
  · rw [decide_eq_false hkp, show admOutW s k = (admB s k).2 by unfold admOutW; rw [if_neg hkp]]; exact padmit_yes s r k h hl hk w hr hkp
end Go.Proofs.Ytejcahkkpednfaa
