/-
  What the program tells: Resize.
  The document's example is run.
  A state that is handed in, a config, a row of acts.
-/
import Derived.Test.YtejcahkkpednfaaG26
import Derived.Test.YtejcahkkpednfaaG06
import Derived.WalkKit
import Derived.ProofKit
import Derived.OpenShut
import Derived.ChangeOld
import Derived.Below
import Derived.ChangeSame
import Derived.Deep.Slices
import Derived.Lib.SmallJoins
namespace Go.Proofs.Ytejcahkkpednfaa
open Go.RowKit
open Go.Proofs.StackM (Pg Cf Ct St up many fnd fnd_at fnd_no)
open Go.Proofs.WheelM
set_option linter.unusedVariables false
/-- the frame of Resize -/
structure T4 (c : Cf) (w : World) (s : St) (r : R3) (lo : Nat) (w1 : World) : Prop where
  res : Box w1 (w.heap.size + 2) (sA S0 R0)
  cfg : w1.heap[w.heap.size + 1]? = some (.cells (cA c) 24 (0, 0))
  st : Box w1 w.heap.size (sA s r)
  rows : SR w s r
  bel : Below w.heap.size w w1
  lo : w.heap.size + 3 ≤ lo
section
variable {lo B cc : Nat} {w w1 w2 : World} {s s1 : St} {r r1 : R3} {A : Option Addr} {ev : List Int} {c : Cf}
theorem T4.keep (x : T4 c w s r lo w1) (hb : Below lo w1 w2) : T4 c w s r lo w2 :=
  ⟨x.res.kept hb (by have := x.lo; omega), by rw [hb.block _ (by have := x.lo; omega)]; exact x.cfg, x.st.kept hb (by have := x.lo; omega), x.rows, x.bel.trans (hb.mono (by have := x.lo; omega)), x.lo⟩
theorem T4.ret (x : T4 c w s r lo w1) (h : WK lo w1 B s1 r1 A cc ev) (r0 : R3) (n : Int) : Ss3Post w r0 s1 ev n (.returned (.tuple #[sV s1 r1, .slice A ev.length cc, .int .i64 n])) (w1.setRow (w.heap.size + 2) (sA s1 r1)) :=
  ⟨r1, A, _, cc, rfl, rfl, sr_row3 h.sr h.up (by have := x.lo; omega) _, ⟨vrow_row h.erow (fun a e => by have := (h.rows.ev.lt a.block (by rw [e]; rfl)).1; have := x.lo; omega), fun a e => by rw [size_setRow]; exact (h.rows.ev.lt a.block (by rw [e]; rfl)).2, owns_cap h.rows.ev⟩, fun a e => by have := (h.rows.ev.lt a.block (by rw [e]; rfl)).1; have := x.lo; omega, h.frm _ (by have := x.lo; omega) r0, below_setRow x.bel (by omega)⟩
theorem T4.retn (x : T4 c w s r lo w1) (h : WK lo w1 B s1 r1 A cc ev) (r0 : R3) (n : Int) : Ss3Post w r0 s1 [] n (.returned (.tuple #[sV s1 r1, .slice none 0 0, .int .i64 n])) (w1.setRow (w.heap.size + 2) (sA s1 r1)) :=
  ⟨r1, none, 0, 0, rfl, rfl, sr_row3 h.sr h.up (by have := x.lo; omega) _, ur_nil _, fun a e => (by cases e), h.frm _ (by have := x.lo; omega) r0, below_setRow x.bel (by omega)⟩
theorem WK.cfTo (h : WK lo w B s r A cc ev) (d : Cf) : WK lo ((((w.setCell ⟨B, 0, none⟩ (.int .i64 d.p)).setCell ⟨B, 1, none⟩ (.int .i64 d.c)).setCell ⟨B, 2, none⟩ (.int .i64 d.q)).setCell ⟨B, 3, none⟩ (.int .i64 d.g)) B { s with cf := d } r A cc ev := by
  have h0 := h.numTo 0 (.int .i64 d.p) { s with cf := { s.cf with p := d.p } } rfl rfl rfl rfl
  have h1 := h0.numTo 1 (.int .i64 d.c) { s with cf := { s.cf with p := d.p, c := d.c } } rfl rfl rfl rfl
  have h2 := h1.numTo 2 (.int .i64 d.q) { s with cf := { s.cf with p := d.p, c := d.c, q := d.q } } rfl rfl rfl rfl
  exact h2.numTo 3 (.int .i64 d.g) { s with cf := d } rfl rfl rfl rfl
end
set_option maxHeartbeats 2000000 in
set_option maxRecDepth 100000 in
theorem presize_bad (s : St) (r : R3) (c : Cf) (h : ¬ Rg s) (hl : Lim s 10000) (hk : Kw s) (w : World) (hr : SR w s r) : Calls Try.prog 14 #[sV s r, cV c] w (Ss3Post w r s [] 12) := by
  have x : F4 c w r _ s r := F4.start hr
  obtain ⟨w1, hw1⟩ : ∃ w1, w1 = ((w.alloc (.cells (sA s r) 31)).alloc (.cells (cA c) 24)).alloc (.cells (sA S0 R0) 31) := ⟨_, rfl⟩
  rw [← hw1] at x
  have hA : ((w.alloc (.cells (sA s r) 31)).alloc (.cells #[.int .i64 c.p, .int .i64 c.c, .int .i64 c.q, .int .i64 c.g] 24)).alloc (.cells #[.int .i64 0, .int .i64 0, .int .i64 0, .int .i64 0, .int .i64 0, .slice none 0 0, .slice none 0 0, .slice none 0 0, .int .i64 0, .int .i64 0, .int .u64 0, .int .u64 0, .int .u64 0, .int .u64 0, .int .u64 0, .int .u64 0, .int .u64 0, .int .u64 0, .int .u64 0, .int .u64 0] 31) = w1 := hw1.symm
  have HA := Lib.hid hA
  have HX := Lib.hid (And.intro x hr)
  have HL := Lib.hid (And.intro h (And.intro hl hk))
  clear x hw1 hA hl hr h hk
  show Calls Try.prog 14 #[sV s r, cV c] w fun e w' => Ss3Post w r s [] 12 e w'
  go_enter Try.func14, Try.ntmps14
  go_wp2_with (first | fail | (rw [HA.out]; refine ld31 rfl (.tmp 2) rfl _ rfl _ HX.out.1.fr.box ?_))
  refine (begin_at s r (HL.out.2.1.up (by omega)) w1 HX.out.1.fr.rows).mono ?_
  rintro e w2 ⟨B, r3, A3, c3, rfl, hwk, hb2⟩
  have x2 := HX.out.1.keep hb2
  obtain ⟨lo, hlo⟩ : ∃ lo, lo = w1.heap.size := ⟨_, rfl⟩
  rw [← hlo] at hwk hb2
  have H2 : Hid (WK lo w2 B s r3 A3 c3 [] ∧ T4 c w s r lo w2) := Lib.hid ⟨hwk, x2.res, x2.cfg, x2.fr.box, HX.out.2, x2.fr.bel, by rw [hlo]; exact HX.out.1.fr.hi⟩
  clear hwk hb2 x2 hlo HX HA
  go_wp2_with (first | fail | refine ld31 rfl (.tmp 2) rfl _ rfl _ H2.out.2.st ?_)
  refine (right_no s r HL.out.1 (HL.out.2.1.up (by omega)) HL.out.2.2 w2 (H2.out.2.rows.kept H2.out.2.bel)).mono ?_
  rintro e w3 ⟨rfl, hb3⟩
  have H3 : Hid (WK lo w3 B s r3 A3 c3 [] ∧ T4 c w s r lo w3) := Lib.hid ⟨H2.out.1.kept hb3, H2.out.2.keep (hb3.mono H2.out.1.low)⟩
  clear hb3 H2
  go_wp2_with (first | fail | refine ldW rfl (.tmp 15) rfl rfl H3.out.1 ?_ | refine st31 rfl (.tmp 4) (.tmp 16) rfl _ s r3 rfl rfl _ H3.out.2.res ?_)
  refine bodyPost_ret (results_s3 rfl _ _ _ _ rfl (H3.out.2.res.rowSet (sA_len _ _))) rfl ?_
  exact H3.out.2.retn H3.out.1 r 12
set_option maxHeartbeats 2000000 in
set_option maxRecDepth 100000 in
theorem presize_cfg (s : St) (r : R3) (c : Cf) (h : Rg s) (hl : Lim s 10000) (hk : Kw s) (w : World) (hr : SR w s r) (hcl : ¬ Cl c) : Calls Try.prog 14 #[sV s r, cV c] w (Ss3Post w r s [] 2) := by
  have HCL := Lib.hid (decide_eq_false hcl)
  clear hcl
  have x : F4 c w r _ s r := F4.start hr
  obtain ⟨w1, hw1⟩ : ∃ w1, w1 = ((w.alloc (.cells (sA s r) 31)).alloc (.cells (cA c) 24)).alloc (.cells (sA S0 R0) 31) := ⟨_, rfl⟩
  rw [← hw1] at x
  have hA : ((w.alloc (.cells (sA s r) 31)).alloc (.cells #[.int .i64 c.p, .int .i64 c.c, .int .i64 c.q, .int .i64 c.g] 24)).alloc (.cells #[.int .i64 0, .int .i64 0, .int .i64 0, .int .i64 0, .int .i64 0, .slice none 0 0, .slice none 0 0, .slice none 0 0, .int .i64 0, .int .i64 0, .int .u64 0, .int .u64 0, .int .u64 0, .int .u64 0, .int .u64 0, .int .u64 0, .int .u64 0, .int .u64 0, .int .u64 0, .int .u64 0] 31) = w1 := hw1.symm
  have HA := Lib.hid hA
  have HX := Lib.hid (And.intro x hr)
  have HL := Lib.hid (And.intro h (And.intro hl hk))
  clear x hw1 hA hl hr h hk
  show Calls Try.prog 14 #[sV s r, cV c] w fun e w' => Ss3Post w r s [] 2 e w'
  go_enter Try.func14, Try.ntmps14
  go_wp2_with (first | fail | (rw [HA.out]; refine ld31 rfl (.tmp 2) rfl _ rfl _ HX.out.1.fr.box ?_))
  refine (begin_at s r (HL.out.2.1.up (by omega)) w1 HX.out.1.fr.rows).mono ?_
  rintro e w2 ⟨B, r3, A3, c3, rfl, hwk, hb2⟩
  have x2 := HX.out.1.keep hb2
  obtain ⟨lo, hlo⟩ : ∃ lo, lo = w1.heap.size := ⟨_, rfl⟩
  rw [← hlo] at hwk hb2
  have H2 : Hid (WK lo w2 B s r3 A3 c3 [] ∧ T4 c w s r lo w2) := Lib.hid ⟨hwk, x2.res, x2.cfg, x2.fr.box, HX.out.2, x2.fr.bel, by rw [hlo]; exact HX.out.1.fr.hi⟩
  clear hwk hb2 x2 hlo HX HA
  go_wp2_with (first | fail | refine ld31 rfl (.tmp 2) rfl _ rfl _ H2.out.2.st ?_)
  refine (right_yes s r HL.out.1 (HL.out.2.1.up (by omega)) HL.out.2.2 w2 (H2.out.2.rows.kept H2.out.2.bel)).mono ?_
  rintro e w3 ⟨rfl, hb3⟩
  have H3 : Hid (WK lo w3 B s r3 A3 c3 [] ∧ T4 c w s r lo w3) := Lib.hid ⟨H2.out.1.kept hb3, H2.out.2.keep (hb3.mono H2.out.1.low)⟩
  clear hb3 H2
  go_wp2_with (first | fail | refine wpList_load_row rfl 24 (.tmp 3) rfl (w.heap.size + 1) rfl 24 (cA c) (0, 0) _ H3.out.2.cfg Try.underlying24 rfl info24 ?_)
  refine Calls.mono (clock_at c.p c.c c.q c.g w3) ?_
  rintro e w4 ⟨rfl, hb4⟩
  rw [show decide (Clk ⟨c.p, c.c, c.q, c.g⟩) = false from HCL.out]
  have H4 : Hid (WK lo w4 B s r3 A3 c3 [] ∧ T4 c w s r lo w4) := Lib.hid ⟨H3.out.1.kept hb4, H3.out.2.keep (hb4.mono H3.out.1.low)⟩
  clear hb4 H3
  go_wp2_with (first | fail | refine ldW rfl (.tmp 22) rfl rfl H4.out.1 ?_ | refine st31 rfl (.tmp 4) (.tmp 23) rfl _ s r3 rfl rfl _ H4.out.2.res ?_)
  refine bodyPost_ret (results_s3 rfl _ _ _ _ rfl (H4.out.2.res.rowSet (sA_len _ _))) rfl ?_
  exact H4.out.2.retn H4.out.1 r 2
theorem reS_ok {s : St} (h : Wg s) {c : Cf} (hc : Clk c) : Ww (reS s c) ∧ Ww (cool (reS s c)) ∧ ¬ Gc (cool (reS s c)) ∧ (cool (reS s c)).cf = c ∧ (cool (reS s c)).pg.length ≤ s.pg.length ∧ Ww (rszW s c).1 ∧ (rszW s c).1.pg.length ≤ s.pg.length := by
  have hw0 : Ww (reS s c) := ⟨hc, by show 1 ≤ c.q ∧ c.q ≤ c.c - 1; have := hc.2.2.1; omega, h.w.nk, h.w.pk, h.w.qu, h.w.gh, h.w.hc, h.w.ht⟩
  have hL := cool_le hw0
  have hcf : (cool (reS s c)).cf = c := hL.cf
  have hs := spill_sp (most := c.c) (cool_ww hw0) (cool_rm hw0) (by rw [hcf]; omega)
  exact ⟨hw0, cool_ww hw0, cool_rm hw0, hcf, hL.n, hs.w, Nat.le_trans hs.n hL.n⟩
set_option maxHeartbeats 2000000 in
set_option maxRecDepth 100000 in
theorem presize_yes (s : St) (r : R3) (c : Cf) (h : Rg s) (hl : Lim s 10000) (hk : Kw s) (w : World) (hr : SR w s r) (hcl : Cl c) : Calls Try.prog 14 #[sV s r, cV c] w (Ss3Post w r (resizeW s c) (rszW s c).2 0) := by
  have HCL := Lib.hid (decide_eq_true hcl)
  have HC := Lib.hid hcl
  clear hcl
  have x : F4 c w r _ s r := F4.start hr
  obtain ⟨w1, hw1⟩ : ∃ w1, w1 = ((w.alloc (.cells (sA s r) 31)).alloc (.cells (cA c) 24)).alloc (.cells (sA S0 R0) 31) := ⟨_, rfl⟩
  rw [← hw1] at x
  have hA : ((w.alloc (.cells (sA s r) 31)).alloc (.cells #[.int .i64 c.p, .int .i64 c.c, .int .i64 c.q, .int .i64 c.g] 24)).alloc (.cells #[.int .i64 0, .int .i64 0, .int .i64 0, .int .i64 0, .int .i64 0, .slice none 0 0, .slice none 0 0, .slice none 0 0, .int .i64 0, .int .i64 0, .int .u64 0, .int .u64 0, .int .u64 0, .int .u64 0, .int .u64 0, .int .u64 0, .int .u64 0, .int .u64 0, .int .u64 0, .int .u64 0] 31) = w1 := hw1.symm
  have HA := Lib.hid hA
  have HX := Lib.hid (And.intro x hr)
  have HL := Lib.hid (And.intro h (And.intro hl hk))
  clear x hw1 hA hl hr h hk
  show Calls Try.prog 14 #[sV s r, cV c] w fun e w' => Ss3Post w r (resizeW s c) (rszW s c).2 0 e w'
  go_enter Try.func14, Try.ntmps14
  go_wp2_with (first | fail | (rw [HA.out]; refine ld31 rfl (.tmp 2) rfl _ rfl _ HX.out.1.fr.box ?_))
  refine (begin_at s r (HL.out.2.1.up (by omega)) w1 HX.out.1.fr.rows).mono ?_
  rintro e w2 ⟨B, r3, A3, c3, rfl, hwk, hb2⟩
  have x2 := HX.out.1.keep hb2
  obtain ⟨lo, hlo⟩ : ∃ lo, lo = w1.heap.size := ⟨_, rfl⟩
  rw [← hlo] at hwk hb2
  have H2 : Hid (WK lo w2 B s r3 A3 c3 [] ∧ T4 c w s r lo w2) := Lib.hid ⟨hwk, x2.res, x2.cfg, x2.fr.box, HX.out.2, x2.fr.bel, by rw [hlo]; exact HX.out.1.fr.hi⟩
  clear hwk hb2 x2 hlo HX HA
  go_wp2_with (first | fail | refine ld31 rfl (.tmp 2) rfl _ rfl _ H2.out.2.st ?_)
  refine (right_yes s r HL.out.1 (HL.out.2.1.up (by omega)) HL.out.2.2 w2 (H2.out.2.rows.kept H2.out.2.bel)).mono ?_
  rintro e w3 ⟨rfl, hb3⟩
  have H3 : Hid (WK lo w3 B s r3 A3 c3 [] ∧ T4 c w s r lo w3) := Lib.hid ⟨H2.out.1.kept hb3, H2.out.2.keep (hb3.mono H2.out.1.low)⟩
  clear hb3 H2
  go_wp2_with (first | fail | refine wpList_load_row rfl 24 (.tmp 3) rfl (w.heap.size + 1) rfl 24 (cA c) (0, 0) _ H3.out.2.cfg Try.underlying24 rfl info24 ?_)
  refine Calls.mono (clock_at c.p c.c c.q c.g w3) ?_
  rintro e w4 ⟨rfl, hb4⟩
  rw [show decide (Clk ⟨c.p, c.c, c.q, c.g⟩) = true from HCL.out]
  have H4 : Hid (WK lo w4 B s r3 A3 c3 [] ∧ T4 c w s r lo w4) := Lib.hid ⟨H3.out.1.kept hb4, H3.out.2.keep (hb4.mono H3.out.1.low)⟩
  clear hb4 H3
  have HQ := Lib.hid (reS_ok HL.out.1 HC.out)
  have g0 : w4.cell? ⟨w.heap.size + 1, 0, none⟩ = some (.int .i64 c.p) := by rw [cell_of_head H4.out.2.cfg]; rfl
  have g1 : w4.cell? ⟨w.heap.size + 1, 1, none⟩ = some (.int .i64 c.c) := by rw [cell_of_head H4.out.2.cfg]; rfl
  have g2 : w4.cell? ⟨w.heap.size + 1, 2, none⟩ = some (.int .i64 c.q) := by rw [cell_of_head H4.out.2.cfg]; rfl
  have g3 : w4.cell? ⟨w.heap.size + 1, 3, none⟩ = some (.int .i64 c.g) := by rw [cell_of_head H4.out.2.cfg]; rfl
  have d0 := H4.out.1.at0
  have d1 := H4.out.1.at1
  have d2 := H4.out.1.at2
  have d3 := H4.out.1.at3
  have d4 := H4.out.1.at4
  have f0 := H4.out.1.free 0
  have f1 := H4.out.1.free 1
  have f2 := H4.out.1.free 2
  have f3 := H4.out.1.free 3
  have f4 := H4.out.1.free 4
  have hBb : B ≠ w.heap.size + 1 := by have := H4.out.1.hlo; have := H4.out.2.lo; omega
  obtain ⟨w5, hw5⟩ : ∃ w5, w5 = ((((w4.setCell ⟨B, 0, none⟩ (.int .i64 c.p)).setCell ⟨B, 1, none⟩ (.int .i64 c.c)).setCell ⟨B, 2, none⟩ (.int .i64 c.q)).setCell ⟨B, 3, none⟩ (.int .i64 c.g)).setCell ⟨B, 4, none⟩ (.int .i64 c.q) := ⟨_, rfl⟩
  have H5 : Hid (WK lo w5.drew B (reS s c) r3 A3 c3 [] ∧ T4 c w s r lo w5.drew) := Lib.hid (by
    have h5 : WK lo w5 B (reS s c) r3 A3 c3 [] := by rw [hw5]; exact (H4.out.1.cfTo c).tgTo c.q
    have hb5 : Below lo w4 w5 := by rw [hw5]; exact below_setCell (below_setCell (below_setCell (below_setCell (below_setCell (Below.refl _ _) H4.out.1.hlo) H4.out.1.hlo) H4.out.1.hlo) H4.out.1.hlo) H4.out.1.hlo
    exact ⟨h5.kept (below_drew (Below.refl _ _) 1), H4.out.2.keep (below_drew hb5 1)⟩)
  have HW5 := Lib.hid hw5
  clear hw5 H4
  go_wp2_with fail
  go_region
  all_goals rw [← HW5.out]
  all_goals generalize World.drew w5 = w5d at H5 ⊢
  clear g0 g1 g2 g3 d0 d1 d2 d3 d4 f0 f1 f2 f3 f4 HW5 hBb
  have CC := Lib.hid (pcool_at H5.out.1 HQ.out.1 (by have := (rg_lim HL.out.1).1; show s.pg.length ≤ 1000; omega))
  go_wp2_with fail
  refine CC.out.mono ?_
  rintro e w6 ⟨rfl, r6, A6, c6, h6, hb6⟩
  have H6 : Hid (WK lo w6 B (cool (reS s c)) r6 A6 c6 [] ∧ T4 c w s r lo w6) := Lib.hid ⟨h6, H5.out.2.keep hb6⟩
  have g1 : w6.cell? ⟨w.heap.size + 1, 1, none⟩ = some (.int .i64 c.c) := by rw [cell_of_head H6.out.2.cfg]; rfl
  have CR := Lib.hid (preclaim_at H6.out.1 c.c HQ.out.2.1 HQ.out.2.2.1 (by rw [HQ.out.2.2.2.1]; omega) (Nat.le_trans HQ.out.2.2.2.2.1 (by have := (rg_lim HL.out.1).1; omega)) (by decide))
  clear h6 hb6 H5 CC
  go_wp2_with fail
  refine CR.out.mono ?_
  rintro e w7 ⟨rfl, r7, A7, c7, h7, hb7⟩
  obtain ⟨out, hout⟩ : ∃ out, out = (rszW s c).2 := ⟨_, rfl⟩
  have H7 : Hid (WK lo w7 B (rszW s c).1 r7 A7 c7 out ∧ T4 c w s r lo w7) := Lib.hid ⟨by rw [hout]; have h10 := h7; rw [List.nil_append] at h10; exact h10, H6.out.2.keep hb7⟩
  have HOUT := Lib.hid hout
  have CE := Lib.hid (pexpire_at H7.out.1 HQ.out.2.2.2.2.2.1 (Nat.le_trans HQ.out.2.2.2.2.2.2 (by have := (rg_lim HL.out.1).1; omega)))
  clear h7 hb7 H6 CR hout g1
  go_wp2_with fail
  refine CE.out.mono ?_
  rintro e w8 ⟨rfl, r8, A8, c8, h8, hb8⟩
  have H8 : Hid (WK lo w8 B (resizeW s c) r8 A8 c8 out ∧ T4 c w s r lo w8) := Lib.hid ⟨h8, H7.out.2.keep hb8⟩
  clear h8 hb8 H7 CE
  go_wp2_with fail
  have hbd : Below w8.heap.size w8 w8.drew := below_drew (Below.refl _ _) 1
  have HD : Hid (WK lo w8.drew B (resizeW s c) r8 A8 c8 out ∧ T4 c w s r lo w8.drew) := Lib.hid ⟨H8.out.1.kept hbd, H8.out.2.keep (hbd.mono H8.out.1.low)⟩
  clear hbd H8
  refine wp_region_held_drew (S := fun W' => W'.heap[B]? = some (.cells (spA (resizeW s c) r8 A8 out.length c8) 72 (0, 0))) (by kernel_rfl) HD.out.1.box (fun hHeld => ?_)
  generalize World.drew w8 = wd at hHeld HD ⊢
  refine wpAnyH_take (i := 0) (v := ?tv1) (by simp only [get_laws]; rfl) (by kernel_rfl) (by kernel_rfl) (by kernel_rfl) (by intro _ _ _ h; exact h) (Or.inl ⟨by rfl, ?te1⟩) (by assumption) ?tr1
  case te1 => (intro w0 _; go_simp; with_reducible rfl)
  try simp only [put_laws]
  refine wpAnyH_take (i := 1) (v := ?tv2) (by simp only [get_laws]; rfl) (by kernel_rfl) (by kernel_rfl) (by kernel_rfl) (by intro _ _ _ h; exact h) (Or.inl ⟨by rfl, ?te2⟩) (by assumption) ?tr2
  case te2 => (intro w0 _; go_simp; with_reducible rfl)
  try simp only [put_laws]
  refine wpAnyH_take (i := 2) (v := ?tv3) (by simp only [get_laws]; rfl) (by kernel_rfl) (by kernel_rfl) (by kernel_rfl) (by intro _ _ _ h; exact h) (Or.inl ⟨by rfl, ?te3⟩) (by assumption) ?tr3
  case te3 => (intro w0 _; go_simp; with_reducible rfl)
  try simp only [put_laws]
  refine wpAnyH_take (i := 3) (v := ?tv4) (by simp only [get_laws]; rfl) (by kernel_rfl) (by kernel_rfl) (by kernel_rfl) (by intro _ _ _ h; exact h) (Or.inl ⟨by rfl, ?te4⟩) (by assumption) ?tr4
  case te4 => (intro w0 q; refine execW (.tmp 45) ?_ ?_ q <;> rfl)
  try simp only [put_laws]
  refine wpAnyH_take (i := 4) (v := ?tv5) (by simp only [get_laws]; rfl) (by kernel_rfl) (by kernel_rfl) (by kernel_rfl) (by intro _ _ _ h; exact h) (Or.inl ⟨by rfl, ?te5⟩) (by assumption) ?tr5
  case te5 => (intro w0 _; go_simp; with_reducible rfl)
  try simp only [put_laws]
  refine wpAnyH_take (i := 5) (v := ?tv6) (by simp only [get_laws]; rfl) (by kernel_rfl) (by kernel_rfl) (by kernel_rfl) (by intro _ _ _ h; exact h) (Or.inl ⟨by rfl, ?te6⟩) (by assumption) ?tr6
  case te6 => (intro w0 _; go_simp; with_reducible rfl)
  try simp only [put_laws]
  refine wpAnyH_take (i := 6) (v := ?tv7) (by simp only [get_laws]; rfl) (by kernel_rfl) (by kernel_rfl) (by kernel_rfl) (by intro _ _ _ h; exact h) (Or.inl ⟨by rfl, ?te7⟩) (by assumption) ?tr7
  case te7 => (intro w0 _; go_simp; with_reducible rfl)
  try simp only [put_laws]
  refine wpAnyH_take (i := 7) (v := ?tv8) (by simp only [get_laws]; rfl) (by kernel_rfl) (by kernel_rfl) (by kernel_rfl) (by intro _ _ _ h; exact h) (Or.inl ⟨by rfl, ?te8⟩) (by assumption) ?tr8
  case te8 => (intro w0 q; have h0 := row68 q; go_simp; with_reducible rfl)
  try simp only [put_laws]
  refine wpAnyH_ready (rs := [8]) (by kernel_rfl) (by simp) ?_
  refine AllReadyH.cons rfl (fun K hK => ?_) AllReadyH.nil
  refine step31 rfl (.tmp 4) (.tmp 46) rfl _ (resizeW s c) r8 rfl rfl _ HD.out.2.res ?_
  have hRB : w.heap.size + 2 ≠ B := by have := HD.out.1.hlo; have := HD.out.2.lo; omega
  refine hK.out _ _ (by rw [setRow_other wd _ B _ (fun e => hRB e.symm)]; exact HD.out.1.box) (fun hHeld => ?_)
  clear hK K
  try simp only [put_laws]
  refine wpAnyH_ready (rs := [9]) (by kernel_rfl) (by simp) ?_
  refine AllReadyH.cons rfl (fun K hK => ?_) AllReadyH.nil
  go_simp
  refine hK.out _ _ hHeld (fun hHeld => ?_)
  clear hK K
  try simp only [put_laws]
  refine wpAnyH_ready (rs := [10]) (by kernel_rfl) (by simp) ?_
  refine AllReadyH.cons rfl (fun K hK => ?_) AllReadyH.nil
  go_simp
  refine hK.out _ _ hHeld (fun hHeld => ?_)
  clear hK K
  try simp only [put_laws]
  clear hHeld
  refine wpAnyH_done (by kernel_rfl) ?_ _
  go_wp2_with fail
  refine bodyPost_ret (results_s3 rfl _ _ _ _ rfl (HD.out.2.res.rowSet (sA_len _ _))) rfl ?_
  show Ss3Post w r (resizeW s c) (rszW s c).2 0 _ _
  rw [← HOUT.out]
  exact HD.out.2.ret HD.out.1 r 0
end Go.Proofs.Ytejcahkkpednfaa
namespace Go.Proofs.Ytejcahkkpednfaa
open Go.RowKit
open Go.Proofs.StackM (Pg Cf Ct St up many fnd fnd_at fnd_no)
open Go.Proofs.WheelM
set_option linter.unusedVariables false
def exA : Nat → St | 0 => newW exC | 1 => exN [⟨1, 2, true, false⟩] 1 0 ⟨0, 1, 0, 0, 0, 0, 0, 0, 0, 0⟩ | 2 => exN [⟨1, 2, true, false⟩, ⟨2, 2, true, false⟩] 1 0 ⟨0, 2, 0, 0, 0, 0, 0, 0, 0, 0⟩ | _ => ex3
theorem ex_step {n : Nat} (h : n < 3) : admitW (exA n) ((n : Int) + 1) = exA (n + 1) ∧ admOutW (exA n) ((n : Int) + 1) = [] := by
  have : n = 0 ∨ n = 1 ∨ n = 2 := by omega
  rcases this with rfl | rfl | rfl
  · exact admit_plain (s := exA 0) (k := 1) (by decide) (by decide) (by decide)
  · exact admit_plain (s := exA 1) (k := 2) (by decide) (by decide) (by decide)
  · exact admit_plain (s := exA 2) (k := 3) (by decide) (by decide) (by decide)
theorem exC_cl : Cl exC := by unfold Cl Clk exC; decide
theorem ex_rg : ∀ {n : Nat}, n ≤ 3 → Rg (exA n) ∧ Kw (exA n)
  | 0, _ => ⟨new_rg exC_cl, kw_new _⟩
  | n + 1, h => by
    obtain ⟨h1, h2⟩ := ex_rg (n := n) (by omega)
    have e := (ex_step (n := n) (by omega)).1
    rw [← e]
    exact ⟨admit_rg h1 _, kw_admit h1 h2 ⟨by omega, by omega⟩⟩
theorem ex4_rg : Rg ex4 ∧ Kw ex4 := by
  have h := ex_rg (n := 3) (by omega)
  have e : touchW (exA 3) 1 = ex4 := ex_touch.1
  rw [← e]
  exact ⟨touch_rg h.1 1, kw_touch h.1 h.2 1⟩
theorem ex5_rg : Rg ex5 ∧ Kw ex5 := by
  have h := ex4_rg
  have e : admitW ex4 4 = ex5 := ex_last.2.2.1
  rw [← e]
  exact ⟨admit_rg h.1 4, kw_admit h.1 h.2 ⟨by omega, by omega⟩⟩
theorem new_ex (w : World) : Calls Try.prog 19 #[.agg #[.int .i64 2, .int .i64 3, .int .i64 1, .int .i64 2]] w fun e w' => ∃ r', e = .returned (.tuple #[sV (newW exC) r', .int .i64 0]) ∧ SR w' (newW exC) r' ∧ Below w.heap.size w w' := by
  have h := pnew_at exC w
  simp only [if_pos exC_cl] at h
  exact h.mono fun e w' ⟨⟨r', h1, h2, _⟩, h3⟩ => ⟨r', h1, h2, h3⟩
set_option maxHeartbeats 2000000 in
set_option maxRecDepth 100000 in
theorem alive_at (w : World) : Calls Try.prog 9 #[] w fun e w' => e = .returned (.bool true) ∧ Below w.heap.size w w' := by
  go_enter Try.func9, Try.ntmps9
  go_wp2_with fail
  refine (new_ex w).mono ?_
  rintro e w1 ⟨r0, rfl, hr0, hb0⟩
  obtain ⟨b1, hb1e⟩ : ∃ b, b = w1.heap.size := ⟨_, rfl⟩
  obtain ⟨w2, hw2⟩ : ∃ w2, w2 = w1.alloc (.cells (sA (newW exC) r0) 31) := ⟨_, rfl⟩
  have H2 : Hid (BS w w2 b1 (newW exC) r0) := Lib.hid (by rw [hw2, hb1e]; exact BS.new hr0 hb0)
  have HW2 := Lib.hid (And.intro hw2 hb1e)
  clear hr0 hb0 hb1e hw2
  go_wp2_with (first | fail | (refine st31n rfl (.tmp 1) (.tmp 11) rfl (newW exC) r0 rfl rfl _ rfl ?_; rw [← HW2.out.1, ← HW2.out.2]))
  go_loopw [3] (fun k wr => ∃ (n : Nat) (r : R3), n ≤ 3 ∧ k = .int .u64 ((n : Int) + 1) ∧ Hid (BS w wr b1 (exA n) r)) (fun k _ => 6 - (intOf k).toNat)
  case atStart => exact ⟨0, r0, by omega, by go_num, H2⟩
  case round =>
    clear H2 HW2
    obtain ⟨n, r, hn, rfl, HB⟩ := hrel
    by_cases hlt : n < 3
    · have hle : (n : Int) + 1 ≤ 3 := by omega
      have hwr : IntKind.u64.wrap ((n : Int) + 1 + 1) = (n : Int) + 1 + 1 := by rw [wrap_up]; unfold up; omega
      have C12 := Lib.hid (fun V (hV : BS w V b1 (exA n) r) => padmit_at (exA n) r ((n : Int) + 1) (ex_rg (by omega)).1 (rg_lim' (ex_rg (by omega)).1) (ex_rg (by omega)).2 V hV.rows)
      obtain ⟨e1, e2⟩ := ex_step hlt
      rw [e1, e2] at C12
      clear e1 e2
      go_wp2_with (first | fail | refine ld31 rfl (.tmp 1) rfl _ rfl _ HB.out.box ?_)
      refine (C12.out _ HB.out).mono ?_
      rintro e w3 ⟨r3, A3, n3, c3, rfl, hn3, hr3, hu3, hA3, hf3, hb3⟩
      have x3 := HB.out.put hb3 hr3 hf3
      have HB3 := Lib.hid (HB.out.box.kept hb3 HB.out.box.lt)
      have H4 : Hid (BS w (w3.setRow b1 (sA (exA (n + 1)) r3)) b1 (exA (n + 1)) r3) := Lib.hid x3
      clear hr3 hu3 hA3 hf3 hb3 x3 C12
      go_wp2_with (first | fail | refine st31 rfl (.tmp 1) (.tmp 21) rfl _ (exA (n + 1)) r3 rfl rfl _ HB3.out ?_)
      go_round
      case rel => exact ⟨n + 1, r3, by omega, by go_num, H4⟩
      case measure => simp only [intOf]; omega
    · obtain rfl : n = 3 := by omega
      have C11 := Lib.hid (fun V (hV : BS w V b1 ex3 r) => ptouch_at ex3 r 1 (ex_rg (n := 3) (by omega)).1 (rg_lim' (ex_rg (n := 3) (by omega)).1) (ex_rg (n := 3) (by omega)).2 V hV.rows)
      rw [show touchW ex3 1 = ex4 from ex_touch.1, decide_eq_true (show KptW ex3 1 from ex_touch.2)] at C11
      have HB4 : Hid (BS w wr b1 ex3 r) := HB
      clear HB
      go_wp2_with (first | fail | refine ld31 rfl (.tmp 1) rfl _ rfl _ HB4.out.box ?_)
      refine (C11.out _ HB4.out).mono ?_
      rintro e w3 ⟨r3, rfl, hr3, hf3, hb3⟩
      have x3 := HB4.out.put hb3 hr3 hf3
      have HB3 := Lib.hid (HB4.out.box.kept hb3 HB4.out.box.lt)
      obtain ⟨w4, hw4⟩ : ∃ w4, w4 = w3.setRow b1 (sA ex4 r3) := ⟨_, rfl⟩
      rw [← hw4] at x3
      have H4 := Lib.hid x3
      have HW4 := Lib.hid hw4
      clear hr3 hf3 hb3 x3 hw4 HB4 C11
      have C12 := Lib.hid (padmit_at ex4 r3 4 ex4_rg.1 (rg_lim' ex4_rg.1) ex4_rg.2 w4 H4.out.rows)
      rw [show admitW ex4 4 = ex5 from ex_last.2.2.1, show admOutW ex4 4 = [2] from ex_last.2.2.2, decide_eq_false (show ¬ KptW ex4 4 from ex_last.1)] at C12
      go_wp2_with (first | fail | (refine st31 rfl (.tmp 1) (.tmp 27) rfl _ ex4 r3 rfl rfl _ HB3.out ?_; rw [← HW4.out]) | refine ld31 rfl (.tmp 1) rfl _ rfl _ H4.out.box ?_)
      refine C12.out.mono ?_
      rintro e w5 ⟨r5, A, n5, c, rfl, hn5, hr5, hu5, hA5, hf5, hb5⟩
      obtain rfl : n5 = 1 := hn5
      obtain ⟨b2, hb2e⟩ : ∃ b, b = w5.heap.size := ⟨_, rfl⟩
      obtain ⟨w6, hw6⟩ : ∃ w6, w6 = w5.alloc (.cells (sA ex5 r5) 31) := ⟨_, rfl⟩
      have H6 : Hid (BS w w6 b2 ex5 r5 ∧ UR w6 A c [2]) := Lib.hid (by
        rw [hw6, hb2e]
        exact ⟨BS.new hr5 (H4.out.bel.trans (hb5.mono H4.out.bel.size)), hu5.kept (alloc_below _ _)⟩)
      have HW6 := Lib.hid (And.intro hw6 hb2e)
      clear hr5 hf5 hb5 hb2e hw6 hu5 hA5 C12 H4 HW4 HB3
      go_wp2_with (first | fail | (refine st31n rfl (.tmp 5) (.tmp 32) rfl ex5 r5 rfl rfl _ rfl ?_; rw [← HW6.out.1, ← HW6.out.2]))
      clear HW6
      refine Calls.mono (same_at [2] [2] A (some ⟨w6.heap.size, 0, none⟩) 1 1 c 1 rfl rfl (by decide) (by decide) (w6.alloc (.cells #[.int .u64 2] 27)) (H6.out.2.kept (alloc_below _ _)).row (urow_lit w6 2)) ?_
      rintro e w7 ⟨rfl, hb7⟩
      rw [show decide (([2] : List Int) = [2]) = true from rfl]
      have H7 := Lib.hid ((H6.out.1.keep (alloc_below w6 (.cells #[.int .u64 2] 27))).keep hb7)
      clear hb7 H6
      go_wp2_with (first | fail | refine ld31g rfl (.tmp 5) rfl _ rfl _ H7.out.box ?_)
      refine (right_yes ex5 r5 ex5_rg.1 ((rg_lim ex5_rg.1).up (by omega)) ex5_rg.2 w7 H7.out.rows).mono ?_
      rintro e w8 ⟨rfl, hb8⟩
      have H8 := Lib.hid (H7.out.keep hb8)
      clear hb8 H7
      have d4 : w8.cell? ⟨b2, 4, none⟩ = some (.int .i64 2) := at4 H8.out.box
      have d5 := at5 H8.out.box
      have h3 : 0 < ex5.pg.length := by decide
      have h4 : 2 < ex5.pg.length := by decide
      obtain ⟨b, off, ha, hc⟩ := H8.out.rows.pg.row.at h3
      obtain ⟨c0, c1, c2, c3⟩ := hc 0 h3
      obtain ⟨f0, f1, f2, f3⟩ := hc 2 h4
      have e0 : ex5.pg[0] = ⟨2, 3, true, false⟩ := rfl
      have e2 : ex5.pg[2] = ⟨1, 1, false, false⟩ := rfl
      have el : ex5.pg.length = 4 := rfl
      rw [e0] at c0 c1 c2 c3
      rw [e2] at f0 f1 f2 f3
      simp only [Nat.zero_mul, Nat.add_zero] at c0 c1 c2 c3
      simp only [Nat.reduceMul] at f0 f1 f2 f3
      rw [ha, el] at d5
      clear hc ha h3 h4 e0 e2 el
      go_wp2_with fail
      go_ret
      exact ⟨rfl, H8.out.bel⟩
end Go.Proofs.Ytejcahkkpednfaa
namespace Go.Proofs.Ytejcahkkpednfaa
open Go.ChangeShapes Go.WideShapes Go.ChangeAt Go.RowKit
open Go.Proofs.StackM (Pg Cf Ct St up many fnd fnd_at fnd_no)
open Go.Proofs.WheelM
set_option linter.unusedVariables false
theorem cells59 : Try.prog.cellsOf 58 = 4 := by kernel_rfl
theorem cells45 : Try.prog.cellsOf 45 = 6 := by kernel_rfl
theorem cells24 : Try.prog.cellsOf 24 = 4 := by kernel_rfl
theorem cells25 : Try.prog.cellsOf 25 = 1 := by kernel_rfl
theorem cells26 : Try.prog.cellsOf 26 = 1 := by kernel_rfl
theorem cells27 : Try.prog.cellsOf 27 = 1 := by kernel_rfl
theorem cells56 : Try.prog.cellsOf 55 = 1 := by kernel_rfl
theorem cells4 : Try.prog.cellsOf 4 = 1 := by kernel_rfl
theorem cells3 : Try.prog.cellsOf 3 = 1 := by kernel_rfl
theorem cells22 : Try.prog.cellsOf 22 = 1 := by kernel_rfl
theorem list4 {α : Type} {l : List α} (h : l.length = 4) : ∃ a0 a1 a2 a3, l = [a0, a1, a2, a3] := by
  match l, h with
  | [a0, a1, a2, a3], _ => exact ⟨a0, a1, a2, a3, rfl⟩
theorem wf_u64 {n : Int} (h : (Lit.int .u64 n).wf = true) : K64 n := by
  have := Go.bounds_u64 h; unfold K64; omega
theorem wide_int {P : Program} {w : World} {r : Reach} {base : Nat} {t : TypeId} {k : IntKind} {v : Value} (ht : P.underlying t = some (.int k)) (h : Cell.okWide P w r base t v) : ∃ n, v = .int k n := by
  unfold Cell.okWide Cell.ok at h
  rw [ht] at h
  cases v <;> simp at h
  obtain ⟨rfl, _⟩ := h
  exact ⟨_, rfl⟩
theorem wide_slice {P : Program} {w : World} {r : Reach} {base : Nat} {t e : TypeId} {v : Value} (ht : P.underlying t = some (.slice e)) (h : Cell.okWide P w r base t v) :
    v = .slice none 0 0 ∨ ∃ b off len cap, v = .slice (some ⟨b, off, none⟩) len cap ∧ len ≤ cap ∧ b < w.heap.size := by
  unfold Cell.okWide Cell.ok at h
  rw [ht] at h
  cases v <;> simp at h
  rename_i A len cap
  cases A with
  | none =>
    left
    cases len <;> cases cap <;> simp at h
    rfl
  | some a =>
    right
    simp only at h
    obtain ⟨h1, _, _, h3, row, cells, h4, _⟩ := h
    obtain ⟨b, off, sp⟩ := a
    simp only at h3 h4
    subst h3
    refine ⟨b, off, len, cap, rfl, h1, ?_⟩
    unfold World.shape? at h4
    cases hb : w.heap[b]? with
    | none => rw [hb] at h4; simp at h4
    | some o => exact (Array.getElem?_eq_some_iff.1 hb).1
theorem pick_list {α : Type} {φ : Nat → α → Prop} : ∀ (n : Nat), (∀ i, i < n → ∃ a, φ i a) → ∃ l : List α, l.length = n ∧ ∀ i (hi : i < l.length), φ i l[i]
  | 0, _ => ⟨[], rfl, fun i hi => absurd hi (Nat.not_lt_zero _)⟩
  | n + 1, h => by
    obtain ⟨l, hl, hφ⟩ := pick_list n fun i hi => h i (by omega)
    obtain ⟨a, ha⟩ := h n (by omega)
    refine ⟨l ++ [a], by simp [hl], fun i hi => ?_⟩
    by_cases hin : i < l.length
    · rw [List.getElem_append_left hin]; exact hφ i hin
    · have : i = n := by simp at hi; omega
      subst this
      rw [List.getElem_append_right (by omega)]
      simpa [hl] using ha
theorem cell_row {w : World} {base b off i n : Nat} {cs : List Value} (h : w.cells? base ((⟨b, off, none⟩ : Addr).add i) n = some cs) : cs.length = n ∧ ∀ j u, cs[j]? = some u → w.cell? ⟨b, off + i + j, none⟩ = some u := by
  obtain ⟨_, h2, h3⟩ := World.cells?_some h
  refine ⟨h2, fun j u hj => ?_⟩
  have := h3 j (by have := (List.getElem?_eq_some_iff.1 hj).1; omega)
  rw [hj, Lib.add_plain, Lib.add_plain] at this
  exact this
section
variable {H : Type} {enc : TypeId × Value → H} {w : World} {base : Nat} {spare : Nat → Bool} {held : Bool}
theorem open_pages {b off len cap fuel : Nat} {x : DataW H × List MemPlace} (h : DataW.trod enc Try.prog w base spare held fuel 25 [Value.slice (some ⟨b, off, none⟩) len cap] = some x) :
    ∃ l : List Pg, l.length = len ∧ (∀ p ∈ l, K64 p.key) ∧ ∀ j (hj : j < (pvals l).length), w.cell? ⟨b, off + j, none⟩ = some (pvals l)[j] := by
  rcases Go.Deep.open_slice Try.underlying25 h with ⟨hcs, _⟩ | ⟨a, l, c, m, n, D, Pl, hcs, _, hl, hm, hmm, _, hel⟩
  · simp at hcs
  · simp only [List.cons.injEq, Value.slice.injEq, Option.some.injEq, and_true] at hcs
    obtain ⟨rfl, rfl, rfl⟩ := hcs
    have hml : len ≤ m := by rw [hmm]; split <;> omega
    have key : ∀ i, i < len → ∃ p : Pg, K64 p.key ∧ ∀ j u, ([.int .u64 p.key, .int .i64 p.kind, .bool p.test, .bool p.mark] : List Value)[j]? = some u → w.cell? ⟨b, off + i * 4 + j, none⟩ = some u := by
      intro i hi
      obtain ⟨cs', hc, ht⟩ := hel i (by omega)
      rw [cells59] at hc
      obtain ⟨hlen, hcc⟩ := cell_row hc
      obtain ⟨xs, n', _, _, _, hxl, hf⟩ := DataW.trod_struct Try.underlying58 ht
      have hxl' : xs.length = 4 := hxl
      obtain ⟨v0, v1, v2, v3, rfl⟩ := list4 hlen
      have g0 : DataW.trod enc Try.prog w base spare held n' 27 ((([v0, v1, v2, v3] : List Value).drop 0).take (Try.prog.cellsOf 27)) = xs[0]? := hf 0 _ rfl
      have g1 : DataW.trod enc Try.prog w base spare held n' 55 ((([v0, v1, v2, v3] : List Value).drop 1).take (Try.prog.cellsOf 55)) = xs[1]? := hf 1 _ rfl
      have g2 : DataW.trod enc Try.prog w base spare held n' 4 ((([v0, v1, v2, v3] : List Value).drop 2).take (Try.prog.cellsOf 4)) = xs[2]? := hf 2 _ rfl
      have g3 : DataW.trod enc Try.prog w base spare held n' 4 ((([v0, v1, v2, v3] : List Value).drop 3).take (Try.prog.cellsOf 4)) = xs[3]? := hf 3 _ rfl
      have ex : ∀ i : Nat, i < 4 → ∃ y, xs[i]? = some y := fun i hi => ⟨_, List.getElem?_eq_getElem (by omega)⟩
      obtain ⟨y0, e0⟩ := ex 0 (by omega)
      obtain ⟨y1, e1⟩ := ex 1 (by omega)
      obtain ⟨y2, e2⟩ := ex 2 (by omega)
      obtain ⟨y3, e3⟩ := ex 3 (by omega)
      rw [e0] at g0; rw [e1] at g1; rw [e2] at g2; rw [e3] at g3
      simp only [cells27, cells56, cells4, List.drop_zero, List.drop_succ_cons, List.take_succ_cons, List.take_zero] at g0 g1 g2 g3
      obtain ⟨k, hk, _, wk⟩ := DataW.trod_int Try.underlying27 g0
      obtain ⟨d, hd, _, _⟩ := DataW.trod_int Try.underlying55 g1
      obtain ⟨t, ht2, _⟩ := DataW.trod_bool Try.underlying4 g2
      obtain ⟨u, hu, _⟩ := DataW.trod_bool Try.underlying4 g3
      cases hk; cases hd; cases ht2; cases hu
      exact ⟨⟨k, d, t, u⟩, wf_u64 wk, hcc⟩
    obtain ⟨l, hl2, hφ⟩ := pick_list len key
    refine ⟨l, hl2, fun p hp => ?_, fun j hj => ?_⟩
    · obtain ⟨i, hi, rfl⟩ := List.getElem_of_mem hp
      exact (hφ i hi).1
    · have hj4 : j < l.length * 4 := by rw [← pvals_len]; exact hj
      have hi : j / 4 < l.length := by omega
      have hm := (hφ (j / 4) hi).2
      obtain ⟨p0, p1, p2, p3⟩ := pvals_at l (j / 4) hi
      have hjj : j = j / 4 * 4 + j % 4 := by omega
      have h4 : j % 4 = 0 ∨ j % 4 = 1 ∨ j % 4 = 2 ∨ j % 4 = 3 := by omega
      have hv : ∀ u, (pvals l)[j]? = some u → (pvals l)[j] = u := fun u hu => (List.getElem?_eq_some_iff.1 hu).2
      rcases h4 with e | e | e | e
      · have e2 : j / 4 * 4 + 0 = j := by omega
        have e3 : off + j / 4 * 4 + 0 = off + j := by omega
        have hq := p0
        rw [show j / 4 * 4 = j by omega] at hq
        have := hm 0 _ rfl
        rw [e3] at this
        rw [hv _ hq]
        exact this
      · have e2 : j / 4 * 4 + 1 = j := by omega
        have e3 : off + j / 4 * 4 + 1 = off + j := by omega
        have hq := p1
        rw [show j / 4 * 4 + 1 = j by omega] at hq
        have := hm 1 _ rfl
        rw [e3] at this
        rw [hv _ hq]
        exact this
      · have e2 : j / 4 * 4 + 2 = j := by omega
        have e3 : off + j / 4 * 4 + 2 = off + j := by omega
        have hq := p2
        rw [show j / 4 * 4 + 2 = j by omega] at hq
        have := hm 2 _ rfl
        rw [e3] at this
        rw [hv _ hq]
        exact this
      · have e2 : j / 4 * 4 + 3 = j := by omega
        have e3 : off + j / 4 * 4 + 3 = off + j := by omega
        have hq := p3
        rw [show j / 4 * 4 + 3 = j by omega] at hq
        have := hm 3 _ rfl
        rw [e3] at this
        rw [hv _ hq]
        exact this
theorem open_keys {b off len cap fuel : Nat} {x : DataW H × List MemPlace} (h : DataW.trod enc Try.prog w base spare held fuel 26 [Value.slice (some ⟨b, off, none⟩) len cap] = some x) :
    ∃ l : List Int, l.length = len ∧ (∀ k ∈ l, K64 k) ∧ ∀ j (hj : j < (uvals l).length), w.cell? ⟨b, off + j, none⟩ = some (uvals l)[j] := by
  rcases Go.Deep.open_slice1 Try.underlying26 cells27 h with ⟨hcs, _⟩ | ⟨a, l, c, m, n, V, D, Pl, hcs, _, hl, hm, hmm, _, hel⟩
  · simp at hcs
  · simp only [List.cons.injEq, Value.slice.injEq, Option.some.injEq, and_true] at hcs
    obtain ⟨rfl, rfl, rfl⟩ := hcs
    have hml : len ≤ m := by rw [hmm]; split <;> omega
    have key : ∀ i, i < len → ∃ k : Int, K64 k ∧ w.cell? ⟨b, off + i, none⟩ = some (.int .u64 k) := by
      intro i hi
      obtain ⟨hc, ht⟩ := hel i (by omega)
      obtain ⟨k, hk, _, wk⟩ := DataW.trod_int Try.underlying27 ht
      rw [Lib.add_plain] at hc
      simp only [List.cons.injEq, and_true] at hk
      exact ⟨k, wf_u64 wk, by rw [hc, hk]⟩
    obtain ⟨l, hl2, hφ⟩ := pick_list len key
    refine ⟨l, hl2, fun p hp => ?_, fun j hj => ?_⟩
    · obtain ⟨i, hi, rfl⟩ := List.getElem_of_mem hp
      exact (hφ i hi).1
    · have hj2 : j < l.length := by rw [← uvals_len]; exact hj
      rw [(hφ j hj2).2]
      simp [uvals]
set_option maxRecDepth 100000 in
theorem open_prow {r : Reach} {b0 fuel : Nat} {v : Value} {x : DataW H × List MemPlace} (hc : Cell.okWide Try.prog w r b0 25 v) (h : DataW.trod enc Try.prog w base spare held fuel 25 [v] = some x) :
    ∃ A cap l, v = .slice A l.length cap ∧ PR w A cap l ∧ ∀ p ∈ l, K64 p.key := by
  rcases wide_slice Try.underlying25 hc with rfl | ⟨b, off, len, cap, rfl, hle, hlt⟩
  · exact ⟨none, 0, [], rfl, ⟨.inl ⟨rfl, rfl, rfl⟩, fun a e => (by cases e), Nat.le_refl _⟩, fun p hp => nomatch hp⟩
  · obtain ⟨l, rfl, hk, hr⟩ := open_pages h
    exact ⟨_, cap, l, rfl, ⟨.inr ⟨b, off, rfl, hr⟩, fun a e => by cases e; exact hlt, hle⟩, hk⟩
set_option maxRecDepth 100000 in
theorem open_urow {r : Reach} {b0 fuel : Nat} {v : Value} {x : DataW H × List MemPlace} (hc : Cell.okWide Try.prog w r b0 26 v) (h : DataW.trod enc Try.prog w base spare held fuel 26 [v] = some x) :
    ∃ A cap l, v = .slice A l.length cap ∧ UR w A cap l ∧ ∀ k ∈ l, K64 k := by
  rcases wide_slice Try.underlying26 hc with rfl | ⟨b, off, len, cap, rfl, hle, hlt⟩
  · exact ⟨none, 0, [], rfl, ⟨.inl ⟨rfl, rfl, rfl⟩, fun a e => (by cases e), Nat.le_refl _⟩, fun p hp => nomatch hp⟩
  · obtain ⟨l, rfl, hk, hr⟩ := open_keys h
    exact ⟨_, cap, l, rfl, ⟨.inr ⟨b, off, rfl, hr⟩, fun a e => by cases e; exact hlt, hle⟩, hk⟩
theorem list20 {α : Type} {l : List α} (h : l.length = 20) : ∃ v0 v1 v2 v3 v4 v5 v6 v7 v8 v9 v10 v11 v12 v13 v14 v15 v16 v17 v18 v19, l = [v0, v1, v2, v3, v4, v5, v6, v7, v8, v9, v10, v11, v12, v13, v14, v15, v16, v17, v18, v19] := by
  match l, h with
  | [v0, v1, v2, v3, v4, v5, v6, v7, v8, v9, v10, v11, v12, v13, v14, v15, v16, v17, v18, v19], _ => exact ⟨v0, v1, v2, v3, v4, v5, v6, v7, v8, v9, v10, v11, v12, v13, v14, v15, v16, v17, v18, v19, rfl⟩
theorem types31 : Try.prog.cellTypes Try.prog.depth 31 = some [22, 3, 3, 3, 3, 25, 26, 26, 3, 3, 27, 27, 27, 27, 27, 27, 27, 27, 27, 27] := by kernel_rfl
theorem types24 : Try.prog.cellTypes Try.prog.depth 24 = some [22, 3, 3, 3] := by kernel_rfl
set_option maxRecDepth 100000 in
theorem open_state {r : Reach} {b0 fuel : Nat} {v : Value} {x : DataW H × List MemPlace} (hv : Value.okWide Try.prog w r b0 31 v) (h : DataW.trod enc Try.prog w base spare held fuel 31 v.cells.toList = some x) :
    ∃ s r', v = sV s r' ∧ SR w s r' ∧ Kw s := by
  unfold Value.okWide at hv
  rw [Try.underlying31] at hv
  obtain ⟨cs, rfl, hsz, ts, hts, _, hc⟩ := hv
  rw [types31] at hts
  cases hts
  rw [show Try.prog.cellsOf 31 = 20 by kernel_rfl] at hsz
  obtain ⟨l⟩ := cs
  obtain ⟨v0, v1, v2, v3, v4, v5, v6, v7, v8, v9, v10, v11, v12, v13, v14, v15, v16, v17, v18, v19, rfl⟩ := list20 hsz
  have g : ∀ (i : Nat) (T : TypeId) (u : Value), i < 20 → ([v0, v1, v2, v3, v4, v5, v6, v7, v8, v9, v10, v11, v12, v13, v14, v15, v16, v17, v18, v19] : List Value)[i]? = some u → ([22, 3, 3, 3, 3, 25, 26, 26, 3, 3, 27, 27, 27, 27, 27, 27, 27, 27, 27, 27] : List TypeId)[i]? = some T → Cell.okWide Try.prog w r b0 T u := by
    intro i T u hi hu hT
    obtain ⟨T', h1, h2⟩ := hc i u (by simpa using hu)
    rw [show i % ([22, 3, 3, 3, 3, 25, 26, 26, 3, 3, 27, 27, 27, 27, 27, 27, 27, 27, 27, 27] : List TypeId).length = i from Nat.mod_eq_of_lt hi, hT] at h1
    cases h1
    exact h2
  obtain ⟨p, rfl⟩ := wide_int Try.underlying22 (g 0 22 _ (by omega) rfl rfl)
  obtain ⟨c, rfl⟩ := wide_int Try.underlying3 (g 1 3 _ (by omega) rfl rfl)
  obtain ⟨q, rfl⟩ := wide_int Try.underlying3 (g 2 3 _ (by omega) rfl rfl)
  obtain ⟨gg, rfl⟩ := wide_int Try.underlying3 (g 3 3 _ (by omega) rfl rfl)
  obtain ⟨tg, rfl⟩ := wide_int Try.underlying3 (g 4 3 _ (by omega) rfl rfl)
  obtain ⟨co, rfl⟩ := wide_int Try.underlying3 (g 8 3 _ (by omega) rfl rfl)
  obtain ⟨te, rfl⟩ := wide_int Try.underlying3 (g 9 3 _ (by omega) rfl rfl)
  obtain ⟨hi, rfl⟩ := wide_int Try.underlying27 (g 10 27 _ (by omega) rfl rfl)
  obtain ⟨mi, rfl⟩ := wide_int Try.underlying27 (g 11 27 _ (by omega) rfl rfl)
  obtain ⟨ra, rfl⟩ := wide_int Try.underlying27 (g 12 27 _ (by omega) rfl rfl)
  obtain ⟨lo, rfl⟩ := wide_int Try.underlying27 (g 13 27 _ (by omega) rfl rfl)
  obtain ⟨prn, rfl⟩ := wide_int Try.underlying27 (g 14 27 _ (by omega) rfl rfl)
  obtain ⟨ev, rfl⟩ := wide_int Try.underlying27 (g 15 27 _ (by omega) rfl rfl)
  obtain ⟨fo, rfl⟩ := wide_int Try.underlying27 (g 16 27 _ (by omega) rfl rfl)
  obtain ⟨cl, rfl⟩ := wide_int Try.underlying27 (g 17 27 _ (by omega) rfl rfl)
  obtain ⟨en, rfl⟩ := wide_int Try.underlying27 (g 18 27 _ (by omega) rfl rfl)
  obtain ⟨st, rfl⟩ := wide_int Try.underlying27 (g 19 27 _ (by omega) rfl rfl)
  obtain ⟨xs, n, _, _, _, hxl, hf⟩ := DataW.trod_struct Try.underlying31 h
  have hxl' : xs.length = 8 := hxl
  have ex : ∀ i : Nat, i < 8 → ∃ y, xs[i]? = some y := fun i hi => ⟨_, List.getElem?_eq_getElem (by omega)⟩
  obtain ⟨y2, e2⟩ := ex 2 (by omega)
  obtain ⟨y3, e3⟩ := ex 3 (by omega)
  obtain ⟨y4, e4⟩ := ex 4 (by omega)
  have g2 : DataW.trod enc Try.prog w base spare held n 25 ((([.int .i64 p, .int .i64 c, .int .i64 q, .int .i64 gg, .int .i64 tg, v5, v6, v7, .int .i64 co, .int .i64 te, .int .u64 hi, .int .u64 mi, .int .u64 ra, .int .u64 lo, .int .u64 prn, .int .u64 ev, .int .u64 fo, .int .u64 cl, .int .u64 en, .int .u64 st] : List Value).drop 5).take (Try.prog.cellsOf 25)) = xs[2]? := hf 2 _ rfl
  rw [e2, cells25] at g2
  have g3 : DataW.trod enc Try.prog w base spare held n 26 ((([.int .i64 p, .int .i64 c, .int .i64 q, .int .i64 gg, .int .i64 tg, v5, v6, v7, .int .i64 co, .int .i64 te, .int .u64 hi, .int .u64 mi, .int .u64 ra, .int .u64 lo, .int .u64 prn, .int .u64 ev, .int .u64 fo, .int .u64 cl, .int .u64 en, .int .u64 st] : List Value).drop 6).take (Try.prog.cellsOf 26)) = xs[3]? := hf 3 _ rfl
  rw [e3, cells26] at g3
  have g4 : DataW.trod enc Try.prog w base spare held n 26 ((([.int .i64 p, .int .i64 c, .int .i64 q, .int .i64 gg, .int .i64 tg, v5, v6, v7, .int .i64 co, .int .i64 te, .int .u64 hi, .int .u64 mi, .int .u64 ra, .int .u64 lo, .int .u64 prn, .int .u64 ev, .int .u64 fo, .int .u64 cl, .int .u64 en, .int .u64 st] : List Value).drop 7).take (Try.prog.cellsOf 26)) = xs[4]? := hf 4 _ rfl
  rw [e4, cells26] at g4
  obtain ⟨A1, c1, l1, rfl, r1, k1⟩ := open_prow (g 5 25 _ (by omega) rfl rfl) g2
  obtain ⟨A2, c2, l2, rfl, r2, k2⟩ := open_urow (g 6 26 _ (by omega) rfl rfl) g3
  obtain ⟨A3, c3, l3, rfl, r3, k3⟩ := open_urow (g 7 26 _ (by omega) rfl rfl) g4
  exact ⟨⟨⟨p, c, q, gg⟩, tg, l1, l2, l3, co, te, ⟨hi, mi, ra, lo, prn, ev, fo, cl, en, st⟩⟩, ⟨A1, c1, A2, c2, A3, c3⟩, rfl, ⟨r1, r2, r3⟩, ⟨k1, k2, k3⟩⟩
set_option maxRecDepth 100000 in
theorem open_config {r : Reach} {b0 : Nat} {v : Value} (hv : Value.okWide Try.prog w r b0 24 v) : ∃ c : Cf, v = cV c := by
  unfold Value.okWide at hv
  rw [Try.underlying24] at hv
  obtain ⟨cs, rfl, hsz, ts, hts, _, hc⟩ := hv
  rw [types24] at hts
  cases hts
  rw [cells24] at hsz
  obtain ⟨l⟩ := cs
  obtain ⟨v0, v1, v2, v3, rfl⟩ := list4 hsz
  have g : ∀ (i : Nat) (T : TypeId) (u : Value), i < 4 → ([v0, v1, v2, v3] : List Value)[i]? = some u → ([22, 3, 3, 3] : List TypeId)[i]? = some T → Cell.okWide Try.prog w r b0 T u := by
    intro i T u hi hu hT
    obtain ⟨T', h1, h2⟩ := hc i u (by simpa using hu)
    rw [show i % ([22, 3, 3, 3] : List TypeId).length = i from Nat.mod_eq_of_lt hi, hT] at h1
    cases h1
    exact h2
  obtain ⟨p, rfl⟩ := wide_int Try.underlying22 (g 0 22 _ (by omega) rfl rfl)
  obtain ⟨c, rfl⟩ := wide_int Try.underlying3 (g 1 3 _ (by omega) rfl rfl)
  obtain ⟨q, rfl⟩ := wide_int Try.underlying3 (g 2 3 _ (by omega) rfl rfl)
  obtain ⟨gg, rfl⟩ := wide_int Try.underlying3 (g 3 3 _ (by omega) rfl rfl)
  exact ⟨⟨p, c, q, gg⟩, rfl⟩
end
end Go.Proofs.Ytejcahkkpednfaa
