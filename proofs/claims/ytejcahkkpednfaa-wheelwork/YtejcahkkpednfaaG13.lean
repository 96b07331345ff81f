/-
  The state that is worked on: small steps, its target, its marks, its pages one by one.
  The state that is worked on: marks are cleared, tests end, pages leave, pages are put at the head, the hot hand steps.
-/
import Derived.Test.YtejcahkkpednfaaG12
import Derived.Test.YtejcahkkpednfaaG07
import Derived.RegionTactic
import Derived.ChangeAlike
import Derived.BigRegion
namespace Go.Proofs.Ytejcahkkpednfaa
open Go.RowKit
open Go.Proofs.StackM (Pg Cf Ct St up many fnd fnd_at fnd_no)
open Go.Proofs.WheelM
set_option linter.unusedVariables false
section
variable {lo B c : Nat} {w : World} {s : St} {r : R3} {A : Option Addr} {ev : List Int}
theorem WK.ct17 (h : WK lo w B s r A c ev) (n : Int) : WK lo (w.setCell ⟨B, 17, none⟩ (.int .u64 n)) B { s with ct := { s.ct with cl := n } } r A c ev := h.numTo 17 _ _ rfl rfl rfl rfl
theorem WK.ct18 (h : WK lo w B s r A c ev) (n : Int) : WK lo (w.setCell ⟨B, 18, none⟩ (.int .u64 n)) B { s with ct := { s.ct with en := n } } r A c ev := h.numTo 18 _ _ rfl rfl rfl rfl
theorem WK.ct19 (h : WK lo w B s r A c ev) (n : Int) : WK lo (w.setCell ⟨B, 19, none⟩ (.int .u64 n)) B { s with ct := { s.ct with st := n } } r A c ev := h.numTo 19 _ _ rfl rfl rfl rfl
theorem WK.tgTo (h : WK lo w B s r A c ev) (n : Int) : WK lo (w.setCell ⟨B, 4, none⟩ (.int .i64 n)) B { s with tg := n } r A c ev := h.numTo 4 _ _ rfl rfl rfl rfl
theorem WK.coTo (h : WK lo w B s r A c ev) (n : Int) : WK lo (w.setCell ⟨B, 8, none⟩ (.int .i64 n)) B { s with co := n } r A c ev := h.numTo 8 _ _ rfl rfl rfl rfl
theorem WK.teTo (h : WK lo w B s r A c ev) (n : Int) : WK lo (w.setCell ⟨B, 9, none⟩ (.int .i64 n)) B { s with te := n } r A c ev := h.numTo 9 _ _ rfl rfl rfl rfl
theorem WK.set1 (h : WK lo w B s r A c ev) (k : Nat) (v : Value) : Below lo w (w.setCell ⟨B, k, none⟩ v) := below_setCell (Below.refl _ _) h.hlo
theorem WP.drew {w' : World} (h : WP lo w B s ev w') : WP lo w B s ev w'.drew := by
  obtain ⟨r, A, c, h1, h2⟩ := h
  have hb : Below w'.heap.size w' w'.drew := below_drew (Below.refl _ _) 1
  exact ⟨r, A, c, h1.kept hb, h2.trans (hb.mono h1.low)⟩
theorem lowT_at (h : WK lo w B s r A c ev) (h1 : 1 ≤ s.tg) (h2 : s.tg ≤ 1000) : Calls Try.prog 89 #[.pointer (some ⟨B, 0, none⟩)] w fun e w' => e = .returned (.tuple #[]) ∧ WP lo w B (falls s) ev w' := by
  have d4 := h.at4
  have f4 := h.free 4
  obtain ⟨t, ht⟩ : ∃ t, t = s.tg := ⟨_, rfl⟩
  rw [← ht] at d4 h1 h2
  by_cases hg : 1 < t
  · have e : falls s = { s with tg := t - 1 } := by unfold falls; rw [← ht, if_pos hg]
    have H := Lib.hid ((h.tgTo (t - 1)).to (h.set1 _ _))
    have H2 := Lib.hid e
    clear h ht e
    go_enter Try.func89, Try.ntmps89
    go_wp2
    go_end0
    exact ⟨rfl, by rw [H2.out]; exact H.out⟩
  · have e : falls s = { s with tg := 1 } := by unfold falls; rw [← ht, if_neg hg]; obtain rfl : t = 1 := by omega
                                                rw [ht]
    have H := Lib.hid ((h.tgTo 1).to (h.set1 _ _))
    have H2 := Lib.hid e
    clear h ht e
    obtain rfl : t = 1 := by omega
    go_enter Try.func89, Try.ntmps89
    go_wp2
    go_end0
    exact ⟨rfl, by rw [H2.out]; exact H.out⟩
theorem But.drew {X : Nat → Prop} {w w' : World} (h : But X w w') : But X w w'.drew := ⟨h.os, h.tape, h.output, h.size, h.block⟩
set_option maxHeartbeats 1000000 in
theorem raiT_fr (h : WK lo w B s r A c ev) (h1 : 1 ≤ s.tg) (h2 : s.tg ≤ s.cf.c - 1) (h3 : s.cf.c ≤ 1000) : Calls Try.prog 37 #[.pointer (some ⟨B, 0, none⟩)] w fun e w' => e = .returned (.tuple #[]) ∧ WP lo w B (rises s) ev w' ∧ But (fun k => k = B) w w' := by
  have d4 := h.at4
  have f4 := h.free 4
  have d1 := h.at1
  obtain ⟨t, ht⟩ : ∃ t, t = s.tg := ⟨_, rfl⟩
  obtain ⟨m, hm⟩ : ∃ m, m = s.cf.c := ⟨_, rfl⟩
  rw [← ht] at d4 h1 h2
  rw [← hm] at d1 h2 h3
  by_cases hg : t < m - 1
  · have e : rises s = { s with tg := t + 1 } := by unfold rises; rw [← ht, ← hm, if_pos hg]
    have HB : Hid (∀ n, But (fun k => k = B) w (w.setCell ⟨B, 4, none⟩ (.int .i64 n))) := Lib.hid (fun n => But.of_set w B 4 _ rfl)
    have H := Lib.hid ((h.tgTo (t + 1)).to (h.set1 _ _))
    have H2 := Lib.hid e
    clear h ht hm e
    go_enter Try.func37, Try.ntmps37
    go_wp2_with fail
    go_region
    all_goals (go_wp2_with fail)
    all_goals go_end0
    all_goals exact ⟨rfl, by rw [H2.out]; exact H.out.drew, (HB.out _).drew⟩
  · have e : rises s = { s with tg := t } := by unfold rises; rw [← ht, ← hm, if_neg hg, ht]
    have HB : Hid (∀ n, But (fun k => k = B) w (w.setCell ⟨B, 4, none⟩ (.int .i64 n))) := Lib.hid (fun n => But.of_set w B 4 _ rfl)
    have H := Lib.hid ((h.tgTo t).to (h.set1 _ _))
    have H2 := Lib.hid e
    obtain rfl : t = m - 1 := by omega
    clear h ht hm e
    go_enter Try.func37, Try.ntmps37
    go_wp2_with fail
    go_region
    all_goals (go_wp2_with fail)
    all_goals go_end0
    all_goals exact ⟨rfl, by rw [H2.out]; exact H.out.drew, (HB.out _).drew⟩
theorem raiT_at (h : WK lo w B s r A c ev) (h1 : 1 ≤ s.tg) (h2 : s.tg ≤ s.cf.c - 1) (h3 : s.cf.c ≤ 1000) : Calls Try.prog 37 #[.pointer (some ⟨B, 0, none⟩)] w fun e w' => e = .returned (.tuple #[]) ∧ WP lo w B (rises s) ev w' :=
  (raiT_fr h h1 h2 h3).mono fun e w' ⟨a, b, _⟩ => ⟨a, b⟩
/-- a step on, around the ring -/
theorem pnext_at (h : WK lo w B s r A c ev) (a : Int) (ha : 0 ≤ a ∧ a ≤ 1000) (hn : 0 < s.pg.length ∧ s.pg.length ≤ 1000) : Calls Try.prog 79 #[.pointer (some ⟨B, 0, none⟩), .int .i64 a] w fun e w' => e = .returned (.int .i64 (onw a s.pg.length)) ∧ w' = w := by
  have d5 := h.at5
  obtain ⟨n, hn'⟩ : ∃ n, n = s.pg.length := ⟨_, rfl⟩
  rw [← hn'] at d5 hn ⊢
  obtain ⟨a1, a2⟩ := ha
  have n1 : (0 : Int) < (n : Int) := by omega
  have n2 : (n : Int) ≤ 1000 := by omega
  have hz : onw a n = (a + 1).tmod n := (tmod_pos (by omega)).symm
  rw [hz]
  have t1 : 0 ≤ (a + 1).tmod n := by rw [tmod_pos (by omega)]; exact Int.emod_nonneg _ (by omega)
  have t2 : (a + 1).tmod n < n := by rw [tmod_pos (by omega)]; exact Int.emod_lt_of_pos _ n1
  clear hz hn hn' h
  go_enter Try.func79, Try.ntmps79
  go_wp2
  go_ret
  refine ⟨?_, by trivial⟩
  have h9 := tmod_pos (a := a + 1) (n := n) (by omega)
  first | rfl | (rw [h9]; rfl) | simp [h9]
/-- where a hand is when the page of a place has left; n are left -/
theorem phand_at (h : WK lo w B s r A c ev) (a i m : Int) (hm : m = s.pg.length + 1) (hm2 : m ≤ 1000) (ha : Hd a m) (hi : 0 ≤ i ∧ i < m) : Calls Try.prog 59 #[.pointer (some ⟨B, 0, none⟩), .int .i64 a, .int .i64 i] w fun e w' => e = .returned (.int .i64 (behind a i m)) ∧ w' = w := by
  have d5 := h.at5
  obtain ⟨n, hn'⟩ : ∃ n, n = s.pg.length := ⟨_, rfl⟩
  rw [← hn'] at d5 hm
  obtain ⟨i1, i2⟩ := hi
  obtain ⟨a1, a2⟩ := ha
  have a3 : a ≤ n := by omega
  have n1 : (0 : Int) ≤ (n : Int) := by omega
  have n2 : (n : Int) ≤ 1000 := by omega
  obtain ⟨z, hz⟩ : ∃ z, z = behind a i m := ⟨_, rfl⟩
  rw [← hz]
  unfold behind at hz
  clear hn' h a2
  by_cases h1 : i < a
  · rw [if_pos h1, if_neg (by omega)] at hz
    subst hz
    clear hm hm2 i2
    go_enter Try.func59, Try.ntmps59
    go_wp2
    go_ret
    exact ⟨rfl, by trivial⟩
  · rw [if_neg h1] at hz
    by_cases h2 : a = (n : Int)
    · rw [if_pos (by omega)] at hz
      subst hz
      subst h2
      clear hm hm2 i2
      go_enter Try.func59, Try.ntmps59
      go_wp2
      go_ret
      exact ⟨rfl, by trivial⟩
    · rw [if_neg (by omega)] at hz
      rw [hz]
      clear hm hm2 i2 hz
      have h3 : (a == (n : Int)) = false := by simpa using h2
      go_enter Try.func59, Try.ntmps59
      go_wp2
      go_ret
      exact ⟨rfl, by trivial⟩
/-- a page of the row -/
theorem WK.page (h : WK lo w B s r A c ev) {i : Nat} (hi : i < s.pg.length) : ∃ g, r.a1 = some ⟨g, 0, none⟩ ∧ s.pg.length ≤ r.c1 ∧ w.cell? ⟨g, i * 4, none⟩ = some (.int .u64 s.pg[i].key) ∧ w.cell? ⟨g, i * 4 + 1, none⟩ = some (.int .i64 s.pg[i].kind) ∧ w.cell? ⟨g, i * 4 + 2, none⟩ = some (.bool s.pg[i].test) ∧ w.cell? ⟨g, i * 4 + 3, none⟩ = some (.bool s.pg[i].mark) ∧ ∀ k, w.frozen? ⟨g, k, none⟩ = false := by
  obtain ⟨g, c0, e⟩ := owns_some h.rows.pg (by omega)
  injection e with e1 _ e3
  obtain ⟨p0, p1, p2, p3⟩ := pvals_at s.pg i hi
  have ho := h.rows.pg
  rw [e1] at ho
  have q0 := ho.cellAt (i * 4) (by omega)
  have q1 := ho.cellAt (i * 4 + 1) (by omega)
  have q2 := ho.cellAt (i * 4 + 2) (by omega)
  have q3 := ho.cellAt (i * 4 + 3) (by omega)
  rw [p0] at q0
  rw [p1] at q1
  rw [p2] at q2
  rw [p3] at q3
  exact ⟨g, e1, owns_cap ho, q0, q1, q2, q3, fun k => ho.frozenAt k⟩
theorem pvals_cell (l : List Pg) (i j : Nat) (hi : i < l.length) (hj : j < 4) (v : Value) (y : Pg) (h : (penc l[i]).set j v = penc y) : (pvals l).set (i * 4 + j) v = pvals (l.set i y) := by
  rw [pvals_setK l i hi y, ← h]
  have e : pvals l = (pvals l).take (i * 4) ++ penc l[i] ++ (pvals l).drop ((i + 1) * 4) := by
    have := pvals_setK l i hi l[i]
    rwa [List.set_getElem_self] at this
  have hl : ((pvals l).take (i * 4)).length = i * 4 := by rw [List.length_take, pvals_len]; have : i * 4 ≤ l.length * 4 := Nat.mul_le_mul_right _ (by omega); omega
  generalize (pvals l).take (i * 4) = T at *
  generalize (pvals l).drop ((i + 1) * 4) = D at *
  rw [e, List.append_assoc, List.set_append_right _ _ (by rw [hl]; omega), hl, Nat.add_sub_cancel_left, List.set_append_left _ _ (by show j < 4; exact hj), ← List.append_assoc]
/-- one cell of one page is set -/
theorem WK.pageSet (h : WK lo w B s r A c ev) {g i j : Nat} (hi : i < s.pg.length) (ha : r.a1 = some ⟨g, 0, none⟩) (hj : j < 4) (v : Value) (y : Pg) (hy : (penc s.pg[i]).set j v = penc y) :
    WK lo (w.setCell ⟨g, i * 4 + j, none⟩ v) B { s with pg := s.pg.set i y } r A c ev ∧ Below lo w (w.setCell ⟨g, i * 4 + j, none⟩ v) := by
  have ho := h.rows.pg
  rw [ha] at ho
  have h1 := (ho.stored (i * 4 + j) v).1
  rw [pvals_cell s.pg i j hi hj v y hy] at h1
  have hg : w.grownBy (w.setCell ⟨g, i * 4 + j, none⟩ v) (ob r.a1) := by rw [ha]; exact grown_setCell w g _ v
  refine ⟨h.pgSame (l := s.pg.set i y) hg ?_ (by rw [List.length_set]), grown_lo h.rows.pg hg h.low⟩
  rw [List.length_set, ha]
  exact h1
end
end Go.Proofs.Ytejcahkkpednfaa
namespace Go.Proofs.Ytejcahkkpednfaa
open Go.RowKit
open Go.Proofs.StackM (Pg Cf Ct St up many fnd fnd_at fnd_no)
open Go.Proofs.WheelM
set_option linter.unusedVariables false
section
variable {lo B c : Nat} {w : World} {s : St} {r : R3} {A : Option Addr} {ev : List Int}
set_option maxHeartbeats 1000000 in
theorem clearM_at (h : WK lo w B s r A c ev) (i : Nat) (p : Pg) (hp : s.pg[i]? = some p) (hl : s.pg.length ≤ 1000) : Calls Try.prog 76 #[.pointer (some ⟨B, 0, none⟩), .int .i64 (i : Int)] w fun e w' => e = .returned (.tuple #[]) ∧ WP lo w B { s with pg := s.pg.set i { p with mark := false }, ct := { s.ct with cl := up s.ct.cl } } ev w' := by
  obtain ⟨hi, hpi⟩ := List.getElem?_eq_some_iff.1 hp
  obtain ⟨g, ha, hcap, q0, q1, q2, q3, fz⟩ := h.page hi
  have d5 := h.at5
  rw [ha] at d5
  have f3 := fz (i * 4 + 3)
  obtain ⟨ps, pb⟩ := h.pageSet hi ha (j := 3) (by omega) (.bool false) { p with mark := false } (by rw [hpi]; rfl)
  have d17 := ps.at17
  have f17 := ps.free 17
  have H := Lib.hid ((ps.ct17 (up s.ct.cl)).to (pb.trans (ps.set1 17 (.int .u64 (up s.ct.cl)))))
  have hup := wrap_up s.ct.cl
  obtain ⟨n, hn⟩ : ∃ n, n = s.pg.length := ⟨_, rfl⟩
  rw [← hn] at d5 hi
  dsimp only at d17
  have z0 : (0 : Int) ≤ (i : Int) := by omega
  have z1 : (i : Int) < (n : Int) := by omega
  generalize s.pg[i].mark = old at q3
  clear hn hl h ps pb fz hcap q0 q1 q2 hpi hp
  go_enter Try.func76, Try.ntmps76
  go_wp2_with fail
  go_end0
  exact ⟨rfl, H.out⟩
set_option maxHeartbeats 1000000 in
theorem endT_at (h : WK lo w B s r A c ev) (i : Nat) (p : Pg) (hp : s.pg[i]? = some p) (hl : s.pg.length ≤ 1000) (h1 : 1 ≤ s.tg) (h2 : s.tg ≤ 1000) : Calls Try.prog 77 #[.pointer (some ⟨B, 0, none⟩), .int .i64 (i : Int)] w fun e w' => e = .returned (.tuple #[]) ∧ WP lo w B (falls { s with pg := s.pg.set i { p with test := false }, ct := { s.ct with en := up s.ct.en } }) ev w' := by
  obtain ⟨hi, hpi⟩ := List.getElem?_eq_some_iff.1 hp
  obtain ⟨g, ha, hcap, q0, q1, q2, q3, fz⟩ := h.page hi
  have d5 := h.at5
  rw [ha] at d5
  have f3 := fz (i * 4 + 2)
  obtain ⟨ps, pb⟩ := h.pageSet hi ha (j := 2) (by omega) (.bool false) { p with test := false } (by rw [hpi]; rfl)
  have d18 := ps.at18
  have f18 := ps.free 18
  have hx := ps.ct18 (up s.ct.en)
  have H := Lib.hid (And.intro hx (pb.trans (ps.set1 18 (.int .u64 (up s.ct.en)))))
  have C := Lib.hid (lowT_at hx h1 h2)
  have hup := wrap_up s.ct.en
  obtain ⟨n, hn⟩ : ∃ n, n = s.pg.length := ⟨_, rfl⟩
  rw [← hn] at d5 hi
  dsimp only at d18
  have z0 : (0 : Int) ≤ (i : Int) := by omega
  have z1 : (i : Int) < (n : Int) := by omega
  generalize s.pg[i].test = old at q2
  clear hn hl h ps pb fz hcap q0 q1 q3 hpi hp hx h1 h2
  go_enter Try.func77, Try.ntmps77
  go_wp2_with fail
  refine C.out.mono ?_
  rintro e w2 ⟨rfl, h2⟩
  have H2 := Lib.hid (WP.trans H.out.2 h2)
  clear h2
  go_wp2_with fail
  go_end0
  exact ⟨rfl, H2.out⟩
set_option maxHeartbeats 1000000 in
/-- a page leaves -/
theorem pleave_fr (h : WK lo w B s r A c ev) (i : Nat) (hi : i < s.pg.length) (hl : s.pg.length ≤ 1000) (hc : Hd s.co s.pg.length) (ht : Hd s.te s.pg.length) : Calls Try.prog 36 #[.pointer (some ⟨B, 0, none⟩), .int .i64 (i : Int)] w fun e w' => e = .returned (.tuple #[]) ∧ WK lo w' B (leave s i) r A c ev ∧ Below lo w w' ∧ But (fun k => k = B ∨ some k = ob r.a1) w w' := by
  obtain ⟨g, ha, hcap, q0, q1, q2, q3, fz⟩ := h.page hi
  have d5 := h.at5
  rw [ha] at d5
  have ho : GRw w lo (.slice (some ⟨g, 0, none⟩) s.pg.length r.c1) s.pg := by have := h.rows.pg; rw [ha] at this; exact this
  have C1 := delete_at ho i hi (by omega)
  obtain ⟨m, hm⟩ : ∃ m, m = s.pg.length - 1 := ⟨_, rfl⟩
  have hlen : m = (s.pg.eraseIdx i).length := by rw [List.length_eraseIdx_of_lt hi, hm]
  rw [← hm] at C1
  have C := Lib.hid C1
  have HLN := Lib.hid hlen
  have HM : Hid (m + 1 = s.pg.length) := Lib.hid (by omega)
  clear C1 hm hlen
  have H := Lib.hid (And.intro h (And.intro ha (And.intro hc (And.intro ht (And.intro hi hl)))))
  have hw1 : IntKind.i64.wrap ((i : Int) + 1) = (i : Int) + 1 := by rw [IntKind.wrap_i64]; omega
  clear h ho q0 q1 q2 q3 fz hc ht hcap
  go_enter Try.func36, Try.ntmps36
  go_wp2_with fail
  refine C.out.mono ?_
  rintro e w2 ⟨rfl, ho2, hg2⟩
  have hgr : w.grownBy w2 (ob r.a1) := by rw [H.out.2.1]; exact hg2
  have hx := H.out.1.pgTo (l := s.pg.eraseIdx i) (A' := some ⟨g, 0, none⟩) (c' := r.c1) (n := m) hgr (by unfold GRw at ho2; rw [← HLN.out] at ho2 ⊢; exact ho2) HLN.out
  have hbx := box_grown H.out.1.box H.out.1.rows.pg (by decide) hgr
  have e5 : w2.cell? ⟨B, 5, none⟩ = some (.slice r.a1 s.pg.length r.c1) := by rw [cell_of_head hbx]; rfl
  have f5 : w2.frozen? ⟨B, 5, none⟩ = false := frozen_of_head hbx 5
  have hb2 : Below lo w (w2.setCell ⟨B, 5, none⟩ (.slice (some ⟨g, 0, none⟩) m r.c1)) := below_setCell (grown_lo H.out.1.rows.pg hgr H.out.1.low) H.out.1.hlo
  have hbut : But (fun k => k = B ∨ some k = ob r.a1) w (w2.setCell ⟨B, 5, none⟩ (.slice (some ⟨g, 0, none⟩) m r.c1)) := (But.of_grown hgr (fun k e => .inr e.symm)).trans (But.of_set _ B 5 _ (.inl rfl))
  have HX := Lib.hid (And.intro hx hb2)
  have HBT := Lib.hid hbut
  clear ho2 hg2 hgr hbx
  have d8 := hx.at8
  dsimp only at d8
  clear hx hb2 hbut
  go_wp2_with fail
  refine (phand_at HX.out.1 s.co i s.pg.length (by show (s.pg.length : Int) = ((s.pg.eraseIdx i).length : Nat) + 1; have := HM.out; have := HLN.out; omega) (by have := H.out.2.2.2.2.2; omega) H.out.2.2.1 ⟨by omega, by have := H.out.2.2.2.2.1; omega⟩).mono ?_
  rintro e w3 ⟨rfl, h3⟩
  subst h3
  have f8 := HX.out.1.free 8
  have hx2 := HX.out.1.coTo (behind s.co i s.pg.length)
  have HX2 := Lib.hid (And.intro hx2 (below_setCell (k := 8) (v := .int .i64 (behind s.co i s.pg.length)) HX.out.2 HX.out.1.hlo))
  have d9 := hx2.at9
  dsimp only at d9
  clear hx2 d5
  go_wp2_with fail
  refine (phand_at HX2.out.1 s.te i s.pg.length (by show (s.pg.length : Int) = ((s.pg.eraseIdx i).length : Nat) + 1; have := HM.out; have := HLN.out; omega) (by have := H.out.2.2.2.2.2; omega) H.out.2.2.2.1 ⟨by omega, by have := H.out.2.2.2.2.1; omega⟩).mono ?_
  rintro e w3 ⟨rfl, h3⟩
  subst h3
  have f9 := HX2.out.1.free 9
  have HX3 := Lib.hid (And.intro (HX2.out.1.teTo (behind s.te i s.pg.length)) (below_setCell (k := 9) (v := .int .i64 (behind s.te i s.pg.length)) HX2.out.2 HX2.out.1.hlo))
  go_wp2_with fail
  go_end0
  have hr3 : ({ r with a1 := some ⟨g, 0, none⟩, c1 := r.c1 } : R3) = r := by rw [← H.out.2.1]
  exact ⟨rfl, by have h9 := HX3.out.1; rw [hr3] at h9; exact h9, HX3.out.2, (HBT.out.trans (But.of_set _ B 8 _ (.inl rfl))).trans (But.of_set _ B 9 _ (.inl rfl))⟩
theorem pleave_at (h : WK lo w B s r A c ev) (i : Nat) (hi : i < s.pg.length) (hl : s.pg.length ≤ 1000) (hc : Hd s.co s.pg.length) (ht : Hd s.te s.pg.length) : Calls Try.prog 36 #[.pointer (some ⟨B, 0, none⟩), .int .i64 (i : Int)] w fun e w' => e = .returned (.tuple #[]) ∧ WP lo w B (leave s i) ev w' :=
  (pleave_fr h i hi hl hc ht).mono fun e w' ⟨a, b, b2, _⟩ => ⟨a, b.to b2⟩
set_option maxHeartbeats 1000000 in
theorem forget_at (h : WK lo w B s r A c ev) (i : Nat) (hi : i < s.pg.length) (hl : s.pg.length ≤ 1000) (hc : Hd s.co s.pg.length) (ht : Hd s.te s.pg.length) (h1 : 1 ≤ s.tg) (h2 : s.tg ≤ 1000) : Calls Try.prog 75 #[.pointer (some ⟨B, 0, none⟩), .int .i64 (i : Int)] w fun e w' => e = .returned (.tuple #[]) ∧ WP lo w B (falls { leave s i with ct := { s.ct with fo := up s.ct.fo } }) ev w' := by
  have C := Lib.hid (pleave_at h i hi hl hc ht)
  have HT := Lib.hid (And.intro h1 h2)
  clear h hi hl hc ht h1 h2
  go_enter Try.func75, Try.ntmps75
  go_wp2_with fail
  refine C.out.mono ?_
  rintro e w2 ⟨rfl, r2, A2, c2, h2, hb2⟩
  have d16 := h2.at16
  have f16 := h2.free 16
  have hup := wrap_up s.ct.fo
  have hct : (leave s i).ct = s.ct := rfl
  rw [hct] at d16
  have hx := h2.ct16 (up s.ct.fo)
  have C2 := Lib.hid (lowT_at hx HT.out.1 HT.out.2)
  have H := Lib.hid (hb2.trans (h2.set1 16 (.int .u64 (up s.ct.fo))))
  clear h2 hb2 hct hx
  go_wp2_with fail
  refine C2.out.mono ?_
  rintro e w3 ⟨rfl, h3⟩
  have H3 := Lib.hid (WP.trans H.out h3)
  clear h3
  go_wp2_with fail
  go_end0
  exact ⟨rfl, H3.out⟩
end
end Go.Proofs.Ytejcahkkpednfaa
