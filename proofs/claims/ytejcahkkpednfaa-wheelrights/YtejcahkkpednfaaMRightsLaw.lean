/-
  Law WheelRights: the walk.
-/
import Derived.Test.YtejcahkkpednfaaG27
namespace Go.Proofs.Ytejcahkkpednfaa
open Go.RowKit
open Go.Proofs.StackM (Pg Cf Ct St up many fnd fnd_at fnd_no)
open Go.Proofs.WheelM
set_option linter.unusedVariables false
/-- the frame: the state's box, the config's -/
structure RL (w : World) (s : St) (r : R3) (c : Cf) (w1 : World) : Prop where
  st : Box w1 w.heap.size (sA s r)
  cf : CB w1 (w.heap.size + 1) c
  rows : SR w1 s r
  bel : Below w.heap.size w w1
  lt : w.heap.size + 1 < w1.heap.size
theorem RL.keep {w w1 w2 : World} {s : St} {r : R3} {c : Cf} (x : RL w s r c w1) (hb : Below w1.heap.size w1 w2) : RL w s r c w2 :=
  ⟨x.st.kept hb (by have := x.lt; omega), x.cf.kept hb x.lt, x.rows.kept hb, x.bel.trans (hb.mono x.bel.size), by have := x.lt; have := hb.size; omega⟩
theorem RL.start {w : World} {s : St} {r : R3} (c : Cf) (hr : SR w s r) : RL w s r c ((w.alloc (.cells (sA s r) 31)).alloc (.cells (cA c) 24)) := by
  have b1 := alloc_below w (.cells (sA s r) 31)
  have b2 := alloc_below (w.alloc (.cells (sA s r) 31)) (.cells (cA c) 24)
  refine ⟨(box_alloc w (sA s r) (sA_len _ _)).kept b2 (by simp), ?_, (hr.kept b1).kept b2, b1.trans (b2.mono b1.size), by simp⟩
  unfold CB
  have := heap_alloc_new (w.alloc (.cells (sA s r) 31)) (.cells (cA c) 24)
  simpa using this
set_option maxHeartbeats 2000000 in
set_option maxRecDepth 100000 in
theorem wheelRights_law (s : St) (r : R3) (c : Cf) (hk : Kw s) (w : World) (hr : SR w s r) : Calls Try.prog 4 #[sV s r, cV c] w fun e w' => e = .returned (.bool true) ∧ Below w.heap.size w w' := by
  obtain ⟨w1, hw1⟩ : ∃ w1, w1 = (w.alloc (.cells (sA s r) 31)).alloc (.cells (cA c) 24) := ⟨_, rfl⟩
  have x1 := RL.start c hr
  rw [← hw1] at x1
  have hA : (w.alloc (.cells (sA s r) 31)).alloc (.cells #[.int .i64 c.p, .int .i64 c.c, .int .i64 c.q, .int .i64 c.g] 24) = w1 := hw1.symm
  have HA := Lib.hid hA
  have H1 := Lib.hid x1
  have HK := Lib.hid hk
  clear hw1 x1 hA hr hk
  go_enter Try.func4, Try.ntmps4
  go_wp2_with (first | fail | (rw [HA.out]; refine ld31 rfl (.tmp 2) rfl _ rfl _ H1.out.st ?_))
  refine Calls.mono (small_at s r 60 (by omega) w1) ?_
  rintro e w2 ⟨rfl, hb2⟩
  have H2 := Lib.hid (H1.out.keep hb2)
  clear hb2 H1 HA
  by_cases hl : Lim s 60
  case neg =>
    rw [decide_eq_false hl]
    go_wp2_with fail
    refine Calls.mono (alive_at w2) ?_
    rintro e w3 ⟨rfl, hb3⟩
    have H3 := Lib.hid (H2.out.keep hb3)
    clear hb3 H2
    go_wp2_with fail
    go_ret
    exact ⟨rfl, H3.out.bel⟩
  case pos =>
    rw [decide_eq_true hl]
    have HL := Lib.hid hl
    clear hl
    go_wp2_with (first | fail | refine CB.load rfl (.tmp 3) rfl _ rfl c H2.out.cf ?_)
    refine Calls.mono (pnew_at c w2) ?_
    rintro e w3 ⟨⟨r3, rfl, hr3, hf3⟩, hb3⟩
    obtain ⟨z, hz⟩ : ∃ z, z = if Cl c then newW c else S0 := ⟨_, rfl⟩
    obtain ⟨n, hn⟩ : ∃ n : Int, n = if Cl c then 0 else 2 := ⟨_, rfl⟩
    rw [← hz] at hr3
    rw [← hz, ← hn]
    obtain ⟨w4, hw4⟩ : ∃ w4, w4 = w3.alloc (.cells (sA z r3) 31) := ⟨_, rfl⟩
    obtain ⟨b4, hb4⟩ : ∃ b, b = w3.heap.size := ⟨_, rfl⟩
    have x3 := H2.out.keep hb3
    have H4 : Hid (RL w s r c w4 ∧ Box w4 b4 (sA z r3) ∧ SR w4 z r3) := Lib.hid (by
      rw [hw4, hb4]
      exact ⟨x3.keep (alloc_below _ _), box_alloc w3 (sA z r3) (sA_len _ _), hr3.kept (alloc_below _ _)⟩)
    have HW4 := Lib.hid (And.intro hw4 hb4)
    have HZ := Lib.hid (And.intro hz hn)
    clear hz hn hw4 hb4 x3 hr3 hf3 hb3 H2
    go_wp2_with (first | fail | (refine st31n rfl (.tmp 5) (.tmp 14) rfl z r3 rfl rfl _ rfl ?_; rw [← HW4.out.1, ← HW4.out.2]))
    clear HW4
    have KB : Hid (∀ V, Below w4.heap.size w4 V → RL w s r c V ∧ Box V b4 (sA z r3) ∧ SR V z r3) := Lib.hid (fun V hV => ⟨H4.out.1.keep hV, H4.out.2.1.kept hV H4.out.2.1.lt, H4.out.2.2.kept hV⟩)
    have QC : Hid (∀ V, (∃ p : GrB w4, V = p.v) → CB V (w.heap.size + 1) c) := Lib.hid (fun V ⟨p, hp⟩ => by rw [hp]; exact (KB.out _ p.h).1.cf)
    have QB : Hid (∀ V, (∃ p : GrB w4, V = p.v) → Box V b4 (sA z r3)) := Lib.hid (fun V ⟨p, hp⟩ => by rw [hp]; exact (KB.out _ p.h).2.1)
    by_cases hc : Cl c
    · have e1 : z = newW c := by rw [HZ.out.1, if_pos hc]
      have e2 : n = 0 := by rw [HZ.out.2, if_pos hc]
      subst e1 e2
      have D20 : Hid (∀ W : GrB w4, Calls Try.prog 20 #[cV c] W.v fun e w' => e = .returned (.bool true) ∧ ∃ W' : GrB w4, w' = W'.v) := Lib.hid (grown_call (w := w4) fun V hV => lawMay_cl c true ⟨fun _ => hc, fun _ => rfl⟩ V)
      have D21 : Hid (∀ W : GrB w4, Calls Try.prog 21 #[cV c] W.v fun e w' => e = .returned (sV (newW c) R0) ∧ ∃ W' : GrB w4, w' = W'.v) := Lib.hid (grown_call (w := w4) fun V hV => new_at0 c V)
      have D15 : Hid (∀ W : GrB w4, Calls Try.prog 15 #[sV (newW c) r3, sV (newW c) R0] W.v fun e w' => e = .returned (.bool true) ∧ ∃ W' : GrB w4, w' = W'.v) := Lib.hid (grown_call (w := w4) fun V hV => state_same (newW c) r3 R0 (lim_new c) V (KB.out V hV).2.2 ⟨(sr_zero V).pg, (sr_zero V).qu, (sr_zero V).gh⟩)
      have D22 : Hid (∀ W : GrB w4, Calls Try.prog 22 #[sV (newW c) r3] W.v fun e w' => e = .returned (.bool true) ∧ ∃ W' : GrB w4, w' = W'.v) := Lib.hid (grown_call (w := w4) fun V hV => right_yes (newW c) r3 (new_rg hc) (lim_new c) (kw_new c) V (KB.out V hV).2.2)
      clear HZ hc
      go_wp2_with fail
      refine region_grown (by kernel_rfl) (by kernel_rfl) ?_
      repeat (first | go_big_quiet_skip | (refine qld24 (.tmp 3) rfl (by kernel_rfl) _ rfl c QC.out ?_; simp only [Act.put, List.setIfInBounds_toArray, List.set_cons_succ, List.set_cons_zero]) | (refine qld31q (.tmp 5) rfl (by kernel_rfl) _ rfl _ QB.out ?_; simp only [Act.put, List.setIfInBounds_toArray, List.set_cons_succ, List.set_cons_zero]) | (refine qbld31z rfl (by kernel_rfl) ?_; simp only [Act.put, List.setIfInBounds_toArray, List.set_cons_succ, List.set_cons_zero]) | go_big_quiet_step (first | (go_at_call 20; exact D20.out _) | (go_at_call 21; exact D21.out _) | (go_at_call 15; exact D15.out _) | (go_at_call 22; exact D22.out _)))
      refine wpQuiet_nil ?_
      rintro w5 ⟨⟨wz, hg5⟩, rfl⟩
      have H5 := Lib.hid (KB.out _ hg5).1
      clear hg5 KB QC QB H4 D20 D21 D15 D22
      have QS : Hid (∀ V, (∃ p : GrB w5, V = p.v) → Box V w.heap.size (sA s r)) := Lib.hid (fun V ⟨p, hp⟩ => by rw [hp]; exact (H5.out.keep p.h).st)
      obtain ⟨b, hb⟩ : ∃ b, b = rBW s := ⟨_, rfl⟩
      have E22 : Hid (∀ W : GrB w5, Calls Try.prog 22 #[sV s r] W.v fun e w' => e = .returned (.bool b) ∧ ∃ W' : GrB w5, w' = W'.v) := Lib.hid (grown_call (w := w5) fun V hV => (right_any s r (HL.out.up (by omega)) HK.out V (H5.out.keep hV).rows).mono fun e w' ⟨⟨b', h1, h2⟩, h3⟩ => ⟨by
        rw [h1]
        have : b' = b := by
          rw [hb]
          exact Bool.eq_iff_iff.2 (h2.trans ((rt_rg s).symm.trans rBW_iff.symm))
        rw [this], h3⟩)
      have E10 : Hid (∀ W : GrB w5, Calls Try.prog 10 #[sV s r] W.v fun e w' => e = .returned (.bool b) ∧ ∃ W' : GrB w5, w' = W'.v) := Lib.hid (grown_call (w := w5) fun V hV => (right_at s r (HL.out.up (by omega)) V (H5.out.keep hV).rows).mono fun e w' ⟨h1, h2⟩ => ⟨by rw [h1, hb], h2⟩)
      have E9 : Hid (∀ W : GrB w5, Calls Try.prog 9 #[] W.v fun e w' => e = .returned (.bool true) ∧ ∃ W' : GrB w5, w' = W'.v) := Lib.hid (grown_call (w := w5) fun V hV => alive_at V)
      clear hb
      cases b <;> {
        go_wp2_with fail
        refine region_grown (by kernel_rfl) (by kernel_rfl) ?_
        repeat (first | go_big_quiet_skip | (refine qld31q (.tmp 2) rfl (by kernel_rfl) _ rfl _ QS.out ?_; simp only [Act.put, List.setIfInBounds_toArray, List.set_cons_succ, List.set_cons_zero]) | go_big_quiet_step (first | (go_at_call 22; exact E22.out _) | (go_at_call 10; exact E10.out _) | (go_at_call 9; exact E9.out _)))
        refine wpQuiet_nil ?_
        rintro w6 ⟨⟨wz, hg6⟩, rfl⟩
        have H6 := Lib.hid (H5.out.keep hg6)
        clear hg6 QS E22 E10 E9 H5
        go_wp2_with fail
        go_ret
        exact ⟨rfl, H6.out.bel⟩ }
    · have e1 : z = S0 := by rw [HZ.out.1, if_neg hc]
      have e2 : n = 2 := by rw [HZ.out.2, if_neg hc]
      subst e1 e2
      have D20 : Hid (∀ W : GrB w4, Calls Try.prog 20 #[cV c] W.v fun e w' => e = .returned (.bool false) ∧ ∃ W' : GrB w4, w' = W'.v) := Lib.hid (grown_call (w := w4) fun V hV => lawMay_cl c false ⟨(fun h => nomatch h), fun h => (hc h).elim⟩ V)
      have D15 : Hid (∀ W : GrB w4, Calls Try.prog 15 #[sV S0 r3, sV S0 R0] W.v fun e w' => e = .returned (.bool true) ∧ ∃ W' : GrB w4, w' = W'.v) := Lib.hid (grown_call (w := w4) fun V hV => state_same S0 r3 R0 lim_zero V (KB.out V hV).2.2 (sr_zero V))
      clear HZ hc
      go_wp2_with fail
      refine region_grown (by kernel_rfl) (by kernel_rfl) ?_
      repeat (first | go_big_quiet_skip | (refine qld24 (.tmp 3) rfl (by kernel_rfl) _ rfl c QC.out ?_; simp only [Act.put, List.setIfInBounds_toArray, List.set_cons_succ, List.set_cons_zero]) | (refine qld31q (.tmp 5) rfl (by kernel_rfl) _ rfl _ QB.out ?_; simp only [Act.put, List.setIfInBounds_toArray, List.set_cons_succ, List.set_cons_zero]) | (refine qbld31z rfl (by kernel_rfl) ?_; simp only [Act.put, List.setIfInBounds_toArray, List.set_cons_succ, List.set_cons_zero]) | go_big_quiet_step (first | (go_at_call 20; exact D20.out _) | (go_at_call 15; exact D15.out _)))
      refine wpQuiet_nil ?_
      rintro w5 ⟨⟨wz, hg5⟩, rfl⟩
      have H5 := Lib.hid (KB.out _ hg5).1
      clear hg5 KB QC QB H4 D20 D15
      have QS : Hid (∀ V, (∃ p : GrB w5, V = p.v) → Box V w.heap.size (sA s r)) := Lib.hid (fun V ⟨p, hp⟩ => by rw [hp]; exact (H5.out.keep p.h).st)
      obtain ⟨b, hb⟩ : ∃ b, b = rBW s := ⟨_, rfl⟩
      have E22 : Hid (∀ W : GrB w5, Calls Try.prog 22 #[sV s r] W.v fun e w' => e = .returned (.bool b) ∧ ∃ W' : GrB w5, w' = W'.v) := Lib.hid (grown_call (w := w5) fun V hV => (right_any s r (HL.out.up (by omega)) HK.out V (H5.out.keep hV).rows).mono fun e w' ⟨⟨b', h1, h2⟩, h3⟩ => ⟨by
        rw [h1]
        have : b' = b := by
          rw [hb]
          exact Bool.eq_iff_iff.2 (h2.trans ((rt_rg s).symm.trans rBW_iff.symm))
        rw [this], h3⟩)
      have E10 : Hid (∀ W : GrB w5, Calls Try.prog 10 #[sV s r] W.v fun e w' => e = .returned (.bool b) ∧ ∃ W' : GrB w5, w' = W'.v) := Lib.hid (grown_call (w := w5) fun V hV => (right_at s r (HL.out.up (by omega)) V (H5.out.keep hV).rows).mono fun e w' ⟨h1, h2⟩ => ⟨by rw [h1, hb], h2⟩)
      have E9 : Hid (∀ W : GrB w5, Calls Try.prog 9 #[] W.v fun e w' => e = .returned (.bool true) ∧ ∃ W' : GrB w5, w' = W'.v) := Lib.hid (grown_call (w := w5) fun V hV => alive_at V)
      clear hb
      cases b <;> {
        go_wp2_with fail
        refine region_grown (by kernel_rfl) (by kernel_rfl) ?_
        repeat (first | go_big_quiet_skip | (refine qld31q (.tmp 2) rfl (by kernel_rfl) _ rfl _ QS.out ?_; simp only [Act.put, List.setIfInBounds_toArray, List.set_cons_succ, List.set_cons_zero]) | go_big_quiet_step (first | (go_at_call 22; exact E22.out _) | (go_at_call 10; exact E10.out _) | (go_at_call 9; exact E9.out _)))
        refine wpQuiet_nil ?_
        rintro w6 ⟨⟨wz, hg6⟩, rfl⟩
        have H6 := Lib.hid (H5.out.keep hg6)
        clear hg6 QS E22 E10 E9 H5
        go_wp2_with fail
        go_ret
        exact ⟨rfl, H6.out.bel⟩ }
end Go.Proofs.Ytejcahkkpednfaa
