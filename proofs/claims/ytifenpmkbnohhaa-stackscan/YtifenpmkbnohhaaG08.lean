/-
  Which states are right: the document's.
  The document's states: two states are the same.
  Which states are right, in two ways: as it is tested, and with the keys told apart: plain.
-/
import Derived.Test.YtifenpmkbnohhaaG07
import Derived.Test.YtifenpmkbnohhaaG06
import Derived.Test.YtifenpmkbnohhaaG04
import Derived.Test.YtifenpmkbnohhaaG02
import Derived.Test.YtifenpmkbnohhaaG01
namespace Go.Proofs.Ytifenpmkbnohhaa
open Go.RowKit
open Go.Proofs.StackM
set_option linter.unusedVariables false
def MbS (s : St) : Prop := Mb s.cf.p s.cf.c s.cf.q s.cf.g
def Rt1 (s : St) : Prop := MbS s ∧ s.cf.p = 1 ∧ s.tg = 0 ∧ s.co = 0 ∧ s.te = 0 ∧ Lim s 768
def Rt2 (s : St) : Prop := OnceP s.pg ∧ OnceU s.qu ∧ OnceU s.gh ∧ PgOk s ∧ s.gh.length = many s.pg 3
def Rt3 (s : St) : Prop := (many s.pg 1 : Int) ≤ s.cf.c - s.cf.q ∧ (many s.pg 1 : Int) + s.qu.length ≤ s.cf.c ∧ (s.gh.length : Int) ≤ s.cf.g
def Rt (s : St) : Prop := Rt1 s ∧ Rt2 s ∧ Rt3 s
open Classical in
noncomputable def rB (s : St) : Bool := decide (Rt s)
theorem rB_false {s : St} (h : ¬ Rt s) : rB s = false := by simp [rB, h]
theorem rB_true {s : St} (h : Rt s) : rB s = true := by simp [rB, h]
theorem rB_iff {s : St} : rB s = true ↔ Rt s := by simp [rB]
set_option maxHeartbeats 2000000 in
set_option maxRecDepth 100000 in
theorem right_pre (s : St) (r : R3) (hno : ¬ Rt1 s) (hl : Lim s 100000) (w : World) (hr : SR w s r) : Calls Try.prog 10 #[sV s r] w fun e w' => e = .returned (.bool (rB s)) ∧ Below w.heap.size w w' := by
  have x := Fr.start1 hr
  have d0 := at0 x.box
  have d1 := at1 x.box
  have d2 := at2 x.box
  have d3 := at3 x.box
  obtain ⟨w1, hw1⟩ : ∃ w1, w1 = w.alloc (.cells (sA s r) 31) := ⟨_, rfl⟩
  rw [← hw1] at x
  obtain ⟨rb, hrb⟩ : ∃ b, b = rB s := ⟨_, rfl⟩
  rw [← hrb]
  have HW0 := Lib.hid hw1
  have HNO := Lib.hid hno
  have HR := Lib.hid hrb
  have HX := Lib.hid x
  have HL := Lib.hid hl
  have CM := Lib.hid (fun V => may_at s.cf.p s.cf.c s.cf.q s.cf.g V)
  obtain ⟨tg, htg⟩ : ∃ z, z = s.tg := ⟨_, rfl⟩
  obtain ⟨co, hco⟩ : ∃ z, z = s.co := ⟨_, rfl⟩
  obtain ⟨te, hte⟩ : ∃ z, z = s.te := ⟨_, rfl⟩
  have HT := Lib.hid (And.intro htg (And.intro hco hte))
  clear x hw1 hrb hl hr htg hco hte hno
  by_cases hm : Mb s.cf.p s.cf.c s.cf.q s.cf.g
  · rw [decide_eq_true hm] at CM
    obtain ⟨cp, hcp⟩ : ∃ z, z = s.cf.p := ⟨_, rfl⟩
    have HM := Lib.hid (And.intro hm hcp)
    clear hm hcp
    by_cases k0 : cp = 1
    · subst k0
      by_cases k1 : tg = 0
      · subst k1
        by_cases k2 : co = 0
        · subst k2
          by_cases k3 : te = 0
          · subst k3
            by_cases kL : Lim s 768
            · have HK1 : Hid (Rt1 s) := Lib.hid ⟨HM.out.1, HM.out.2.symm, HT.out.1.symm, HT.out.2.1.symm, HT.out.2.2.symm, kL⟩
              exact absurd HK1.out HNO.out
            · have HE : Hid (rb = false) := Lib.hid (by rw [HR.out]; exact rB_false (fun h => kL h.1.2.2.2.2.2))
              go_enter Try.func10, Try.ntmps10
              go_wp2_with fail
              rw [← HW0.out]
              refine (CM.out _).mono ?_
              rintro e w2 ⟨rfl, hb2⟩
              have x2 := HX.out.keep hb2
              have H2 := Lib.hid x2
              have d0 := at0 x2.box
              have d4 := at4 x2.box
              have d8 := at8 x2.box
              have d9 := at9 x2.box
              clear hb2 x2 HX HW0
              rw [← HM.out.2] at d0
              rw [← HT.out.1] at d4
              rw [← HT.out.2.1] at d8
              rw [← HT.out.2.2] at d9
              go_wp2_with (first | fail | refine ld31q (.tmp 1) rfl (by kernel_rfl) _ rfl _ H2.out.box ?_)
              have CS := small_at s r 768 (by omega) w2
              rw [decide_eq_false kL] at CS
              refine CS.mono ?_
              rintro e w3 ⟨rfl, hb3⟩
              go_wp2_with fail
              go_ret
              exact ⟨by rw [HE.out]; rfl, (H2.out.keep hb3).bel⟩
          · have HE : Hid (rb = false) := Lib.hid (by rw [HR.out]; exact rB_false (fun h => k3 (HT.out.2.2.trans h.1.2.2.2.2.1)))
            have zz : (te != 0) = true := by simpa using k3
            go_enter Try.func10, Try.ntmps10
            go_wp2_with fail
            rw [← HW0.out]
            refine (CM.out _).mono ?_
            rintro e w2 ⟨rfl, hb2⟩
            have x2 := HX.out.keep hb2
            have H2 := Lib.hid x2
            have d0 := at0 x2.box
            have d4 := at4 x2.box
            have d8 := at8 x2.box
            have d9 := at9 x2.box
            clear hb2 x2 HX HW0
            rw [← HM.out.2] at d0
            rw [← HT.out.1] at d4
            rw [← HT.out.2.1] at d8
            rw [← HT.out.2.2] at d9
            go_wp2_with fail
            go_ret
            exact ⟨by rw [HE.out]; rfl, H2.out.bel⟩
        · have HE : Hid (rb = false) := Lib.hid (by rw [HR.out]; exact rB_false (fun h => k2 (HT.out.2.1.trans h.1.2.2.2.1)))
          have zz : (co != 0) = true := by simpa using k2
          go_enter Try.func10, Try.ntmps10
          go_wp2_with fail
          rw [← HW0.out]
          refine (CM.out _).mono ?_
          rintro e w2 ⟨rfl, hb2⟩
          have x2 := HX.out.keep hb2
          have H2 := Lib.hid x2
          have d0 := at0 x2.box
          have d4 := at4 x2.box
          have d8 := at8 x2.box
          have d9 := at9 x2.box
          clear hb2 x2 HX HW0
          rw [← HM.out.2] at d0
          rw [← HT.out.1] at d4
          rw [← HT.out.2.1] at d8
          rw [← HT.out.2.2] at d9
          go_wp2_with fail
          go_ret
          exact ⟨by rw [HE.out]; rfl, H2.out.bel⟩
      · have HE : Hid (rb = false) := Lib.hid (by rw [HR.out]; exact rB_false (fun h => k1 (HT.out.1.trans h.1.2.2.1)))
        have zz : (tg != 0) = true := by simpa using k1
        go_enter Try.func10, Try.ntmps10
        go_wp2_with fail
        rw [← HW0.out]
        refine (CM.out _).mono ?_
        rintro e w2 ⟨rfl, hb2⟩
        have x2 := HX.out.keep hb2
        have H2 := Lib.hid x2
        have d0 := at0 x2.box
        have d4 := at4 x2.box
        have d8 := at8 x2.box
        have d9 := at9 x2.box
        clear hb2 x2 HX HW0
        rw [← HM.out.2] at d0
        rw [← HT.out.1] at d4
        rw [← HT.out.2.1] at d8
        rw [← HT.out.2.2] at d9
        go_wp2_with fail
        go_ret
        exact ⟨by rw [HE.out]; rfl, H2.out.bel⟩
    · have HE : Hid (rb = false) := Lib.hid (by rw [HR.out]; exact rB_false (fun h => k0 (HM.out.2.trans h.1.2.1)))
      have zz : (cp != 1) = true := by simpa using k0
      go_enter Try.func10, Try.ntmps10
      go_wp2_with fail
      rw [← HW0.out]
      refine (CM.out _).mono ?_
      rintro e w2 ⟨rfl, hb2⟩
      have x2 := HX.out.keep hb2
      have H2 := Lib.hid x2
      have d0 := at0 x2.box
      have d4 := at4 x2.box
      have d8 := at8 x2.box
      have d9 := at9 x2.box
      clear hb2 x2 HX HW0
      rw [← HM.out.2] at d0
      rw [← HT.out.1] at d4
      rw [← HT.out.2.1] at d8
      rw [← HT.out.2.2] at d9
      go_wp2_with fail
      go_ret
      exact ⟨by rw [HE.out]; rfl, H2.out.bel⟩
  · rw [decide_eq_false hm] at CM
    have HE : Hid (rb = false) := Lib.hid (by rw [HR.out]; exact rB_false (fun h => hm h.1.1))
    go_enter Try.func10, Try.ntmps10
    go_wp2_with fail
    rw [← HW0.out]
    refine (CM.out _).mono ?_
    rintro e w2 ⟨rfl, hb2⟩
    go_wp2_with fail
    go_ret
    exact ⟨by rw [HE.out]; rfl, (HX.out.keep hb2).bel⟩
set_option maxHeartbeats 2000000 in
set_option maxRecDepth 100000 in
theorem right_post (s : St) (r : R3) (h1 : Rt1 s) (hl : Lim s 100000) (w : World) (hr : SR w s r) : Calls Try.prog 10 #[sV s r] w fun e w' => e = .returned (.bool (rB s)) ∧ Below w.heap.size w w' := by
  have x := Fr.start1 hr
  have d0 := at0 x.box
  have d1 := at1 x.box
  have d2 := at2 x.box
  have d3 := at3 x.box
  obtain ⟨w1, hw1⟩ : ∃ w1, w1 = w.alloc (.cells (sA s r) 31) := ⟨_, rfl⟩
  rw [← hw1] at x
  obtain ⟨rb, hrb⟩ : ∃ b, b = rB s := ⟨_, rfl⟩
  rw [← hrb]
  have HW0 := Lib.hid hw1
  have HR := Lib.hid hrb
  have HX := Lib.hid x
  have HL := Lib.hid hl
  have CM := Lib.hid (fun V => may_at s.cf.p s.cf.c s.cf.q s.cf.g V)
  have HK1 := Lib.hid h1
  have HM : Hid (Mb s.cf.p s.cf.c s.cf.q s.cf.g ∧ 1 = s.cf.p) := Lib.hid ⟨h1.1, h1.2.1.symm⟩
  have HT : Hid (0 = s.tg ∧ 0 = s.co ∧ 0 = s.te) := Lib.hid ⟨h1.2.2.1.symm, h1.2.2.2.1.symm, h1.2.2.2.2.1.symm⟩
  rw [decide_eq_true (show Mb s.cf.p s.cf.c s.cf.q s.cf.g from h1.1)] at CM
  clear x hw1 hrb hl hr h1
  go_enter Try.func10, Try.ntmps10
  go_wp2_with fail
  rw [← HW0.out]
  refine (CM.out _).mono ?_
  rintro e w2 ⟨rfl, hb2⟩
  have x2 := HX.out.keep hb2
  have H2 := Lib.hid x2
  have d0 := at0 x2.box
  have d4 := at4 x2.box
  have d8 := at8 x2.box
  have d9 := at9 x2.box
  clear hb2 x2 HX HW0
  rw [← HM.out.2] at d0
  rw [← HT.out.1] at d4
  rw [← HT.out.2.1] at d8
  rw [← HT.out.2.2] at d9
  go_wp2_with (first | fail | refine ld31q (.tmp 1) rfl (by kernel_rfl) _ rfl _ H2.out.box ?_)
  have CS := small_at s r 768 (by omega) w2
  rw [decide_eq_true HK1.out.2.2.2.2.2] at CS
  refine CS.mono ?_
  rintro e w3 ⟨rfl, hb3⟩
  have x3 := H2.out.keep hb3
  have H3 := Lib.hid x3
  clear hb3 x3 CS d0 d1 d2 d3 d4 d8 d9 H2
  have x5 : ∀ W : GrB w3, W.v.cell? ⟨w.heap.size, 5, none⟩ = some (.slice r.a1 s.pg.length r.c1) := fun W => at5 (H3.out.keep W.h).box
  have x6 : ∀ W : GrB w3, W.v.cell? ⟨w.heap.size, 6, none⟩ = some (.slice r.a2 s.qu.length r.c2) := fun W => at6 (H3.out.keep W.h).box
  have x7 : ∀ W : GrB w3, W.v.cell? ⟨w.heap.size, 7, none⟩ = some (.slice r.a3 s.gh.length r.c3) := fun W => at7 (H3.out.keep W.h).box
  have XB : ∀ V, (∃ p : GrB w3, V = p.v) → Box V w.heap.size (sA s r) := fun V ⟨p, hp⟩ => by rw [hp]; exact (H3.out.keep p.h).box
  have HXB := Lib.hid XB
  clear XB
  obtain ⟨o1, h1⟩ : ∃ b, b = decide (OnceP s.pg) := ⟨_, rfl⟩
  obtain ⟨o2, h2⟩ : ∃ b, b = decide (OnceU s.qu) := ⟨_, rfl⟩
  obtain ⟨o3, h3⟩ : ∃ b, b = decide (OnceU s.gh) := ⟨_, rfl⟩
  obtain ⟨o4, h4⟩ : ∃ b, b = pgB s := ⟨_, rfl⟩
  obtain ⟨m3, h5⟩ : ∃ n, n = many s.pg 3 := ⟨_, rfl⟩
  obtain ⟨n3, h6⟩ : ∃ n, n = s.gh.length := ⟨_, rfl⟩
  have D1 : Hid (∀ W : GrB w3, Calls Try.prog 27 #[.slice r.a1 s.pg.length r.c1] W.v fun e w' => e = .returned (.bool o1) ∧ ∃ W' : GrB w3, w' = W'.v) := Lib.hid (grown_call (w := w3) fun V hV => (oncep_at s.pg r.a1 s.pg.length r.c1 rfl (by have := HL.out.1; omega) V (H3.out.keep hV).rows.pg.row).mono fun e w' ⟨e1, e2⟩ => ⟨by rw [h1]; exact e1, e2 ▸ Below.refl _ _⟩)
  have D2 : Hid (∀ W : GrB w3, Calls Try.prog 28 #[.slice r.a2 s.qu.length r.c2] W.v fun e w' => e = .returned (.bool o2) ∧ ∃ W' : GrB w3, w' = W'.v) := Lib.hid (grown_call (w := w3) fun V hV => (onceu_at s.qu r.a2 s.qu.length r.c2 rfl (by have := HL.out.2.1; omega) (H3.out.rows.qu.le) V (H3.out.keep hV).rows.qu.row).mono fun e w' ⟨e1, e2⟩ => ⟨by rw [h2]; exact e1, e2⟩)
  have D3 : Hid (∀ W : GrB w3, Calls Try.prog 28 #[.slice r.a3 n3 r.c3] W.v fun e w' => e = .returned (.bool o3) ∧ ∃ W' : GrB w3, w' = W'.v) := Lib.hid (grown_call (w := w3) fun V hV => (onceu_at s.gh r.a3 n3 r.c3 h6 (by have := HL.out.2.2; omega) (by rw [h6]; exact H3.out.rows.gh.le) V (H3.out.keep hV).rows.gh.row).mono fun e w' ⟨e1, e2⟩ => ⟨by rw [h3]; exact e1, e2⟩)
  have D4 : Hid (∀ W : GrB w3, Calls Try.prog 29 #[.agg (sA s r)] W.v fun e w' => e = .returned (.bool o4) ∧ ∃ W' : GrB w3, w' = W'.v) := Lib.hid (grown_call (w := w3) fun V hV => by
    exact (show Calls Try.prog 29 #[.agg (sA s r)] V _ from pages_at s r HL.out V (H3.out.keep hV).rows).mono fun e w' ⟨e1, e2⟩ => ⟨by rw [h4]; exact e1, e2⟩)
  have D5 : Hid (∀ W : GrB w3, Calls Try.prog 23 #[.slice r.a1 s.pg.length r.c1, .int .i64 3] W.v fun e w' => e = .returned (.int .i64 (m3 : Int)) ∧ ∃ W' : GrB w3, w' = W'.v) := Lib.hid (grown_call (w := w3) fun V hV => (many_at s.pg 3 r.a1 s.pg.length r.c1 rfl (by have := HL.out.1; omega) V (H3.out.keep hV).rows.pg.row).mono fun e w' ⟨e1, e2⟩ => ⟨by rw [h5]; exact e1, e2 ▸ Below.refl _ _⟩)
  rw [← h6] at x7
  have H15 := Lib.hid (And.intro h1 (And.intro h2 (And.intro h3 (And.intro h4 (And.intro h5 h6)))))
  clear h1 h2 h3 h4 h5 h6
  go_wp2_with fail
  refine region_grown (by kernel_rfl) (by kernel_rfl) ?_
  cases o1 with
  | false =>
    have HE : Hid (rb = false) := Lib.hid (by rw [HR.out]; exact rB_false (fun h => absurd (h.2.1.1) (of_decide_eq_false H15.out.1.symm)))
    repeat (go_big_quiet_step (first | (go_at_call 27; exact D1.out _) | (go_at_call 28; first | with_reducible exact D2.out _ | with_reducible exact D3.out _) | (go_at_call 29; with_reducible exact D4.out _) | (go_at_call 23; exact D5.out _)))
    refine wpQuiet_nil ?_
    rintro w9 ⟨⟨w8, hgl⟩, rfl⟩
    have x9 := H3.out.keep hgl
    have H9 := Lib.hid x9
    clear x5 x6 x7 hgl x9 H3 HXB D1 D2 D3 D4 D5
    go_wp2_with fail
    go_ret
    exact ⟨by rw [HE.out]; rfl, H9.out.bel⟩
  | true =>
    cases o2 with
    | false =>
      have HE : Hid (rb = false) := Lib.hid (by rw [HR.out]; exact rB_false (fun h => absurd (h.2.1.2.1) (of_decide_eq_false H15.out.2.1.symm)))
      repeat (go_big_quiet_step (first | (go_at_call 27; exact D1.out _) | (go_at_call 28; first | with_reducible exact D2.out _ | with_reducible exact D3.out _) | (go_at_call 29; with_reducible exact D4.out _) | (go_at_call 23; exact D5.out _)))
      refine wpQuiet_nil ?_
      rintro w9 ⟨⟨w8, hgl⟩, rfl⟩
      have x9 := H3.out.keep hgl
      have H9 := Lib.hid x9
      clear x5 x6 x7 hgl x9 H3 HXB D1 D2 D3 D4 D5
      go_wp2_with fail
      go_ret
      exact ⟨by rw [HE.out]; rfl, H9.out.bel⟩
    | true =>
      cases o3 with
      | false =>
        have HE : Hid (rb = false) := Lib.hid (by rw [HR.out]; exact rB_false (fun h => absurd (h.2.1.2.2.1) (of_decide_eq_false H15.out.2.2.1.symm)))
        repeat (go_big_quiet_step (first | (go_at_call 27; exact D1.out _) | (go_at_call 28; first | with_reducible exact D2.out _ | with_reducible exact D3.out _) | (go_at_call 29; with_reducible exact D4.out _) | (go_at_call 23; exact D5.out _)))
        refine wpQuiet_nil ?_
        rintro w9 ⟨⟨w8, hgl⟩, rfl⟩
        have x9 := H3.out.keep hgl
        have H9 := Lib.hid x9
        clear x5 x6 x7 hgl x9 H3 HXB D1 D2 D3 D4 D5
        go_wp2_with fail
        go_ret
        exact ⟨by rw [HE.out]; rfl, H9.out.bel⟩
      | true =>
        cases o4 with
        | false =>
          have HE : Hid (rb = false) := Lib.hid (by rw [HR.out]; exact rB_false (fun h => absurd (pgB_true (h.2.1.2.2.2.1)) (by rw [← H15.out.2.2.2.1]; decide)))
          repeat (first | (refine qld31q (.tmp 1) rfl (by kernel_rfl) _ rfl _ HXB.out ?_; simp only [Act.put, List.setIfInBounds_toArray, List.set_cons_succ, List.set_cons_zero]) | go_big_quiet_step (first | (go_at_call 27; exact D1.out _) | (go_at_call 28; first | with_reducible exact D2.out _ | with_reducible exact D3.out _) | (go_at_call 29; with_reducible exact D4.out _) | (go_at_call 23; exact D5.out _)))
          refine wpQuiet_nil ?_
          rintro w9 ⟨⟨w8, hgl⟩, rfl⟩
          have x9 := H3.out.keep hgl
          have H9 := Lib.hid x9
          clear x5 x6 x7 hgl x9 H3 HXB D1 D2 D3 D4 D5
          go_wp2_with fail
          go_ret
          exact ⟨by rw [HE.out]; rfl, H9.out.bel⟩
        | true =>
          by_cases k5 : (n3 : Int) = (m3 : Int)
          · have HK2 : Hid (Rt2 s) := Lib.hid ⟨of_decide_eq_true H15.out.1.symm, of_decide_eq_true H15.out.2.1.symm, of_decide_eq_true H15.out.2.2.1.symm, by have := H15.out.2.2.2.1; unfold pgB at this; simpa using this.symm, by have e1 := H15.out.2.2.2.2.1; have e2 := H15.out.2.2.2.2.2; omega⟩
            have zz : ((n3 : Int) != (m3 : Int)) = false := by simpa using k5
            repeat (first | (refine qld31q (.tmp 1) rfl (by kernel_rfl) _ rfl _ HXB.out ?_; simp only [Act.put, List.setIfInBounds_toArray, List.set_cons_succ, List.set_cons_zero]) | go_big_quiet_step (first | (go_at_call 27; exact D1.out _) | (go_at_call 28; first | with_reducible exact D2.out _ | with_reducible exact D3.out _) | (go_at_call 29; with_reducible exact D4.out _) | (go_at_call 23; exact D5.out _)))
            refine wpQuiet_nil ?_
            rintro w9 ⟨⟨w8, hgl⟩, rfl⟩
            have x9 := H3.out.keep hgl
            have H9 := Lib.hid x9
            clear x5 x6 x7 hgl x9 H3 HXB D1 D2 D3 D4 D5
            have d5 := at5 H9.out.box
            go_wp2_with fail
            refine (many_at s.pg 1 r.a1 s.pg.length r.c1 rfl (by have := HL.out.1; omega) w9 H9.out.rows.pg.row).mono ?_
            rintro e w10 ⟨rfl, hh⟩
            subst hh
            have d1 := at1 H9.out.box
            have d2 := at2 H9.out.box
            have d3 := at3 H9.out.box
            have d6 := at6 H9.out.box
            have d7 := at7 H9.out.box
            clear d5
            obtain ⟨mh, hmh⟩ : ∃ n, n = many s.pg 1 := ⟨_, rfl⟩
            obtain ⟨nq, hnq⟩ : ∃ n, n = s.qu.length := ⟨_, rfl⟩
            obtain ⟨ng, hng⟩ : ∃ n, n = s.gh.length := ⟨_, rfl⟩
            obtain ⟨cc, hcc⟩ : ∃ n, n = s.cf.c := ⟨_, rfl⟩
            obtain ⟨cq, hcq⟩ : ∃ n, n = s.cf.q := ⟨_, rfl⟩
            obtain ⟨cg, hcg⟩ : ∃ n, n = s.cf.g := ⟨_, rfl⟩
            have b1 : mh ≤ 100000 := by rw [hmh]; have := many_le s.pg 1; have := HL.out.1; omega
            have b2 : nq ≤ 100000 := by rw [hnq]; exact HL.out.2.1
            have b3 : ng ≤ 100000 := by rw [hng]; exact HL.out.2.2
            have hM := HM.out.1
            unfold Mb at hM
            rw [← hcc, ← hcq, ← hcg] at hM
            obtain ⟨_, ⟨b4, b5⟩, ⟨b6, b7⟩, ⟨b8, b9⟩⟩ := hM
            rw [← hmh]
            rw [← hcc] at d1
            rw [← hcq] at d2
            rw [← hcg] at d3
            rw [← hnq] at d6
            rw [← hng] at d7
            have H6 := Lib.hid (And.intro hmh (And.intro hnq (And.intro hng (And.intro hcc (And.intro hcq hcg)))))
            have HRt3 : Hid (Rt3 s ↔ ((mh : Int) ≤ cc - cq ∧ (mh : Int) + nq ≤ cc ∧ (ng : Int) ≤ cg)) := Lib.hid (by rw [hmh, hnq, hng, hcc, hcq, hcg]; exact Iff.rfl)
            clear hmh hnq hng hcc hcq hcg
            by_cases g1 : (mh : Int) ≤ cc - cq
            · by_cases g2 : (mh : Int) + (nq : Int) ≤ cc
              · by_cases g3 : (ng : Int) ≤ cg
                · have HE : Hid (rb = true) := Lib.hid (by rw [HR.out]; exact rB_true ⟨HK1.out, HK2.out, HRt3.out.2 ⟨g1, g2, g3⟩⟩)
                  go_wp2
                  go_ret
                  exact ⟨by rw [HE.out]; rfl, H9.out.bel⟩
                · have HE : Hid (rb = false) := Lib.hid (by rw [HR.out]; exact rB_false (fun h => g3 (HRt3.out.1 h.2.2).2.2))
                  have gg : decide ((ng : Int) ≤ cg) = false := decide_eq_false g3
                  go_wp2
                  go_ret
                  exact ⟨by rw [HE.out]; rfl, H9.out.bel⟩
              · have HE : Hid (rb = false) := Lib.hid (by rw [HR.out]; exact rB_false (fun h => g2 (HRt3.out.1 h.2.2).2.1))
                have gg : decide ((mh : Int) + (nq : Int) ≤ cc) = false := decide_eq_false g2
                go_wp2
                go_ret
                exact ⟨by rw [HE.out]; rfl, H9.out.bel⟩
            · have HE : Hid (rb = false) := Lib.hid (by rw [HR.out]; exact rB_false (fun h => g1 (HRt3.out.1 h.2.2).1))
              have gg : decide ((mh : Int) ≤ cc - cq) = false := decide_eq_false g1
              go_wp2
              go_ret
              exact ⟨by rw [HE.out]; rfl, H9.out.bel⟩
          · have HE : Hid (rb = false) := Lib.hid (by rw [HR.out]; exact rB_false (fun h => k5 (by have := h.2.1.2.2.2.2; have e1 := H15.out.2.2.2.2.1; have e2 := H15.out.2.2.2.2.2; omega)))
            have zz : ((n3 : Int) != (m3 : Int)) = true := by simpa using k5
            repeat (first | (refine qld31q (.tmp 1) rfl (by kernel_rfl) _ rfl _ HXB.out ?_; simp only [Act.put, List.setIfInBounds_toArray, List.set_cons_succ, List.set_cons_zero]) | go_big_quiet_step (first | (go_at_call 27; exact D1.out _) | (go_at_call 28; first | with_reducible exact D2.out _ | with_reducible exact D3.out _) | (go_at_call 29; with_reducible exact D4.out _) | (go_at_call 23; exact D5.out _)))
            refine wpQuiet_nil ?_
            rintro w9 ⟨⟨w8, hgl⟩, rfl⟩
            have x9 := H3.out.keep hgl
            have H9 := Lib.hid x9
            clear x5 x6 x7 hgl x9 H3 HXB D1 D2 D3 D4 D5
            go_wp2_with fail
            go_ret
            exact ⟨by rw [HE.out]; rfl, H9.out.bel⟩
theorem right_at (s : St) (r : R3) (hl : Lim s 100000) (w : World) (hr : SR w s r) : Calls Try.prog 10 #[sV s r] w fun e w' => e = .returned (.bool (rB s)) ∧ Below w.heap.size w w' := by
  by_cases h : Rt1 s
  · exact right_post s r h hl w hr
  · exact right_pre s r h hl w hr
end Go.Proofs.Ytifenpmkbnohhaa
namespace Go.Proofs.Ytifenpmkbnohhaa
open Go.RowKit
open Go.Proofs.StackM
set_option linter.unusedVariables false
set_option maxHeartbeats 2000000 in
set_option maxRecDepth 100000 in
theorem state_same (s : St) (r r' : R3) (hl : Lim s 100000) (w : World) (hr : SR w s r) (hr' : SR w s r') : Calls Try.prog 15 #[sV s r, sV s r'] w fun e w' => e = .returned (.bool true) ∧ Below w.heap.size w w' := by
  have x := Fr.start hr (.cells (sA s r') 31)
  have y := box_alloc (w.alloc (.cells (sA s r) 31)) (sA s r') (sA_len _ _)
  obtain ⟨w1, hw1⟩ : ∃ w1, w1 = (w.alloc (.cells (sA s r) 31)).alloc (.cells (sA s r') 31) := ⟨_, rfl⟩
  have hs : (w.alloc (.cells (sA s r) 31)).heap.size = w.heap.size + 1 := by simp
  rw [hs] at y
  have hr1 := hr'.kept x.bel
  rw [← hw1] at x y hr1
  have C35 : Hid (∀ V, Below w1.heap.size w1 V → Calls Try.prog 43 #[.slice r.a1 s.pg.length r.c1, .slice r'.a1 s.pg.length r'.c1] V fun e w' => e = .returned (.bool true) ∧ Below V.heap.size V w') := Lib.hid (fun V hV => (pgs_at s.pg s.pg r.a1 r'.a1 s.pg.length s.pg.length r.c1 r'.c1 rfl rfl (by have := hl.1; omega) (by have := hl.1; omega) V (x.keep hV).rows.pg.row (hr1.kept hV).pg.row).mono fun e w' ⟨h1, h2⟩ => ⟨by rw [h1]; simp, h2⟩)
  have C25q : Hid (∀ V, Below w1.heap.size w1 V → Calls Try.prog 25 #[.slice r.a2 s.qu.length r.c2, .slice r'.a2 s.qu.length r'.c2] V fun e w' => e = .returned (.bool true) ∧ Below V.heap.size V w') := Lib.hid (fun V hV => (same_at s.qu s.qu r.a2 r'.a2 s.qu.length s.qu.length r.c2 r'.c2 rfl rfl (by have := hl.2.1; omega) (by have := hl.2.1; omega) V (x.keep hV).rows.qu.row (hr1.kept hV).qu.row).mono fun e w' ⟨h1, h2⟩ => ⟨by rw [h1]; simp, h2⟩)
  have C25g : Hid (∀ V, Below w1.heap.size w1 V → Calls Try.prog 25 #[.slice r.a3 s.gh.length r.c3, .slice r'.a3 s.gh.length r'.c3] V fun e w' => e = .returned (.bool true) ∧ Below V.heap.size V w') := Lib.hid (fun V hV => (same_at s.gh s.gh r.a3 r'.a3 s.gh.length s.gh.length r.c3 r'.c3 rfl rfl (by have := hl.2.2; omega) (by have := hl.2.2; omega) V (x.keep hV).rows.gh.row (hr1.kept hV).gh.row).mono fun e w' ⟨h1, h2⟩ => ⟨by rw [h1]; simp, h2⟩)
  have HW := Lib.hid hw1
  have HX := Lib.hid x
  have HY := Lib.hid y
  have q1 := x.bel
  have HQ := Lib.hid q1
  have d0 := at0 x.box
  have e0 := at0 y
  have d1 := at1 x.box
  have e1 := at1 y
  have d2 := at2 x.box
  have e2 := at2 y
  have d3 := at3 x.box
  have e3 := at3 y
  have d4 := at4 x.box
  have e4 := at4 y
  have d5 := at5 x.box
  have e5 := at5 y
  have d6 := at6 x.box
  have e6 := at6 y
  have d7 := at7 x.box
  have e7 := at7 y
  have d8 := at8 x.box
  have e8 := at8 y
  have d9 := at9 x.box
  have e9 := at9 y
  have d10 := at10 x.box
  have e10 := at10 y
  have d11 := at11 x.box
  have e11 := at11 y
  have d12 := at12 x.box
  have e12 := at12 y
  have d13 := at13 x.box
  have e13 := at13 y
  have d14 := at14 x.box
  have e14 := at14 y
  have d15 := at15 x.box
  have e15 := at15 y
  have d16 := at16 x.box
  have e16 := at16 y
  have d17 := at17 x.box
  have e17 := at17 y
  have d18 := at18 x.box
  have e18 := at18 y
  have d19 := at19 x.box
  have e19 := at19 y
  rw [hw1] at d0 d1 d2 d3 d4 d5 d6 d7 d8 d9 d10 d11 d12 d13 d14 d15 d16 d17 d18 d19 e0 e1 e2 e3 e4 e5 e6 e7 e8 e9 e10 e11 e12 e13 e14 e15 e16 e17 e18 e19
  clear x y hr hr' hr1 hw1 hs hl q1
  go_enter Try.func15, Try.ntmps15
  go_wp2_with fail
  rw [← HW.out]
  clear d0 d1 d2 d3 d4 d5 d6 d7 d8 d9 d10 d11 d12 d13 d14 d15 d16 d17 d18 d19 e0 e1 e2 e3 e4 e5 e6 e7 e8 e9 e10 e11 e12 e13 e14 e15 e16 e17 e18 e19
  refine (C35.out _ (Below.refl _ _)).mono ?_
  rintro e w2 ⟨rfl, hb2⟩
  have d6 := at6 (HX.out.keep hb2).box
  have e6 := at6 (HY.out.kept hb2 HY.out.lt)
  have H2 := Lib.hid hb2
  clear hb2
  go_wp2_with fail
  clear d6 e6
  refine (C25q.out _ H2.out).mono ?_
  rintro e w3 ⟨rfl, hb3⟩
  have b3 := H2.out.trans (hb3.mono H2.out.size)
  have d7 := at7 (HX.out.keep b3).box
  have e7 := at7 (HY.out.kept b3 HY.out.lt)
  have H3 := Lib.hid b3
  clear hb3 b3 H2
  go_wp2_with fail
  clear d7 e7
  refine (C25g.out _ H3.out).mono ?_
  rintro e w4 ⟨rfl, hb4⟩
  have H4 := Lib.hid (H3.out.trans (hb4.mono H3.out.size))
  clear hb4 H3
  go_wp2
  go_ret
  exact ⟨rfl, HQ.out.trans (H4.out.mono HQ.out.size)⟩
end Go.Proofs.Ytifenpmkbnohhaa
namespace Go.Proofs.Ytifenpmkbnohhaa
open Go.RowKit
open Go.Proofs.StackM
set_option linter.unusedVariables false
theorem sub_len {a b : List Int} (ha : a.Nodup) (h : ∀ x ∈ a, x ∈ b) : a.length ≤ b.length := by
  induction a generalizing b with
  | nil => exact Nat.zero_le _
  | cons x a ih =>
    rw [List.nodup_cons] at ha
    have h1 := ih ha.2 (b := ls b x) (fun y hy => ls_mem.2 ⟨h y (List.mem_cons_of_mem _ hy), fun e => ha.1 (e ▸ hy)⟩)
    have h2 := ls_lt (h x (by simp))
    simp only [List.length_cons]
    omega
theorem sub_back {a b : List Int} (ha : a.Nodup) (h : ∀ x ∈ a, x ∈ b) (hl : b.length ≤ a.length) : ∀ y ∈ b, y ∈ a := by
  intro y hy
  by_cases hya : y ∈ a
  · exact hya
  · exfalso
    have h1 := sub_len ha (b := ls b y) (fun x hx => ls_mem.2 ⟨h x hx, fun e => hya (e ▸ hx)⟩)
    have h2 := ls_lt hy
    omega
/-- the keys of one kind -/
def kk (l : List Pg) (d : Int) : List Int := (l.filter fun p => decide (p.kind = d)).map Pg.key
theorem kk_len (l : List Pg) (d : Int) : (kk l d).length = many l d := by
  unfold kk many
  rw [List.length_map, List.countP_eq_length_filter]
theorem kk_mem {l : List Pg} {d x : Int} : x ∈ kk l d ↔ ∃ p ∈ l, p.kind = d ∧ p.key = x := by
  unfold kk
  rw [List.mem_map]
  constructor
  · rintro ⟨p, hp, e⟩
    have := List.mem_filter.1 hp
    exact ⟨p, this.1, by simpa using this.2, e⟩
  · rintro ⟨p, hp, e1, e2⟩
    exact ⟨p, List.mem_filter.2 ⟨hp, by simpa using e1⟩, e2⟩
theorem kk_nodup {l : List Pg} (d : Int) (h : (l.map Pg.key).Nodup) : (kk l d).Nodup := h.sublist (List.filter_sublist.map _)
theorem oncep_iff (l : List Pg) : OnceP l ↔ (l.map Pg.key).Nodup := by
  constructor
  · intro h
    refine List.pairwise_iff_getElem.2 (fun i j hi hj hij e => ?_)
    rw [List.getElem_map, List.getElem_map] at e
    have hi' : i < l.length := by simpa using hi
    have hj' : j < l.length := by simpa using hj
    have h1 := h i hi'
    have h2 := h j hj'
    rw [e, h2] at h1
    omega
  · intro h j hj
    rw [fi, fnd_some hj rfl (fun i h1 h2 e => by have := key_inj h h2 hj e; omega)]
theorem onceu_iff (l : List Int) : OnceU l ↔ l.Nodup := by
  constructor
  · intro h
    refine List.pairwise_iff_getElem.2 (fun i j hi hj hij e => ?_)
    refine h j hj ?_
    rw [← e, List.mem_take_iff_getElem]
    exact ⟨i, by omega, rfl⟩
  · intro h j hj hm
    rw [List.mem_take_iff_getElem] at hm
    obtain ⟨i, hi, e⟩ := hm
    exact List.pairwise_iff_getElem.1 h i j (by omega) hj (by omega) e
theorem kinds_len {l : List Pg} (h : ∀ p ∈ l, p.kind = 1 ∨ p.kind = 2 ∨ p.kind = 3) : l.length = many l 1 + many l 2 + many l 3 := by
  induction l with
  | nil => rfl
  | cons a l ih =>
    have h1 := ih (fun p hp => h p (List.mem_cons_of_mem _ hp))
    unfold many at h1 ⊢
    rw [List.countP_cons, List.countP_cons, List.countP_cons, List.length_cons, h1]
    rcases h a (by simp) with e | e | e <;> simp [e] <;> omega
theorem rt_rg (s : St) : Rt s ↔ Rg s := by
  constructor
  · rintro ⟨⟨h1, h2, h3, h4, h5, h6⟩, ⟨o1, o2, o3, ⟨o4, o4b⟩, o5⟩, ⟨b1, b2, b3⟩⟩
    obtain ⟨m1, m2, m3, m4⟩ := h1
    have nk := (oncep_iff _).1 o1
    have ng := (onceu_iff _).1 o3
    have pk : ∀ p ∈ s.pg, Pk s p := fun p hp => by
      obtain ⟨j, hj, rfl⟩ := List.getElem_of_mem hp
      exact o4 j hj
    refine ⟨⟨h2, m2, m3, m4⟩, h3, h4, h5, ⟨nk, (onceu_iff _).1 o2, ng, pk, fun k hk => ?_⟩, o4b, b1, b2, b3⟩
    have hsub : ∀ x ∈ kk s.pg 3, x ∈ s.gh := fun x hx => by
      obtain ⟨p, hp, e1, e2⟩ := kk_mem.1 hx
      rw [← e2]
      exact (pk p hp).2.2.2.2.2 e1
    have := sub_back (kk_nodup 3 nk) hsub (by rw [kk_len]; omega) k hk
    obtain ⟨p, hp, _, e2⟩ := kk_mem.1 this
    exact ⟨p, hp, e2⟩
  · intro h
    have hq : ∀ x ∈ kk s.pg 2, x ∈ s.qu := fun x hx => by
      obtain ⟨p, hp, e1, e2⟩ := kk_mem.1 hx
      rw [← e2]
      exact (h.wk.pk p hp).2.2.2.1.2 e1
    have hg : ∀ x ∈ kk s.pg 3, x ∈ s.gh := fun x hx => by
      obtain ⟨p, hp, e1, e2⟩ := kk_mem.1 hx
      rw [← e2]
      exact (h.wk.pk p hp).2.2.2.2.2 e1
    have hg2 : ∀ x ∈ s.gh, x ∈ kk s.pg 3 := fun x hx => by
      obtain ⟨p, hp, e⟩ := h.wk.gg x hx
      exact kk_mem.2 ⟨p, hp, (h.wk.pk p hp).2.2.2.2.1 (by rw [e]; exact hx), e⟩
    have l2 := sub_len (kk_nodup 2 h.wk.nk) hq
    have l3 := sub_len (kk_nodup 3 h.wk.nk) hg
    have l3' := sub_len h.wk.ng hg2
    rw [kk_len] at l2 l3 l3'
    have hl := kinds_len (fun p hp => (h.wk.pk p hp).2.2.1)
    obtain ⟨c1, ⟨c2, c3⟩, ⟨c4, c5⟩, ⟨c6, c7⟩⟩ := h.cl
    have b1 := h.b1
    have b2 := h.b2
    have b3 := h.b3
    dsimp only [H] at b1 b2
    refine ⟨⟨⟨⟨by omega, by omega⟩, ⟨c2, c3⟩, ⟨c4, c5⟩, ⟨c6, c7⟩⟩, c1, h.tg, h.co, h.te, ⟨by omega, by omega, by omega⟩⟩, ⟨(oncep_iff _).2 h.wk.nk, (onceu_iff _).2 h.wk.nq, (onceu_iff _).2 h.wk.ng, ⟨fun j hj => h.wk.pk _ (List.getElem_mem hj), h.bt⟩, by omega⟩, ⟨b1, b2, b3⟩⟩
end Go.Proofs.Ytifenpmkbnohhaa
