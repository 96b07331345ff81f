/-
  The state that is worked on: a look of the hot hand.
  The state that is worked on: room for hot pages; hot pages are made cold; a key is raised.
-/
import Derived.Test.YtejcahkkpednfaaG14
import Derived.Test.YtejcahkkpednfaaG08
import Derived.Deep.MidRow
namespace Go.Proofs.Ytejcahkkpednfaa
open Go.RowKit
open Go.Proofs.StackM (Pg Cf Ct St up many fnd fnd_at fnd_no)
open Go.Proofs.WheelM
set_option linter.unusedVariables false
theorem falls_with (s : St) (l : List Pg) : falls { s with pg := l } = { falls s with pg := l } := by
  unfold falls
  dsimp only
  split <;> rfl
section
variable {lo B c : Nat} {w : World} {s : St} {r : R3} {A : Option Addr} {ev : List Int}
set_option maxHeartbeats 4000000 in
set_option maxRecDepth 100000 in
theorem plookC_at (h : WK lo w B s r A c ev) (p : Pg) (l : List Pg) (hp : s.pg = p :: l) (hw : Ww s) (hl : s.pg.length ≤ 1000) : Calls Try.prog 62 #[.pointer (some ⟨B, 0, none⟩)] w fun e w' => e = .returned (.tuple #[]) ∧ WP lo w B (clS s p) ev w' := by
  have hpok := hw.pk p (by rw [hp]; simp)
  have hpos : 0 < s.pg.length := by rw [hp]; simp
  have htg : 1 ≤ s.tg ∧ s.tg ≤ 1000 := by have := hw.tg; have := hw.ck.2.1; omega
  have d19 := h.at19
  have f19 := h.free 19
  have hup := wrap_up s.ct.st
  have h1 := h.ct19 (up s.ct.st)
  have hb1 : Below lo w (w.setCell ⟨B, 19, none⟩ (.int .u64 (up s.ct.st))) := h.set1 19 _
  obtain ⟨w1, hw1⟩ : ∃ w1, w1 = w.setCell ⟨B, 19, none⟩ (.int .u64 (up s.ct.st)) := ⟨_, rfl⟩
  rw [← hw1] at h1 hb1
  have hs1 : w1.heap.size = w.heap.size := by rw [hw1]; simp
  obtain ⟨g, ha, hcap, q0, q1, q2, q3, fz⟩ := h.page (i := 0) hpos
  have hz : s.pg[0] = p := by simp [hp]
  rw [hz] at q0 q1 q2 q3
  simp only [Nat.zero_mul, Nat.zero_add] at q0 q1 q2 q3
  have d5 := h.at5
  rw [ha] at d5
  have hBg : B ≠ g := fun e => box_row h.box h.rows.pg (by decide) ⟨g, 0, none⟩ ha e.symm
  obtain ⟨w2, hw2⟩ : ∃ w2, w2 = w1.alloc (.cells #[.int .u64 p.key, .int .i64 p.kind, .bool p.test, .bool p.mark] 58) := ⟨_, rfl⟩
  have hb2 : Below w1.heap.size w1 w2 := by rw [hw2]; exact alloc_below w1 _
  have h2 := h1.kept hb2
  have he : w2.heap[w1.heap.size]? = some (.cells #[.int .u64 p.key, .int .i64 p.kind, .bool p.test, .bool p.mark] 58 (0, 0)) := by rw [hw2]; exact Array.getElem?_push_size
  have HK := Lib.hid (And.intro h2 (hb1.trans (hb2.mono h1.low)))
  have HW := Lib.hid (And.intro hw1 hw2)
  have e0 : w2.cell? ⟨w1.heap.size, 0, none⟩ = some (.int .u64 p.key) := by rw [cell_of_head he]; rfl
  have e1 : w2.cell? ⟨w1.heap.size, 1, none⟩ = some (.int .i64 p.kind) := by rw [cell_of_head he]; rfl
  have e2 : w2.cell? ⟨w1.heap.size, 2, none⟩ = some (.bool p.test) := by rw [cell_of_head he]; rfl
  have e3 : w2.cell? ⟨w1.heap.size, 3, none⟩ = some (.bool p.mark) := by rw [cell_of_head he]; rfl
  obtain ⟨n, hn⟩ : ∃ n, n = s.pg.length := ⟨_, rfl⟩
  rw [← hn] at d5
  have z0 : (0 : Int) < (n : Int) := by omega
  have HA := Lib.hid ha
  have HN := Lib.hid hn
  obtain ⟨g', ha', _, k0, k1, k2, k3, fz2⟩ := h2.page (i := 0) hpos
  obtain rfl : g = g' := by rw [ha] at ha'; injection ha' with h; injection h
  dsimp only at k1
  rw [hz] at k1
  simp only [Nat.zero_mul, Nat.zero_add] at k1
  have HF := Lib.hid fz2
  clear ha' k0 k2 k3 fz2
  have HP := Lib.hid (And.intro hp (And.intro hpos (And.intro hl (And.intro hw.hc (And.intro hw.ht htg)))))
  obtain ⟨p0, p1, p2, p3⟩ := p
  dsimp only at q0 q1 q2 q3 e0 e1 e2 e3 k1
  clear h hw hw1 hw2 h1 hb1 hb2 h2 he hz hn hp hl hcap fz htg ha
  by_cases h3 : p1 = 3
  · subst h3
    clear hpok
    have C0 : Calls Try.prog 75 #[.pointer (some ⟨B, 0, none⟩), .int .i64 0] w2 _ := forget_at HK.out.1 0 HP.out.2.1 HP.out.2.2.1 HP.out.2.2.2.1 HP.out.2.2.2.2.1 HP.out.2.2.2.2.2.1 HP.out.2.2.2.2.2.2
    have C := Lib.hid C0
    clear C0
    go_enter Try.func62, Try.ntmps62
    go_wp2_with fail
    rw [← HW.out.1, ← HW.out.2]
    refine C.out.mono ?_
    rintro e w3 ⟨rfl, h3⟩
    have H3 := Lib.hid (WP.trans HK.out.2 h3)
    clear h3
    go_wp2_with fail
    (try simp only [Exit.inBlock, Exit.then])
    refine bodyPost_ret (results_none rfl _ _ _) rfl ?_
    exact ⟨rfl, H3.out⟩
  · by_cases h1 : p1 = 1
    · subst h1
      obtain rfl : p2 = false := by unfold Pok at hpok; simpa using hpok
      clear hpok h3
      cases p3
      · have hps := HK.out.1.pageSet (i := 0) (j := 1) HP.out.2.1 HA.out (by omega) (.int .i64 2) ⟨p0, 2, false, false⟩ (by have h9 := HP.out.1; dsimp only; simp [h9]; rfl)
        simp only [Nat.zero_mul, Nat.zero_add] at hps
        have y13 := hps.1.at13
        have g13 := hps.1.free 13
        have x5 := HK.out.1.at5
        dsimp only at y13 x5
        rw [HA.out, ← HN.out] at x5
        have u1 := k1
        have g1 := HF.out 1
        rw [HW.out.2, HW.out.1] at y13 g13 x5 u1 g1
        dsimp only at y13 g13 x5 u1 g1
        have hup2 := wrap_up s.ct.lo
        have h9 := hps.1.ct13 (up s.ct.lo)
        obtain ⟨w3, hw3⟩ : ∃ w3, w3 = (w2.setCell ⟨g, 1, none⟩ (.int .i64 2)).setCell ⟨B, 13, none⟩ (.int .u64 (up s.ct.lo)) := ⟨_, rfl⟩
        rw [← hw3] at h9
        have hb9 : Below lo w w3 := by rw [hw3]; exact below_setCell (HK.out.2.trans hps.2) HK.out.1.hlo
        have hpl : (s.pg.set 0 ⟨p0, 2, false, false⟩) = ⟨p0, 2, false, false⟩ :: l := by rw [HP.out.1]; rfl
        have C2 := Lib.hid (stepHot_at h9 ⟨p0, 2, false, false⟩ l hpl (by show (s.pg.set 0 _).length ≤ 1000; rw [List.length_set]; exact HP.out.2.2.1) (by show Hd s.co (s.pg.set 0 _).length; rw [List.length_set]; exact HP.out.2.2.2.1) (by show Hd s.te (s.pg.set 0 _).length; rw [List.length_set]; exact HP.out.2.2.2.2.1))
        have H9 := Lib.hid hb9
        have HW3 := Lib.hid hw3
        clear hps h9 hb9 hpl hw3
        go_enter Try.func62, Try.ntmps62
        go_wp2_with fail
        rw [← HW.out.1, ← HW.out.2, ← HW3.out]
        refine C2.out.mono ?_
        rintro e w4 ⟨rfl, h4⟩
        have e := turn_with (s := setc s (cLo s)) (q := ⟨p0, 1, false, false⟩) (p := ⟨p0, 2, false, false⟩) HP.out.1
        have hcl : clS s ⟨p0, 1, false, false⟩ = turnp { (setc s (cLo s)) with pg := s.pg.set 0 ⟨p0, 2, false, false⟩ } ⟨p0, 2, false, false⟩ := by
          rw [show (turnp { (setc s (cLo s)) with pg := s.pg.set 0 ⟨p0, 2, false, false⟩ } ⟨p0, 2, false, false⟩) = turnp (setc s (cLo s)) ⟨p0, 2, false, false⟩ from e]
          unfold clS; rw [if_neg (show ¬ ((1 : Int) = 3) by decide), if_neg (fun e => Bool.noConfusion e.2), if_pos rfl]
        have H4 : Hid (WP lo w B (clS s ⟨p0, 1, false, false⟩) ev w4) := Lib.hid (by rw [hcl]; exact WP.trans H9.out h4)
        clear h4 e hcl
        go_wp2_with fail
        go_end0
        exact ⟨rfl, H4.out⟩
      · have C0 : Calls Try.prog 76 #[.pointer (some ⟨B, 0, none⟩), .int .i64 0] w2 _ := clearM_at HK.out.1 0 ⟨p0, 1, false, true⟩ (by have h9 := HP.out.1; dsimp only; simp [h9]) HP.out.2.2.1
        have C := Lib.hid C0
        clear C0
        go_enter Try.func62, Try.ntmps62
        go_wp2_with fail
        rw [← HW.out.1, ← HW.out.2]
        refine C.out.mono ?_
        rintro e w3 ⟨rfl, r2, A2, c2, h2, hb2⟩
        have hpl : (s.pg.set 0 ⟨p0, 1, false, false⟩) = ⟨p0, 1, false, false⟩ :: l := by rw [HP.out.1]; rfl
        have C2 := Lib.hid (stepHot_at h2 ⟨p0, 1, false, false⟩ l hpl (by show (s.pg.set 0 _).length ≤ 1000; rw [List.length_set]; exact HP.out.2.2.1) (by show Hd s.co (s.pg.set 0 _).length; rw [List.length_set]; exact HP.out.2.2.2.1) (by show Hd s.te (s.pg.set 0 _).length; rw [List.length_set]; exact HP.out.2.2.2.2.1))
        have HB := Lib.hid (HK.out.2.trans hb2)
        clear h2 hb2
        go_wp2_with fail
        refine C2.out.mono ?_
        rintro e w4 ⟨rfl, h4⟩
        have e := turn_with (s := setc s (cCl s)) (q := ⟨p0, 1, false, true⟩) (p := ⟨p0, 1, false, false⟩) HP.out.1
        have hcl : clS s ⟨p0, 1, false, true⟩ = turnp { (setc s (cCl s)) with pg := s.pg.set 0 ⟨p0, 1, false, false⟩ } ⟨p0, 1, false, false⟩ := by
          rw [show (turnp { (setc s (cCl s)) with pg := s.pg.set 0 ⟨p0, 1, false, false⟩ } ⟨p0, 1, false, false⟩) = turnp (setc s (cCl s)) ⟨p0, 1, false, false⟩ from e]
          unfold clS; rw [if_neg (show ¬ ((1 : Int) = 3) by decide), if_pos ⟨rfl, rfl⟩]
        have H4 : Hid (WP lo w B (clS s ⟨p0, 1, false, true⟩) ev w4) := Lib.hid (by rw [hcl]; exact WP.trans HB.out h4)
        clear h4 e hcl
        go_wp2_with fail
        go_end0
        exact ⟨rfl, H4.out⟩
    · obtain rfl : p1 = 2 := by unfold Pok at hpok; dsimp only at hpok; rcases hpok with h | h | h; exact absurd h.1 h1; exact h; exact absurd h.1 h3
      clear hpok h3 h1
      cases p2
      · have C2 := Lib.hid (stepHot_at HK.out.1 ⟨p0, 2, false, p3⟩ l HP.out.1 HP.out.2.2.1 HP.out.2.2.2.1 HP.out.2.2.2.2.1)
        go_enter Try.func62, Try.ntmps62
        go_wp2_with fail
        rw [← HW.out.1, ← HW.out.2]
        refine C2.out.mono ?_
        rintro e w4 ⟨rfl, h4⟩
        have hcl : clS s ⟨p0, 2, false, p3⟩ = turnp (setc s (cSt s)) ⟨p0, 2, false, p3⟩ := by
          unfold clS; rw [if_neg (show ¬ ((2 : Int) = 3) by decide), if_neg (fun e => absurd (show (2 : Int) = 1 from e.1) (by decide)), if_neg (show ¬ ((2 : Int) = 1) by decide), if_neg (show ¬ (false = true) by decide)]
        have H4 : Hid (WP lo w B (clS s ⟨p0, 2, false, p3⟩) ev w4) := Lib.hid (by rw [hcl]; exact WP.trans HK.out.2 h4)
        clear h4 hcl
        go_wp2_with fail
        go_end0
        exact ⟨rfl, H4.out⟩
      · have C0 : Calls Try.prog 77 #[.pointer (some ⟨B, 0, none⟩), .int .i64 0] w2 _ := endT_at HK.out.1 0 ⟨p0, 2, true, p3⟩ (by have h9 := HP.out.1; dsimp only; simp [h9]) HP.out.2.2.1 HP.out.2.2.2.2.2.1 HP.out.2.2.2.2.2.2
        have C := Lib.hid C0
        clear C0
        go_enter Try.func62, Try.ntmps62
        go_wp2_with fail
        rw [← HW.out.1, ← HW.out.2]
        refine C.out.mono ?_
        rintro e w3 ⟨rfl, r2, A2, c2, h2, hb2⟩
        have hfa := falls_with (setc s (cEn s)) (s.pg.set 0 ⟨p0, 2, false, p3⟩)
        have h2' : WK lo w3 B { (falls (setc s (cEn s))) with pg := s.pg.set 0 ⟨p0, 2, false, p3⟩ } r2 A2 c2 ev := by rw [← hfa]; exact h2
        have hpl : (s.pg.set 0 ⟨p0, 2, false, p3⟩) = ⟨p0, 2, false, p3⟩ :: l := by rw [HP.out.1]; rfl
        have C2 := Lib.hid (stepHot_at h2' ⟨p0, 2, false, p3⟩ l hpl (by show (s.pg.set 0 _).length ≤ 1000; rw [List.length_set]; exact HP.out.2.2.1) (by show Hd (falls (setc s (cEn s))).co (s.pg.set 0 _).length; rw [List.length_set, falls_co]; exact HP.out.2.2.2.1) (by show Hd (falls (setc s (cEn s))).te (s.pg.set 0 _).length; rw [List.length_set, falls_te]; exact HP.out.2.2.2.2.1))
        have HB := Lib.hid (HK.out.2.trans hb2)
        clear h2 hb2 h2'
        go_wp2_with fail
        refine C2.out.mono ?_
        rintro e w4 ⟨rfl, h4⟩
        have e := turn_with (s := falls (setc s (cEn s))) (q := ⟨p0, 2, true, p3⟩) (p := ⟨p0, 2, false, p3⟩) (by rw [falls_pg]; exact HP.out.1)
        rw [falls_pg] at e
        have hcl : clS s ⟨p0, 2, true, p3⟩ = turnp { (falls (setc s (cEn s))) with pg := s.pg.set 0 ⟨p0, 2, false, p3⟩ } ⟨p0, 2, false, p3⟩ := by
          rw [show (turnp { (falls (setc s (cEn s))) with pg := s.pg.set 0 ⟨p0, 2, false, p3⟩ } ⟨p0, 2, false, p3⟩) = turnp (falls (setc s (cEn s))) ⟨p0, 2, false, p3⟩ from e]
          unfold clS; rw [if_neg (show ¬ ((2 : Int) = 3) by decide), if_neg (fun e => absurd (show (2 : Int) = 1 from e.1) (by decide)), if_neg (show ¬ ((2 : Int) = 1) by decide), if_pos rfl]
        have H4 : Hid (WP lo w B (clS s ⟨p0, 2, true, p3⟩) ev w4) := Lib.hid (by rw [hcl]; exact WP.trans HB.out h4)
        clear h4 e hcl hfa
        go_wp2_with fail
        go_end0
        exact ⟨rfl, H4.out⟩
end
end Go.Proofs.Ytejcahkkpednfaa
namespace Go.Proofs.Ytejcahkkpednfaa
open Go.RowKit
open Go.Proofs.StackM (Pg Cf Ct St up many fnd fnd_at fnd_no)
open Go.Proofs.WheelM
set_option linter.unusedVariables false
set_option maxHeartbeats 1000000 in
theorem roomH_at (s : St) (r : R3) (h1 : 0 ≤ s.tg ∧ s.tg ≤ 1000) (h2 : 0 ≤ s.cf.c ∧ s.cf.c ≤ 1000) (w : World) : Calls Try.prog 61 #[sV s r] w fun e w' => e = .returned (.int .i64 (s.cf.c - s.tg)) ∧ Below w.heap.size w w' := by
  have e1 : (sA s r)[1]? = some (.int .i64 s.cf.c) := rfl
  have e4 : (sA s r)[4]? = some (.int .i64 s.tg) := rfl
  have hw : IntKind.i64.wrap (s.cf.c - s.tg) = s.cf.c - s.tg := by rw [IntKind.wrap_i64]; omega
  have HB := Lib.hid (alloc_below w (.cells (sA s r) 31))
  obtain ⟨a1, a2⟩ := h1
  obtain ⟨a3, a4⟩ := h2
  show Calls Try.prog 61 #[.agg (sA s r)] w _
  generalize s.cf.c = cc at *
  generalize s.tg = tt at *
  generalize sA s r = S at *
  go_enter Try.func61, Try.ntmps61
  go_wp2_with fail
  go_ret
  exact ⟨rfl, HB.out⟩
section
variable {lo B c : Nat} {w : World} {s : St} {r : R3} {A : Option Addr} {ev : List Int}
/-- the whole state is read out of the box -/
theorem WK.load (h : WK lo w B s r A c ev) : (loadVar 31 ⟨B, 0, none⟩).run Try.prog w = .ok (sV s r) w :=
  run_loadVar_mid (P := Try.prog) w B 0 31 (sA s r).toList _ (fun j v hv => by
    rw [Nat.zero_add, cell_of_head h.box]
    unfold spA
    have hj : j < 20 := (List.getElem?_eq_some_iff.1 hv).1
    rw [Array.getElem?_push_lt (by rw [sA_len]; exact hj)]
    rw [Array.getElem?_toList, Array.getElem?_eq_getElem (by rw [sA_len]; exact hj)] at hv
    exact hv) Try.underlying31 rfl info31
theorem WK.loadI (h : WK lo w B s r A c ev) : (Instr.loadAt 31 (.pointer (some ⟨B, 0, none⟩))).run Try.prog w = .ok (sV s r) w := by
  have := h.load
  simp [Instr.loadAt, Instr.sureAddr, this]
theorem qldK {ops : Array Oper} {rest : List Oper} {o : Oper} {a : Act} {C : World → Prop} {Q : Act → Prop} (x : Operand) (ho : o.op = .load 31 x) (hw : Region.wanted o (yielded ops a.tmps) = true) (hx : a.eval x = .pointer (some ⟨B, 0, none⟩)) (h : ∀ w, C w → WK lo w B s r A c ev)
    (hK : wpQuiet Try.prog ops C Q rest (a.put o.dst (sV s r))) : wpQuiet Try.prog ops C Q (o :: rest) a := by
  refine wpQuiet_step fun K hK2 => ?_
  rw [if_pos hw]
  refine ⟨sV s r, fun w hC => ?_, hK2 _ hK⟩
  unfold Oper.quietAt
  have hb := (h w hC).loadI
  simp [execOp, ho, hx, hb, Oper.quietUpon]
theorem ldK {ops : Array Oper} {rest : List Oper} {o : Oper} {a : Act} {Q : Exit → Act → World → Prop} (hgd : o.guard = none) (x : Operand) (ho : o.op = .load 31 x) (hx : a.eval x = .pointer (some ⟨B, 0, none⟩)) (h : WK lo w B s r A c ev)
    (hK : wpList Try.prog ops Q rest (a.put o.dst (sV s r)) w) : wpList Try.prog ops Q (o :: rest) a w := by
  refine wpList_step fun K hK2 => ?_
  rw [if_pos (by simp [Region.wanted, hgd])]
  unfold Oper.wp
  simp [execOp, ho, hx, h.loadI]
  exact hK2 _ _ hK
set_option maxHeartbeats 8000000 in
set_option maxRecDepth 100000 in
theorem pcool_at (h : WK lo w B s r A c ev) (hw : Ww s) (hl : s.pg.length ≤ 1000) : Calls Try.prog 38 #[.pointer (some ⟨B, 0, none⟩)] w fun e w' => e = .returned (.tuple #[]) ∧ WP lo w B (cool s) ev w' := by
  have H0 := Lib.hid h
  have HP0 := Lib.hid (And.intro hw hl)
  clear h hw hl
  go_enter Try.func38, Try.ntmps38
  go_wp2_with fail
  go_loopg [] (msC s) (fun k wr => ∃ (cur : St) (rr : R3) (AA : Option Addr) (cc : Nat), Hid (WK lo wr B cur rr AA cc ev ∧ Below lo w wr) ∧ Hid (Ww cur ∧ cur.pg.length ≤ 1000 ∧ cool cur = cool s ∧ k = msC cur))
  case atStart => exact ⟨s, r, A, c, Lib.hid ⟨H0.out, Below.refl _ _⟩, Lib.hid ⟨HP0.out.1, HP0.out.2, rfl, rfl⟩⟩
  case round =>
    obtain ⟨cur, rr, AA, cc, HF, HC⟩ := hrel
    have hb : cur.pg.length ≤ 1000000 := by have := HC.out.2.1; omega
    have C60 := Lib.hid (grown_call (w := wr) (f := 60) (args := #[.slice rr.a1 cur.pg.length rr.c1, .int .i64 1]) (fun V hV => count_at cur.pg 1 rr.a1 cur.pg.length rr.c1 rfl hb V (PRow.kept HF.out.1.prow hV)))
    have c61 := (grown_call (w := wr) (f := 61) (args := #[sV cur rr]) (fun V hV => roomH_at cur rr (by have := HC.out.1.tg; have := HC.out.1.ck.2.1; omega) (by have := HC.out.1.ck.2.1; omega) V))
    have hk2 : ∀ W : World, (∃ p : GrB wr, W = p.v) → WK lo W B cur rr AA cc ev := fun W ⟨p, e⟩ => e ▸ HF.out.1.kept p.h
    have HKK := Lib.hid hk2
    clear hk2
    have C61 := Lib.hid c61
    clear c61
    have hk : ∀ p : GrB wr, WK lo p.v B cur rr AA cc ev := fun p => HF.out.1.kept p.h
    have d5 := fun p => (hk p).at5
    obtain ⟨mm, hmm⟩ : ∃ z, z = (many cur.pg 1 : Int) := ⟨_, rfl⟩
    obtain ⟨rm', hrm⟩ : ∃ z, z = cur.cf.c - cur.tg := ⟨_, rfl⟩
    rw [← hmm] at C60
    rw [← hrm] at C61
    have HCD := Lib.hid (And.intro hmm hrm)
    clear hmm hrm hk hb
    by_cases hgt : rm' < mm
    · have hgc : Gc cur := by unfold Gc; rw [← HCD.out.1, ← HCD.out.2]; exact hgt
      have hhot := HC.out.1.hot hgc
      obtain ⟨p, l, hpl⟩ : ∃ p l, cur.pg = p :: l := by
        cases e : cur.pg with
        | nil => rw [e] at hhot; simp [many] at hhot
        | cons p l => exact ⟨p, l, rfl⟩
      have hE : cool (clS cur p) = cool s := by rw [← HC.out.2.2.1]; exact (cool_step hpl hgc hhot).symm
      have hM : msC (clS cur p) < gk := by rw [HC.out.2.2.2]; exact msC_lt HC.out.1 hpl hhot HC.out.2.1
      have hW2 := HC.out.1.clS hpl
      have hL2 := clS_len HC.out.1 hpl HC.out.2.1
      have HP := Lib.hid (And.intro hpl (And.intro hE (And.intro hM (And.intro hW2 hL2))))
      clear hgc hhot hE hM hW2 hL2 hpl
      go_wp2_with fail
      refine region_grown (by kernel_rfl) (by kernel_rfl) ?_
      repeat (first | (refine qldK (.tmp 10) rfl rfl rfl HKK.out ?_; (try simp only [put_laws])) | go_big_quiet_step (first | (go_at_call 60; exact C60.out _) | (go_at_call 61; exact C61.out _)))
      refine wpQuiet_nil ?_
      rintro w1 ⟨p9, hp9⟩
      have hb1 : Below wr.heap.size wr w1 := hp9 ▸ p9.h
      clear hp9 p9
      have h1 := HF.out.1.kept hb1
      have CL := Lib.hid (plookC_at h1 p l HP.out.1 HC.out.1 HC.out.2.1)
      have H1 := Lib.hid (HF.out.2.trans (hb1.mono HF.out.1.low))
      clear d5 hb1 h1 C60 C61
      go_wp2_with fail
      refine CL.out.mono ?_
      rintro e w3 ⟨rfl, r3, A3, c3, h3, hb3⟩
      have H3 := Lib.hid (And.intro h3 (H1.out.trans hb3))
      clear h3 hb3 CL H1
      go_wp2_with fail
      go_roundg (msC (clS cur p))
      case rel => exact ⟨clS cur p, r3, A3, c3, H3, Lib.hid ⟨HP.out.2.2.2.1, HP.out.2.2.2.2, HP.out.2.1, rfl⟩⟩
      case measure => exact HP.out.2.2.1
    · have HE : Hid (cool s = cur) := Lib.hid (by rw [← HC.out.2.2.1]; exact cool_done (by rw [← HCD.out.1, ← HCD.out.2]; exact hgt))
      have hd : decide (rm' < mm) = false := decide_eq_false hgt
      go_wp2_with fail
      refine region_grown (by kernel_rfl) (by kernel_rfl) ?_
      repeat (first | (refine qldK (.tmp 10) rfl rfl rfl HKK.out ?_; (try simp only [put_laws])) | go_big_quiet_step (first | (go_at_call 60; exact C60.out _) | (go_at_call 61; exact C61.out _)))
      refine wpQuiet_nil ?_
      rintro w1 ⟨p9, hp9⟩
      have hb1 : Below wr.heap.size wr w1 := hp9 ▸ p9.h
      clear hp9 p9
      have H1 := Lib.hid ((HF.out.1.kept hb1).to (HF.out.2.trans (hb1.mono HF.out.1.low)))
      clear d5 hb1 C60 C61
      go_wp2_with fail
      go_end0
      rw [HE.out]
      exact ⟨rfl, H1.out⟩
set_option maxHeartbeats 1000000 in
theorem praise_at (h : WK lo w B s r A c ev) (k : Int) (hw : Ww (head s ⟨k, 1, false, false⟩)) (hl : s.pg.length + 1 ≤ 1000) : Calls Try.prog 41 #[.pointer (some ⟨B, 0, none⟩), .int .u64 k] w fun e w' => e = .returned (.tuple #[]) ∧ WP lo w B (cool (head (raW s) ⟨k, 1, false, false⟩)) ev w' := by
  have C := Lib.hid (phead_at h k 1 false false (by omega))
  have HP := Lib.hid (And.intro hw hl)
  clear h hw hl
  go_enter Try.func41, Try.ntmps41
  go_wp2_with fail
  refine C.out.mono ?_
  rintro e w2 ⟨rfl, r2, A2, c2, h2, hb2⟩
  have d12 := h2.at12
  have f12 := h2.free 12
  have hup := wrap_up s.ct.ra
  have hct : (head s ⟨k, 1, false, false⟩).ct = s.ct := rfl
  rw [hct] at d12
  have hx := h2.ct12 (up s.ct.ra)
  have C2 := Lib.hid (pcool_at hx (HP.out.1.setc _) (by show (s.pg ++ [_]).length ≤ 1000; rw [List.length_append]; exact HP.out.2))
  have H := Lib.hid (hb2.trans (h2.set1 12 (.int .u64 (up s.ct.ra))))
  clear h2 hb2 hct hx
  go_wp2_with fail
  refine C2.out.mono ?_
  rintro e w3 ⟨rfl, h3⟩
  have H3 := Lib.hid (WP.trans H.out h3)
  clear h3
  go_wp2_with fail
  go_end0
  exact ⟨rfl, H3.out⟩
end
end Go.Proofs.Ytejcahkkpednfaa
