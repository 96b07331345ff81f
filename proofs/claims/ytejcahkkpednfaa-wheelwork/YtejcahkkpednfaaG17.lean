/-
  The state that is worked on: a look of the cold hand.
  The state that is worked on: pages are reclaimed.
  The state that is worked on: a look of the test hand.
-/
import Derived.Test.YtejcahkkpednfaaG16
import Derived.Test.YtejcahkkpednfaaG10
namespace Go.Proofs.Ytejcahkkpednfaa
open Go.RowKit
open Go.Proofs.StackM (Pg Cf Ct St up many fnd fnd_at fnd_no)
open Go.Proofs.WheelM
set_option linter.unusedVariables false
/-- one look of the cold hand, and what is evicted by it -/
def lkS (s : St) (p : Pg) : St := if p.kind ≠ 2 then cStep s else if p.mark = true then mkS (setc s (cSt s)) p else evS (setc s (cSt s)) p
def lkO (p : Pg) : List Int := if p.kind ≠ 2 then [] else if p.mark = true then [] else [p.key]
section
variable {lo B c : Nat} {w : World} {s : St} {r : R3} {A : Option Addr} {ev : List Int}
set_option maxHeartbeats 4000000 in
set_option maxRecDepth 100000 in
theorem plookR_at (h : WK lo w B s r A c ev) (i : Nat) (p : Pg) (hi : s.co = (i : Int)) (hp : s.pg[i]? = some p) (hw : Ww s) (hl : s.pg.length ≤ 1000) (hev : ev.length ≤ 5000) : Calls Try.prog 64 #[.pointer (some ⟨B, 0, none⟩)] w fun e w' => e = .returned (.tuple #[]) ∧ WP lo w B (lkS s p) (ev ++ lkO p) w' := by
  obtain ⟨hlt, hpi⟩ := List.getElem?_eq_some_iff.1 hp
  have d19 := h.at19
  have f19 := h.free 19
  have hup := wrap_up s.ct.st
  have h1 := h.ct19 (up s.ct.st)
  obtain ⟨w1, hw1⟩ : ∃ w1, w1 = w.setCell ⟨B, 19, none⟩ (.int .u64 (up s.ct.st)) := ⟨_, rfl⟩
  have hb1 : Below lo w w1 := by rw [hw1]; exact h.set1 19 _
  rw [← hw1] at h1
  obtain ⟨g, ha, hcap, q0, q1, q2, q3, fz⟩ := h1.page (i := i) hlt
  have hz := h1.kept (alloc_below w1 (.cells pg0 58))
  obtain ⟨g', ha', _, y0, y1, y2, y3, fz0⟩ := hz.page (i := i) hlt
  obtain rfl : g = g' := by rw [ha] at ha'; injection ha' with h; injection h
  dsimp only at q0 q1 q2 q3 y0 y1 y2 y3
  rw [hpi] at q0 q1 q2 q3 y0 y1 y2 y3
  have x5 := h1.at5
  have x8 := h1.at8
  have z5 := hz.at5
  have z8 := hz.at8
  dsimp only at x5 x8 z5 z8
  rw [ha] at x5 z5
  rw [hi] at x8 z8
  obtain ⟨w2, hw2⟩ : ∃ w2, w2 = (w1.alloc (.cells (pgc p) 58)).drew := ⟨_, rfl⟩
  have hb2 : Below w1.heap.size w1 w2 := by rw [hw2]; exact below_drew (alloc_below w1 _) 1
  have h2 := h1.kept hb2
  have he : w2.heap[w1.heap.size]? = some (.cells (pgc p) 58 (0, 0)) := by rw [hw2]; exact Array.getElem?_push_size
  have e1 : w2.cell? ⟨w1.heap.size, 1, none⟩ = some (.int .i64 p.kind) := by rw [cell_of_head he]; rfl
  have e3 : w2.cell? ⟨w1.heap.size, 3, none⟩ = some (.bool p.mark) := by rw [cell_of_head he]; rfl
  have v8 := h2.at8
  have f8 := h2.free 8
  dsimp only at v8
  rw [hi] at v8
  have HB := Lib.hid (And.intro h2 (hb1.trans (hb2.mono h1.low)))
  have HW := Lib.hid (And.intro hw1 hw2)
  have HP := Lib.hid (And.intro hi (And.intro hp (And.intro hw (And.intro hl (And.intro hlt hev)))))
  obtain ⟨n, hn⟩ : ∃ n, n = s.pg.length := ⟨_, rfl⟩
  rw [← hn] at x5 z5
  have z0 : (0 : Int) ≤ (i : Int) := by omega
  have z1 : (i : Int) < (n : Int) := by omega
  clear h h1 hw1 hb1 hz fz fz0 hw2 hb2 h2 he hpi hp hw hl ha ha' hcap hi hn hev
  obtain ⟨p0, p1, p2, p3⟩ := p
  dsimp only at q0 q1 q2 q3 y0 y1 y2 y3 e1 e3
  by_cases hk : p1 = 2
  · subst hk
    cases p3
    · have C := Lib.hid (pevict_at HB.out.1 i ⟨p0, 2, p2, false⟩ HP.out.1 HP.out.2.1 (HP.out.2.2.1.setc _) HP.out.2.2.2.1 HP.out.2.2.2.2.2)
      go_enter Try.func64, Try.ntmps64
      go_wp2_with fail
      rw [← HW.out.1]
      go_region
      rw [← HW.out.2]
      clear q0 q1 q2 q3 y0 y1 y2 y3 x5 x8 z5 z8 d19 f19 hup
      go_wp2_with fail
      refine C.out.mono ?_
      rintro e w7 ⟨rfl, h7⟩
      have H7 := Lib.hid (WP.trans HB.out.2 h7)
      clear h7
      go_wp2_with fail
      go_end0
      exact ⟨rfl, H7.out⟩
    · have C := Lib.hid (pspare_at HB.out.1 i ⟨p0, 2, p2, true⟩ HP.out.1 HP.out.2.1 rfl rfl (HP.out.2.2.1.setc _) HP.out.2.2.2.1)
      go_enter Try.func64, Try.ntmps64
      go_wp2_with fail
      rw [← HW.out.1]
      go_region
      rw [← HW.out.2]
      clear q0 q1 q2 q3 y0 y1 y2 y3 x5 x8 z5 z8 d19 f19 hup
      go_wp2_with fail
      refine C.out.mono ?_
      rintro e w7 ⟨rfl, h7⟩
      have H7 := Lib.hid (WP.trans HB.out.2 h7)
      clear h7
      go_wp2_with fail
      go_end0
      refine ⟨rfl, ?_⟩
      rw [show lkO ⟨p0, 2, p2, true⟩ = [] from rfl, List.append_nil]
      exact H7.out
  · have C := Lib.hid (pnext_at HB.out.1 s.co (by have k1 := HP.out.1; have k2 := HP.out.2.2.2.2.1; have k3 := HP.out.2.2.2.1; omega) (by show 0 < s.pg.length ∧ s.pg.length ≤ 1000; have := HP.out.2.2.2.2.1; have := HP.out.2.2.2.1; omega))
    have h7 := HB.out.1.coTo (onw s.co s.pg.length)
    have hb7 : Below lo w (w2.setCell ⟨B, 8, none⟩ (.int .i64 (onw s.co s.pg.length))) := below_setCell HB.out.2 HB.out.1.hlo
    have H7 := Lib.hid (h7.to hb7)
    have hE : lkS s ⟨p0, p1, p2, p3⟩ = { setc s (cSt s) with co := onw s.co s.pg.length } := by unfold lkS; rw [if_pos hk]; rfl
    have hO : lkO ⟨p0, p1, p2, p3⟩ = [] := by unfold lkO; rw [if_pos hk]
    rw [hE, hO, List.append_nil]
    have hk' : (p1 == 2) = false := by simpa using hk
    have C2 : Hid (Calls Try.prog 79 #[.pointer (some ⟨B, 0, none⟩), .int .i64 (i : Int)] w2 fun e w' => e = .returned (.int .i64 (onw s.co s.pg.length)) ∧ w' = w2) := Lib.hid (by have h9 := C.out; dsimp only [setc] at h9; rw [HP.out.1] at h9 ⊢; exact h9)
    clear h7 hb7 hE hO hk C
    go_enter Try.func64, Try.ntmps64
    go_wp2_with fail
    rw [← HW.out.1]
    go_region
    rw [← HW.out.2]
    clear q0 q1 q2 q3 y0 y1 y2 y3 x5 x8 z5 z8 d19 f19 hup
    go_wp2_with fail
    refine C2.out.mono ?_
    rintro e w7 ⟨rfl, h7⟩
    subst h7
    go_wp2_with fail
    go_end0
    exact ⟨rfl, H7.out⟩
end
end Go.Proofs.Ytejcahkkpednfaa
namespace Go.Proofs.Ytejcahkkpednfaa
open Go.RowKit
open Go.Proofs.StackM (Pg Cf Ct St up many fnd fnd_at fnd_no)
open Go.Proofs.WheelM
set_option linter.unusedVariables false
def msL (s : St) : Nat := kps s.pg * 1100000 + msR s
theorem msR_le {s : St} (hl : s.pg.length ≤ 1000) : msR s < 1100000 := by
  have h1 : mks s.pg ≤ s.pg.length := List.countP_le_length
  have h2 := d2_le s
  have h3 : mks s.pg * 1001 ≤ 1000 * 1001 := Nat.mul_le_mul_right _ (by omega)
  unfold msR
  omega
/-- one look of the cold hand leaves so much -/
structure Lk (most : Int) (s t : St) (o : List Int) : Prop where
  w : Ww t
  r : ¬ Gc t
  cf : t.cf = s.cf
  n : t.pg.length ≤ s.pg.length
  k : kps t.pg + o.length = kps s.pg
  m : msL t < msL s
  e1 : (spillW most s).1 = (spillW most t).1
  e2 : (spillW most s).2 = o ++ (spillW most t).2
theorem spill_idle {most : Int} {s t : St} (hb : B s) (ht : B t) (hr : rcl s = rcl t) (hk : kps t.pg = kps s.pg) (hm : (kps s.pg : Int) > most) : spillW most s = spillW most t := by
  have h1 := (rcl_rc hb).k
  have h2 := (rcl_rc ht).k
  rw [spillW_step hm (by omega), spillW_step (s := t) (by rw [hk]; exact hm) (by omega), hr]
theorem lk_all {most : Int} {s : St} {p : Pg} (hb : B s) (h : s.pg[s.co.toNat]? = some p) (hl : s.pg.length ≤ 1000) (hm : (kps s.pg : Int) > most) : Lk most s (lkS s p) (lkO p) := by
  unfold lkS lkO
  by_cases hk : p.kind = 2
  · have hn2 : ¬ p.kind ≠ 2 := fun e => e hk
    rw [if_neg hn2, if_neg hn2]
    by_cases hk3 : p.mark = true
    · rw [if_pos hk3, if_pos hk3]
      obtain ⟨a, b, c⟩ := mkS_all (s := setc s (cSt s)) (hb.w.setc _) hb.r h hk hk3
      have e := spill_idle hb (hb.mark h hk hk3) (rcl_mark h hk hk3) c.k hm
      have hms := msR_mark hb h hk hk3 hl
      have hkk : kps (mkS (setc s (cSt s)) p).pg = kps s.pg := c.k
      exact ⟨a, b, c.cf, c.n, by rw [hkk]; rfl, by unfold msL; rw [hkk]; omega, by rw [e], by rw [e]; rfl⟩
    · have hk3' : p.mark = false := by simpa using hk3
      rw [if_neg hk3, if_neg hk3]
      have hrc := rcl_rc hb
      have hE : rcl s = (evS (setc s (cSt s)) p, p.key) := by
        unfold evS
        by_cases ht : p.test = false
        · rw [rcl_out h hk hk3' ht, if_pos (show p.test = false from ht)]; rfl
        · rw [rcl_gone h hk hk3' (by simpa using ht), if_neg (show ¬ p.test = false from ht)]; rfl
      have hst := spillW_step hm (by have := hrc.k; omega)
      rw [hE] at hrc hst
      dsimp only at hrc hst
      refine ⟨hrc.w, hrc.r, hrc.cf, hrc.n, hrc.k, ?_, by rw [hst], by rw [hst]; rfl⟩
      have h1 := msR_le (s := evS (setc s (cSt s)) p) (Nat.le_trans hrc.n hl)
      have h2 := hrc.k
      unfold msL
      omega
  · rw [if_pos hk, if_pos hk]
    have e := spill_idle hb hb.step (rcl_idle h hk ⟨hb.w.hc.1, hb.cold⟩) rfl hm
    have hms := msR_idle h hk hb.w.hc.1 hb.cold
    have hbs := hb.step
    exact ⟨hbs.w, hbs.r, rfl, Nat.le_refl _, rfl, by unfold msL; show kps s.pg * 1100000 + _ < _; omega, by rw [e], by rw [e]; rfl⟩
section
variable {lo B c : Nat} {w : World} {s : St} {r : R3} {A : Option Addr} {ev : List Int}
set_option maxHeartbeats 4000000 in
set_option maxRecDepth 100000 in
theorem preclaim_at (h : WK lo w B s r A c ev) (most : Int) (hw : Ww s) (hr : ¬ Gc s) (hm : s.cf.c - 1 ≤ most) (hl : s.pg.length ≤ 1000) (hev : ev.length ≤ 3000) : Calls Try.prog 39 #[.pointer (some ⟨B, 0, none⟩), .int .i64 most] w fun e w' => e = .returned (.tuple #[]) ∧ WP lo w B (spillW most s).1 (ev ++ (spillW most s).2) w' := by
  have H0 := Lib.hid h
  have HP0 := Lib.hid (And.intro hw (And.intro hr (And.intro hm (And.intro hl hev))))
  clear h hw hr hm hl hev
  go_enter Try.func39, Try.ntmps39
  go_wp2_with fail
  go_loopg [] (msL s) (fun k wr => ∃ (cur : St) (rr : R3) (AA : Option Addr) (cc : Nat) (out : List Int), Hid (WK lo wr B cur rr AA cc (ev ++ out) ∧ Below lo w wr) ∧ Hid ((Ww cur ∧ ¬ Gc cur ∧ cur.cf = s.cf ∧ cur.pg.length ≤ 1000 ∧ out.length + kps cur.pg ≤ 2000) ∧ (spillW most s).1 = (spillW most cur).1 ∧ (spillW most s).2 = out ++ (spillW most cur).2 ∧ k = msL cur))
  case atStart =>
    refine ⟨s, r, A, c, [], Lib.hid ⟨by rw [List.append_nil]; exact H0.out, Below.refl _ _⟩, Lib.hid ⟨⟨HP0.out.1, HP0.out.2.1, rfl, HP0.out.2.2.2.1, ?_⟩, rfl, rfl, rfl⟩⟩
    have h1 := HP0.out.2.2.2.1
    have h2 := many_le s.pg 1
    have h3 := many_le s.pg 2
    unfold kps
    simp only [List.length_nil]
    omega
  case round =>
    obtain ⟨cur, rr, AA, cc, out, HF, HC⟩ := hrel
    have d5 := HF.out.1.at5
    have C := pkepts_at cur.pg rr.a1 cur.pg.length rr.c1 rfl (by have := HC.out.1.2.2.2.1; omega) wr HF.out.1.prow
    have hkl : kps cur.pg ≤ 2000 := by have := HC.out.1.2.2.2.2; omega
    obtain ⟨nk, hnk⟩ : ∃ z, z = (kps cur.pg : Int) := ⟨_, rfl⟩
    rw [← hnk] at C
    have CC := Lib.hid C
    have HNK := Lib.hid hnk
    clear C hkl hnk
    by_cases hgt : most < nk
    · have hgt2 : (kps cur.pg : Int) > most := by rw [← HNK.out]; exact hgt
      have hb : Go.Proofs.WheelM.B cur := ⟨HC.out.1.1, HC.out.1.2.1, by have h1 := HP0.out.2.2.1; rw [HC.out.1.2.2.1]; omega⟩
      obtain ⟨p, hp⟩ := hb.at
      have hlk := lk_all hb hp HC.out.1.2.2.2.1 hgt2
      have HL := Lib.hid (And.intro hp hlk)
      clear hgt2 hb hp hlk
      go_wp2_with fail
      refine CC.out.mono ?_
      rintro e w2 ⟨rfl, hb2⟩
      have CL := Lib.hid (plookR_at (HF.out.1.kept hb2) cur.co.toNat p (hd_nat HC.out.1.1.hc) HL.out.1 HC.out.1.1 HC.out.1.2.2.2.1 (by rw [List.length_append]; have := HP0.out.2.2.2.2; have := HC.out.1.2.2.2.2; omega))
      have HB := Lib.hid (HF.out.2.trans (hb2.mono HF.out.1.low))
      clear hb2 CC d5
      go_wp2_with fail
      refine CL.out.mono ?_
      rintro e w3 ⟨rfl, r3, A3, c3, h3, hb3⟩
      have H3 : Hid (WK lo w3 B (lkS cur p) r3 A3 c3 (ev ++ (out ++ lkO p)) ∧ Below lo w w3) := Lib.hid ⟨by rw [← List.append_assoc]; exact h3, HB.out.trans hb3⟩
      clear h3 hb3 CL HB
      go_wp2_with fail
      go_roundg (msL (lkS cur p))
      case rel =>
        refine ⟨lkS cur p, r3, A3, c3, out ++ lkO p, H3, Lib.hid ⟨⟨HL.out.2.w, HL.out.2.r, HL.out.2.cf.trans HC.out.1.2.2.1, Nat.le_trans HL.out.2.n HC.out.1.2.2.2.1, ?_⟩, HC.out.2.1.trans HL.out.2.e1, ?_, rfl⟩⟩
        · rw [List.length_append]; have h1 := HL.out.2.k; have h2 := HC.out.1.2.2.2.2; omega
        · rw [HC.out.2.2.1, HL.out.2.e2, List.append_assoc]
      case measure => rw [HC.out.2.2.2]; exact HL.out.2.m
    · have hd : decide (most < nk) = false := decide_eq_false hgt
      have HE : Hid ((spillW most s).1 = cur ∧ (spillW most s).2 = out) := Lib.hid (by
        have := spillW_done (most := most) (s := cur) (by rw [← HNK.out]; exact hgt)
        exact ⟨by rw [HC.out.2.1, this], by rw [HC.out.2.2.1, this]; simp⟩)
      go_wp2_with fail
      refine CC.out.mono ?_
      rintro e w2 ⟨rfl, hb2⟩
      have H1 := Lib.hid ((HF.out.1.kept hb2).to (HF.out.2.trans (hb2.mono HF.out.1.low)))
      clear hb2 CC d5
      go_wp2_with fail
      go_end0
      rw [HE.out.1, HE.out.2]
      exact ⟨rfl, H1.out⟩
end
end Go.Proofs.Ytejcahkkpednfaa
namespace Go.Proofs.Ytejcahkkpednfaa
open Go.RowKit
open Go.Proofs.StackM (Pg Cf Ct St up many fnd fnd_at fnd_no)
open Go.Proofs.WheelM
set_option linter.unusedVariables false
section
variable {lo B c : Nat} {w : World} {s : St} {r : R3} {A : Option Addr} {ev : List Int}
set_option maxHeartbeats 4000000 in
set_option maxRecDepth 100000 in
theorem plookE_at (h : WK lo w B s r A c ev) (i : Nat) (p : Pg) (hi : s.te = (i : Int)) (hp : s.pg[i]? = some p) (hw : Ww s) (hl : s.pg.length ≤ 1000) : Calls Try.prog 65 #[.pointer (some ⟨B, 0, none⟩)] w fun e w' => e = .returned (.tuple #[]) ∧ WP lo w B (exS s p) ev w' := by
  obtain ⟨hlt, hpi⟩ := List.getElem?_eq_some_iff.1 hp
  have d19 := h.at19
  have f19 := h.free 19
  have hup := wrap_up s.ct.st
  have h1 := h.ct19 (up s.ct.st)
  obtain ⟨w1, hw1⟩ : ∃ w1, w1 = w.setCell ⟨B, 19, none⟩ (.int .u64 (up s.ct.st)) := ⟨_, rfl⟩
  have hb1 : Below lo w w1 := by rw [hw1]; exact h.set1 19 _
  rw [← hw1] at h1
  obtain ⟨g, ha, hcap, q0, q1, q2, q3, fz⟩ := h1.page (i := i) hlt
  have hz := h1.kept (alloc_below w1 (.cells pg0 58))
  obtain ⟨g', ha', _, y0, y1, y2, y3, fz0⟩ := hz.page (i := i) hlt
  obtain rfl : g = g' := by rw [ha] at ha'; injection ha' with h; injection h
  dsimp only at q0 q1 q2 q3 y0 y1 y2 y3
  rw [hpi] at q0 q1 q2 q3 y0 y1 y2 y3
  have x5 := h1.at5
  have x9 := h1.at9
  have z5 := hz.at5
  have z9 := hz.at9
  dsimp only at x5 x9 z5 z9
  rw [ha] at x5 z5
  rw [hi] at x9 z9
  obtain ⟨w2, hw2⟩ : ∃ w2, w2 = (w1.alloc (.cells (pgc p) 58)).drew := ⟨_, rfl⟩
  have hb2 : Below w1.heap.size w1 w2 := by rw [hw2]; exact below_drew (alloc_below w1 _) 1
  have h2 := h1.kept hb2
  have he : w2.heap[w1.heap.size]? = some (.cells (pgc p) 58 (0, 0)) := by rw [hw2]; exact Array.getElem?_push_size
  have e1 : w2.cell? ⟨w1.heap.size, 1, none⟩ = some (.int .i64 p.kind) := by rw [cell_of_head he]; rfl
  have e2 : w2.cell? ⟨w1.heap.size, 2, none⟩ = some (.bool p.test) := by rw [cell_of_head he]; rfl
  have v9 := h2.at9
  have f9 := h2.free 9
  dsimp only at v9
  rw [hi] at v9
  have htg : 1 ≤ s.tg ∧ s.tg ≤ 1000 := by have := hw.tg; have := hw.ck.2.1; omega
  have HB := Lib.hid (And.intro h2 (hb1.trans (hb2.mono h1.low)))
  have HW := Lib.hid (And.intro hw1 hw2)
  have HP := Lib.hid (And.intro hi (And.intro hp (And.intro hw (And.intro hl (And.intro hlt htg)))))
  obtain ⟨n, hn⟩ : ∃ n, n = s.pg.length := ⟨_, rfl⟩
  rw [← hn] at x5 z5
  have z0 : (0 : Int) ≤ (i : Int) := by omega
  have z1 : (i : Int) < (n : Int) := by omega
  have hit : s.te.toNat = i := by omega
  have HIT := Lib.hid hit
  clear h h1 hw1 hb1 hz fz fz0 hw2 hb2 h2 he hpi hp hw hl ha ha' hcap hi hn htg hit
  obtain ⟨p0, p1, p2, p3⟩ := p
  dsimp only at q0 q1 q2 q3 y0 y1 y2 y3 e1 e2
  by_cases hk3 : p1 = 3
  · subst hk3
    have C := Lib.hid (forget_at HB.out.1 i HP.out.2.2.2.2.1 HP.out.2.2.2.1 HP.out.2.2.1.hc HP.out.2.2.1.ht HP.out.2.2.2.2.2.1 HP.out.2.2.2.2.2.2)
    go_enter Try.func65, Try.ntmps65
    go_wp2_with fail
    rw [← HW.out.1]
    go_region
    rw [← HW.out.2]
    clear q0 q1 q2 q3 y0 y1 y2 y3 x5 x9 z5 z9 d19 f19 hup
    go_wp2_with fail
    refine C.out.mono ?_
    rintro e w7 ⟨rfl, h7⟩
    have H7 := Lib.hid (WP.trans HB.out.2 h7)
    clear h7
    go_wp2_with fail
    (try simp only [Exit.inBlock, Exit.then])
    refine bodyPost_ret (results_none rfl _ _ _) rfl ?_
    refine ⟨rfl, ?_⟩
    have hE : exS s ⟨p0, 3, p2, p3⟩ = falls (leave (setc s (cFo s)) i) := by unfold exS; rw [if_pos rfl]; unfold cF3; rw [HIT.out]
    rw [hE]
    exact H7.out
  · by_cases hk2 : p1 = 2 ∧ p2 = true
    · obtain ⟨rfl, rfl⟩ := hk2
      have C := Lib.hid (endT_at HB.out.1 i ⟨p0, 2, true, p3⟩ HP.out.2.1 HP.out.2.2.2.1 HP.out.2.2.2.2.2.1 HP.out.2.2.2.2.2.2)
      go_enter Try.func65, Try.ntmps65
      go_wp2_with fail
      rw [← HW.out.1]
      go_region
      rw [← HW.out.2]
      clear q0 q1 q2 q3 y0 y1 y2 y3 x5 x9 z5 z9 d19 f19 hup
      go_wp2_with fail
      refine C.out.mono ?_
      rintro e w7 ⟨rfl, r7, A7, c7, h7, hb7⟩
      obtain ⟨S, hS⟩ : ∃ S, S = falls { setc s (cEn s) with pg := s.pg.set i ⟨p0, 2, false, p3⟩ } := ⟨_, rfl⟩
      have h7' : WK lo w7 B S r7 A7 c7 ev := by rw [hS]; exact h7
      have hSl : S.pg.length = s.pg.length := by rw [hS, falls_pg]; exact List.length_set
      have hSt : S.te = s.te := by rw [hS, falls_te]; rfl
      have t9 := h7'.at9
      have g9 := h7'.free 9
      rw [hSt, HP.out.1] at t9
      have C2 := pnext_at h7' S.te (by rw [hSt]; have k1 := HP.out.1; have k2 := HP.out.2.2.2.2.1; have k3 := HP.out.2.2.2.1; omega) (by rw [hSl]; have k2 := HP.out.2.2.2.2.1; have k3 := HP.out.2.2.2.1; omega)
      rw [hSl, hSt] at C2
      have h8 := h7'.teTo (onw s.te s.pg.length)
      have hb8 : Below lo w (w7.setCell ⟨B, 9, none⟩ (.int .i64 (onw s.te s.pg.length))) := below_setCell (HB.out.2.trans hb7) h7.hlo
      have hE : exS s ⟨p0, 2, true, p3⟩ = { S with te := onw s.te s.pg.length } := by unfold exS; rw [if_neg (show ¬ ((2 : Int) = 3) by decide), if_pos ⟨rfl, rfl⟩]; unfold cE3; rw [HIT.out, hS]
      have H8 := Lib.hid (h8.to hb8)
      have C3 : Hid (Calls Try.prog 79 #[.pointer (some ⟨B, 0, none⟩), .int .i64 (i : Int)] w7 fun e w' => e = .returned (.int .i64 (onw s.te s.pg.length)) ∧ w' = w7) := Lib.hid (by have h9 := C2; rw [HP.out.1] at h9 ⊢; exact h9)
      have HE := Lib.hid hE
      clear h7 h7' hb7 hS hSl hSt C2 h8 hb8 hE C
      go_wp2_with fail
      refine C3.out.mono ?_
      rintro e w9 ⟨rfl, h9⟩
      subst h9
      go_wp2_with fail
      go_end0
      rw [HE.out]
      exact ⟨rfl, H8.out⟩
    · have C := Lib.hid (pnext_at HB.out.1 s.te (by have k1 := HP.out.1; have k2 := HP.out.2.2.2.2.1; have k3 := HP.out.2.2.2.1; omega) (by show 0 < s.pg.length ∧ s.pg.length ≤ 1000; have := HP.out.2.2.2.2.1; have := HP.out.2.2.2.1; omega))
      have h7 := HB.out.1.teTo (onw s.te s.pg.length)
      have hb7 : Below lo w (w2.setCell ⟨B, 9, none⟩ (.int .i64 (onw s.te s.pg.length))) := below_setCell HB.out.2 HB.out.1.hlo
      have H7 := Lib.hid (h7.to hb7)
      have hE : exS s ⟨p0, p1, p2, p3⟩ = { setc s (cSt s) with te := onw s.te s.pg.length } := by unfold exS; rw [if_neg hk3, if_neg hk2]; rfl
      rw [hE]
      have C2 : Hid (Calls Try.prog 79 #[.pointer (some ⟨B, 0, none⟩), .int .i64 (i : Int)] w2 fun e w' => e = .returned (.int .i64 (onw s.te s.pg.length)) ∧ w' = w2) := Lib.hid (by have h9 := C.out; dsimp only [setc] at h9; rw [HP.out.1] at h9 ⊢; exact h9)
      have hk3' : (p1 == 3) = false := by simpa using hk3
      clear h7 hb7 hE C
      by_cases hk : p1 = 2
      · subst hk
        obtain rfl : p2 = false := by simpa using hk2
        go_enter Try.func65, Try.ntmps65
        go_wp2_with fail
        rw [← HW.out.1]
        go_region
        rw [← HW.out.2]
        clear q0 q1 q2 q3 y0 y1 y2 y3 x5 x9 z5 z9 d19 f19 hup
        go_wp2_with fail
        refine C2.out.mono ?_
        rintro e w7 ⟨rfl, h7⟩
        subst h7
        go_wp2_with fail
        go_end0
        exact ⟨rfl, H7.out⟩
      · have hk2' : (p1 == 2) = false := by simpa using hk
        go_enter Try.func65, Try.ntmps65
        go_wp2_with fail
        rw [← HW.out.1]
        go_region
        rw [← HW.out.2]
        clear q0 q1 q2 q3 y0 y1 y2 y3 x5 x9 z5 z9 d19 f19 hup
        go_wp2_with fail
        refine C2.out.mono ?_
        rintro e w7 ⟨rfl, h7⟩
        subst h7
        go_wp2_with fail
        go_end0
        exact ⟨rfl, H7.out⟩
end
end Go.Proofs.Ytejcahkkpednfaa
