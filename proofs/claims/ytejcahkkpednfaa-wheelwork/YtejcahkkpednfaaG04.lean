/-
  CLOCK-Pro by one ring: what comes of a right state is right: plain.
  CLOCK-Pro by one ring: a scan does not hurt: plain.
  CLOCK-Pro by one ring: what it costs: plain.
  CLOCK-Pro by one ring: the document's example: plain.
-/
import Derived.Test.YtejcahkkpednfaaG03
namespace Go.Proofs.WheelM
open Go.Proofs.StackM
set_option linter.unusedVariables false
theorem erase_key {l : List Pg} {i : Nat} {x : Pg} (hn : (l.map Pg.key).Nodup) (h : l[i]? = some x) : ∀ q ∈ l.eraseIdx i, q.key ≠ x.key := by
  intro q hq e
  have h1 := (erase_perm h).nodup_iff.2 hn
  rw [List.nodup_append] at h1
  exact h1.2.2 q.key (List.mem_map.2 ⟨q, hq, rfl⟩) x.key (by simp) e
theorem Ww.at {s : St} (h : Ww s) {a : Int} (ha : Hd a s.pg.length) (hn : 0 < s.pg.length) : ∃ p, s.pg[a.toNat]? = some p := by
  have : a.toNat < s.pg.length := by obtain ⟨h1, h2⟩ := ha; omega
  exact ⟨_, List.getElem?_eq_getElem this⟩
/-- the two ways at a cold page with a Mark -/
def mkT (s : St) (p : Pg) : St := head (leave (setc s (cClr s)) s.co.toNat) ⟨p.key, p.kind, true, false⟩
def mkR (s : St) (p : Pg) : St := head (rises (leave (setc s (cClRa s)) s.co.toNat)) ⟨p.key, 1, false, false⟩
theorem mkS_T {s : St} {p : Pg} (h : p.test = false) : mkS s p = mkT s p := by unfold mkS; rw [if_pos h]; rfl
theorem mkS_R {s : St} {p : Pg} (h : p.test = true) : mkS s p = cool (mkR s p) := by unfold mkS; rw [if_neg (by rw [h]; decide)]; rfl
theorem mkT_pg (s : St) (p : Pg) : (mkT s p).pg = s.pg.eraseIdx s.co.toNat ++ [⟨p.key, p.kind, true, false⟩] := rfl
theorem mkR_pg (s : St) (p : Pg) : (mkR s p).pg = s.pg.eraseIdx s.co.toNat ++ [⟨p.key, 1, false, false⟩] := by
  unfold mkR head; dsimp only; rw [rises_pg]; rfl
theorem at_lt {l : List Pg} {i : Nat} {x : Pg} (h : l[i]? = some x) : i < l.length := (List.getElem?_eq_some_iff.1 h).1
theorem mkT_ww {s : St} (hw : Ww s) {p : Pg} (h : s.pg[s.co.toNat]? = some p) (hk : p.kind = 2) : Ww (mkT s p) :=
  ((hw.setc (cClr s)).leave (at_lt h)).head (y := ⟨p.key, p.kind, true, false⟩) ((ks_rehead (y := ⟨p.key, p.kind, true, false⟩) h rfl).nd hw.nk) (.inr (.inl hk))
theorem mkR_ww {s : St} (hw : Ww s) {p : Pg} (h : s.pg[s.co.toNat]? = some p) : Ww (mkR s p) := by
  refine ((hw.setc (cClRa s)).leave (at_lt h)).rises.head (y := ⟨p.key, 1, false, false⟩) ?_ (.inl ⟨rfl, rfl⟩)
  rw [rises_pg]
  exact (ks_rehead (y := ⟨p.key, 1, false, false⟩) h rfl).nd hw.nk
theorem mkT_num {s : St} {p : Pg} (h : s.pg[s.co.toNat]? = some p) (hk : p.kind = 2) (hm : p.mark = true) (ht : p.test = false) :
    num (mkT s p).pg = { num s.pg with m := (num s.pg).m - 1, t := (num s.pg).t + 1 } ∧ 0 < (num s.pg).m := by
  have h1 := num_erase h
  have h2 := num_app (s.pg.eraseIdx s.co.toNat) ⟨p.key, p.kind, true, false⟩
  rw [← mkT_pg] at h2
  rw [one_cold hk, hm, ht] at h1
  rw [one_cold (p := ⟨p.key, p.kind, true, false⟩) hk] at h2
  obtain ⟨a1, a2, a3, a4, a5, a6⟩ := h1
  obtain ⟨b1, b2, b3, b4, b5, b6⟩ := h2
  simp [b2n] at a1 a2 a3 a4 a5 a6 b1 b2 b3 b4 b5 b6
  exact ⟨num_eq (by omega) (by omega) (by omega) (by omega) (by omega) (by omega), by omega⟩
theorem mkR_num {s : St} {p : Pg} (h : s.pg[s.co.toNat]? = some p) (hk : p.kind = 2) (hm : p.mark = true) (ht : p.test = true) :
    num (mkR s p).pg = { num s.pg with h := (num s.pg).h + 1, c := (num s.pg).c - 1, m := (num s.pg).m - 1, t := (num s.pg).t - 1 } ∧ 0 < (num s.pg).m ∧ 0 < (num s.pg).c ∧ 0 < (num s.pg).t := by
  have h1 := num_erase h
  have h2 := num_app (s.pg.eraseIdx s.co.toNat) ⟨p.key, 1, false, false⟩
  rw [← mkR_pg] at h2
  rw [one_cold hk, hm, ht] at h1
  rw [one_hot (p := ⟨p.key, 1, false, false⟩) rfl] at h2
  obtain ⟨a1, a2, a3, a4, a5, a6⟩ := h1
  obtain ⟨b1, b2, b3, b4, b5, b6⟩ := h2
  simp [b2n] at a1 a2 a3 a4 a5 a6 b1 b2 b3 b4 b5 b6
  exact ⟨num_eq (by omega) (by omega) (by omega) (by omega) (by omega) (by omega), by omega, by omega, by omega⟩
theorem hN (l : List Pg) : many l 1 = (num l).h := rfl
theorem cN (l : List Pg) : many l 2 = (num l).c := rfl
theorem gN (l : List Pg) : many l 3 = (num l).g := rfl
theorem kN (l : List Pg) : kps l = (num l).h + (num l).c := rfl
theorem lN (l : List Pg) : l.length = (num l).n := rfl
theorem mkS_all {s : St} (hw : Ww s) (hg : ¬ Gc s) {p : Pg} (h : s.pg[s.co.toNat]? = some p) (hk : p.kind = 2) (hm : p.mark = true) : Ww (mkS s p) ∧ ¬ Gc (mkS s p) ∧ Le s (mkS s p) := by
  cases ht : p.test with
  | false =>
    rw [mkS_T ht]
    obtain ⟨e, _⟩ := mkT_num h hk hm ht
    refine ⟨mkT_ww hw h hk, ?_, rfl, ?_, ?_, ?_, ?_⟩
    · unfold Gc at hg ⊢; rw [hN] at hg ⊢; rw [e]; exact hg
    · rw [kN, kN, e]
    · rw [gN, gN, e]; exact Nat.le_refl _
    · rw [lN, lN, e]; exact Nat.le_refl _
    · rw [mkT_pg]; exact ks_rehead h rfl
  | true =>
    rw [mkS_R ht]
    have hw2 := mkR_ww hw h
    obtain ⟨e, e1, e2, e3⟩ := mkR_num h hk hm ht
    have hL : Le s (mkR s p) := by
      refine ⟨by unfold mkR head; dsimp only; rw [rises_cf]; rfl, ?_, ?_, ?_, ?_⟩
      · rw [kN, kN, e]; dsimp only; omega
      · rw [gN, gN, e]; exact Nat.le_refl _
      · rw [lN, lN, e]; exact Nat.le_refl _
      · rw [mkR_pg]; exact ks_rehead h rfl
    have hL2 := cool_le hw2
    exact ⟨cool_ww hw2, cool_rm hw2, hL2.cf.trans hL.cf, hL2.k.trans hL.k, Nat.le_trans hL2.g hL.g, Nat.le_trans hL2.n hL.n, hL.ks.trans hL2.ks⟩
/-- where a page can be reclaimed -/
structure B (s : St) : Prop where
  w : Ww s
  r : ¬ Gc s
  k : s.cf.c ≤ kps s.pg
theorem B.cold {s : St} (h : B s) : 0 < many s.pg 2 := by
  have h1 := h.r
  have h2 := h.k
  have h3 := h.w.tg
  unfold Gc at h1
  unfold kps at h2
  omega
theorem pos_len {l : List Pg} {d : Int} (h : 0 < many l d) : 0 < l.length := by
  unfold many at h
  exact Nat.lt_of_lt_of_le h List.countP_le_length
theorem B.at {s : St} (h : B s) : ∃ p, s.pg[s.co.toNat]? = some p := h.w.at h.w.hc (pos_len h.cold)
theorem B.step {s : St} (h : B s) : B (cStep s) := ⟨(h.w.setc _).co (hd_onw (by have := pos_len h.cold; show (0 : Int) < s.pg.length; omega)), h.r, h.k⟩
theorem B.mark {s : St} (h : B s) {p : Pg} (hp : s.pg[s.co.toNat]? = some p) (hk : p.kind = 2) (hm : p.mark = true) : B (mkS (setc s (cSt s)) p) := by
  obtain ⟨a, b, c⟩ := mkS_all (s := setc s (cSt s)) (h.w.setc _) h.r hp hk hm
  exact ⟨a, b, by rw [c.cf, c.k]; exact h.k⟩
theorem rcl_ind {P Q : St → Prop} (idle : ∀ s p, B s → s.pg[s.co.toNat]? = some p → p.kind ≠ 2 → P s → P (cStep s))
    (mark : ∀ s p, B s → s.pg[s.co.toNat]? = some p → p.kind = 2 → p.mark = true → P s → P (mkS (setc s (cSt s)) p))
    (out : ∀ s p, B s → s.pg[s.co.toNat]? = some p → p.kind = 2 → p.mark = false → p.test = false → P s → Q (evOut s p))
    (gone : ∀ s p, B s → s.pg[s.co.toNat]? = some p → p.kind = 2 → p.mark = false → p.test = true → P s → Q (evGone s p))
    (s : St) (hb : B s) (h : P s) : Q (rcl s).1 := by
  induction s using rcl.induct with
  | case1 s h1 => obtain ⟨p, hp⟩ := hb.at; rw [hp] at h1; cases h1
  | case2 s p h1 hk hc ih => rw [rcl_idle h1 hk hc]; exact ih hb.step (idle s p hb h1 hk h)
  | case3 s p h1 hk hc => exact absurd ⟨hb.w.hc.1, hb.cold⟩ hc
  | case4 s p h1 hk hm ih =>
    have hk2 : p.kind = 2 := Classical.byContradiction hk
    rw [rcl_mark h1 hk2 hm]; exact ih (hb.mark h1 hk2 hm) (mark s p hb h1 hk2 hm h)
  | case5 s p h1 hk hm ht =>
    have hk2 : p.kind = 2 := Classical.byContradiction hk
    have hm2 : p.mark = false := by simpa using hm
    rw [rcl_out h1 hk2 hm2 ht]; exact out s p hb h1 hk2 hm2 ht h
  | case6 s p h1 hk hm ht =>
    have hk2 : p.kind = 2 := Classical.byContradiction hk
    have hm2 : p.mark = false := by simpa using hm
    have ht2 : p.test = true := by simpa using ht
    rw [rcl_gone h1 hk2 hm2 ht2]; exact gone s p hb h1 hk2 hm2 ht2 h
theorem out_num {s : St} {p : Pg} (h : s.pg[s.co.toNat]? = some p) (hk : p.kind = 2) (hm : p.mark = false) (ht : p.test = false) :
    num (evOut s p).pg = { num s.pg with c := (num s.pg).c - 1, n := (num s.pg).n - 1 } ∧ 0 < (num s.pg).c ∧ 0 < (num s.pg).n := by
  have h1 := num_erase h
  rw [one_cold hk, hm, ht] at h1
  obtain ⟨a1, a2, a3, a4, a5, a6⟩ := h1
  simp [b2n] at a1 a2 a3 a4 a5 a6
  have e : (evOut s p).pg = s.pg.eraseIdx s.co.toNat := rfl
  rw [e]
  exact ⟨num_eq (by omega) (by omega) (by omega) (by omega) (by omega) (by omega), by omega, by omega⟩
theorem gone_num {s : St} {p : Pg} (h : s.pg[s.co.toNat]? = some p) (hk : p.kind = 2) (hm : p.mark = false) (ht : p.test = true) :
    num (evGone s p).pg = { num s.pg with c := (num s.pg).c - 1, g := (num s.pg).g + 1, t := (num s.pg).t - 1 } ∧ 0 < (num s.pg).c ∧ 0 < (num s.pg).t := by
  obtain ⟨z, h1, h2⟩ := num_set (y := { p with kind := 3 }) h
  rw [one_cold hk, hm, ht] at h1
  rw [one_gone (p := { p with kind := 3 }) rfl, hm] at h2
  obtain ⟨a1, a2, a3, a4, a5, a6⟩ := h1
  obtain ⟨b1, b2, b3, b4, b5, b6⟩ := h2
  simp [b2n] at a1 a2 a3 a4 a5 a6 b1 b2 b3 b4 b5 b6
  have e : (evGone s p).pg = s.pg.set s.co.toNat { p with kind := 3 } := rfl
  rw [e, hm, ht]
  exact ⟨num_eq (by omega) (by omega) (by omega) (by omega) (by omega) (by omega), by omega, by omega⟩
/-- what one reclaimed page leaves -/
structure Rc (s t : St) : Prop where
  w : Ww t
  r : ¬ Gc t
  cf : t.cf = s.cf
  k : kps t.pg + 1 = kps s.pg
  n : t.pg.length ≤ s.pg.length
  ks : Ks s.pg t.pg
theorem rcl_rc {s : St} (hb : B s) : Rc s (rcl s).1 := by
  refine rcl_ind (P := Le s) (Q := Rc s) ?_ ?_ ?_ ?_ s hb (Le.refl s)
  · intro t p hb h hk hL
    exact ⟨hL.cf, hL.k, hL.g, hL.n, hL.ks⟩
  · intro t p hb h hk hm hL
    obtain ⟨_, _, c⟩ := mkS_all (s := setc t (cSt t)) (hb.w.setc _) hb.r h hk hm
    exact ⟨c.cf.trans hL.cf, c.k.trans hL.k, Nat.le_trans c.g hL.g, Nat.le_trans c.n hL.n, hL.ks.trans c.ks⟩
  · intro t p hb h hk hm ht hL
    obtain ⟨e, e1, e2⟩ := out_num h hk hm ht
    refine ⟨(hb.w.setc _).leave (at_lt h), ?_, hL.cf, ?_, ?_, ?_⟩
    · have := hb.r; unfold Gc at this ⊢; rw [hN] at this ⊢; rw [e]; exact this
    · rw [← hL.k, kN, kN, e]; dsimp only; omega
    · refine Nat.le_trans ?_ hL.n; rw [lN, lN, e]; dsimp only; omega
    · exact hL.ks.trans (ks_erase _ _)
  · intro t p hb h hk hm ht hL
    obtain ⟨e, e1, e2⟩ := gone_num h hk hm ht
    have hw : Ww { setc t (cEv t) with pg := t.pg.set t.co.toNat { p with kind := 3 } } := (hb.w.setc (cEv t)).setp (x := p) h rfl (.inr (.inr ⟨rfl, ht, hm⟩))
    refine ⟨?_, ?_, hL.cf, ?_, ?_, ?_⟩
    · refine Ww.co hw ?_
      show Hd (onw t.co t.pg.length) ((t.pg.set _ _).length : Nat)
      rw [List.length_set]
      exact hd_onw (by have := at_lt h; omega)
    · have := hb.r; unfold Gc at this ⊢; rw [hN] at this ⊢; rw [e]; exact this
    · rw [← hL.k, kN, kN, e]; dsimp only; omega
    · refine Nat.le_trans ?_ hL.n; rw [lN, lN, e]; dsimp only; omega
    · exact hL.ks.trans (ks_set h rfl)
/-- what spilling leaves -/
structure Sp (most : Int) (s t : St) : Prop where
  w : Ww t
  r : ¬ Gc t
  cf : t.cf = s.cf
  k : (kps t.pg : Int) ≤ most
  n : t.pg.length ≤ s.pg.length
  ks : Ks s.pg t.pg
theorem spillW_ind {most : Int} {P : St → Prop} (step : ∀ t, B t → (kps t.pg : Int) > most → P t → P (rcl t).1) (s : St) (hw : Ww s) (hr : ¬ Gc s) (hm : s.cf.c - 1 ≤ most) (h : P s) : P (spillW most s).1 ∧ Sp most s (spillW most s).1 := by
  suffices H : ∀ s, Ww s → ¬ Gc s → s.cf.c - 1 ≤ most → P s → P (spillW most s).1 ∧ Sp most s (spillW most s).1 from H s hw hr hm h
  clear h hm hr hw s
  intro s
  induction s using spillW.induct most with
  | case1 s h2 ih =>
    intro hw hr hm h
    have hb : B s := ⟨hw, hr, by have := h2.1; omega⟩
    have hrc := rcl_rc hb
    rw [spillW_step h2.1 h2.2]
    obtain ⟨a, b⟩ := ih hrc.w hrc.r (by rw [hrc.cf]; exact hm) (step s hb h2.1 h)
    exact ⟨a, b.w, b.r, b.cf.trans hrc.cf, b.k, Nat.le_trans b.n hrc.n, hrc.ks.trans b.ks⟩
  | case2 s h2 =>
    intro hw hr hm h
    have hd : ¬ (kps s.pg : Int) > most := fun e => by
      have hb : B s := ⟨hw, hr, by omega⟩
      have := (rcl_rc hb).k
      exact h2 ⟨e, by omega⟩
    rw [spillW_done hd]
    exact ⟨h, hw, hr, rfl, by show (kps s.pg : Int) ≤ most; omega, Nat.le_refl _, Ks.refl _⟩
theorem spill_sp {most : Int} {s : St} (hw : Ww s) (hr : ¬ Gc s) (hm : s.cf.c - 1 ≤ most) : Sp most s (spillW most s).1 := (spillW_ind (P := fun _ => True) (fun _ _ _ _ => trivial) s hw hr hm trivial).2
/-- one look of the test hand: three ways -/
theorem exS_num {s : St} (hw : Ww s) {p : Pg} (h : s.pg[s.te.toNat]? = some p) :
    (tdg p = true ∧ (exS s p).ct = cFo s ∧ num (exS s p).pg = { num s.pg with g := (num s.pg).g - 1, n := (num s.pg).n - 1 } ∧ 0 < (num s.pg).g ∧ 0 < (num s.pg).n) ∨
    (tdg p = true ∧ (exS s p).ct = cEn s ∧ num (exS s p).pg = { num s.pg with t := (num s.pg).t - 1 } ∧ 0 < (num s.pg).t) ∨
    (tdg p = false ∧ (exS s p).ct = cSt s ∧ num (exS s p).pg = num s.pg ∧ exS s p = cS3 s) := by
  have hp := hw.pk p (List.mem_of_getElem? h)
  by_cases h3 : p.kind = 3
  · left
    have hm : p.mark = false := by rcases hp with hp | hp | hp; exact absurd (h3.symm.trans hp.1) (by decide); exact absurd (h3.symm.trans hp) (by decide); exact hp.2.2
    have h1 := num_erase h
    rw [one_gone h3, hm] at h1
    have e : exS s p = cF3 s := by unfold exS; rw [if_pos h3]
    have e2 : (exS s p).pg = s.pg.eraseIdx s.te.toNat := by rw [e]; unfold cF3; rw [falls_pg]; rfl
    have e3 : (exS s p).ct = cFo s := by rw [e]; unfold cF3; rw [falls_ct]; rfl
    obtain ⟨a1, a2, a3, a4, a5, a6⟩ := h1
    simp [b2n] at a1 a2 a3 a4 a5 a6
    rw [e2]
    exact ⟨by simp [h3], e3, num_eq (by omega) (by omega) (by omega) (by omega) (by omega) (by omega), by omega, by omega⟩
  · right
    by_cases h2 : p.kind = 2 ∧ p.test = true
    · left
      obtain ⟨z, h1, h5⟩ := num_set (y := { p with test := false }) h
      rw [one_cold h2.1, h2.2] at h1
      rw [one_cold (p := { p with test := false }) h2.1] at h5
      have e : exS s p = cE3 s p := by unfold exS; rw [if_neg h3, if_pos h2]
      have e2 : (exS s p).pg = s.pg.set s.te.toNat { p with test := false } := by rw [e]; unfold cE3; dsimp only; rw [falls_pg]
      have e3 : (exS s p).ct = cEn s := by rw [e]; unfold cE3; dsimp only; rw [falls_ct]; rfl
      obtain ⟨a1, a2, a3, a4, a5, a6⟩ := h1
      obtain ⟨b1, b2, b3, b4, b5, b6⟩ := h5
      simp [b2n] at a1 a2 a3 a4 a5 a6 b1 b2 b3 b4 b5 b6
      rw [e2]
      exact ⟨by simp [h2.1, h2.2], e3, num_eq (by omega) (by omega) (by omega) (by omega) (by omega) (by omega), by omega⟩
    · right
      have e : exS s p = cS3 s := by unfold exS; rw [if_neg h3, if_neg h2]
      rcases exS_look h with ⟨h4, h5⟩ | ⟨h4, _⟩
      · exfalso
        rw [e] at h5
        have : (cS3 s).pg = s.pg := rfl
        rw [this] at h5
        omega
      · exact ⟨h4, by rw [e]; rfl, by rw [e]; rfl, e⟩
theorem Ww.exS {s : St} (hw : Ww s) {p : Pg} (h : s.pg[s.te.toNat]? = some p) : Ww (exS s p) := by
  have hn : (0 : Int) < s.pg.length := by have := at_lt h; omega
  unfold WheelM.exS
  split
  · exact ((hw.setc (cFo s)).leave (at_lt h)).falls
  · split
    · rename_i h2
      have h1 := ((hw.setc (cEn s)).setp (i := s.te.toNat) (x := p) (y := { p with test := false }) h rfl (.inr (.inl h2.1))).falls
      refine h1.te ?_
      rw [falls_pg]
      show Hd (onw s.te s.pg.length) ((s.pg.set _ _).length : Nat)
      rw [List.length_set]
      exact hd_onw hn
    · exact (hw.setc _).te (hd_onw hn)
theorem exS_cf {s : St} {p : Pg} : (exS s p).cf = s.cf := by
  unfold exS; split
  · unfold cF3; rw [falls_cf]; rfl
  · split
    · unfold cE3; dsimp only; rw [falls_cf]; rfl
    · rfl
theorem exS_tg {s : St} (hw : Ww s) {p : Pg} : (exS s p).tg ≤ s.tg := by
  unfold exS; split
  · exact (falls_tg (s := leave (setc s (cFo s)) s.te.toNat) hw.tg).2
  · split
    · exact (falls_tg (s := { setc s (cEn s) with pg := s.pg.set s.te.toNat { p with test := false } }) hw.tg).2
    · exact Int.le_refl _
theorem exS_ks {s : St} {p : Pg} (h : s.pg[s.te.toNat]? = some p) : Ks s.pg (exS s p).pg := by
  unfold exS; split
  · unfold cF3; rw [falls_pg]; exact ks_erase _ _
  · split
    · unfold cE3; dsimp only; rw [falls_pg]; exact ks_set h rfl
    · exact Ks.refl _
theorem expire_ind {P : St → Prop} (step : ∀ t p, Ww t → t.pg[t.te.toNat]? = some p → (many t.pg 3 : Int) > t.cf.g → P t → P (exS t p)) (s : St) (hw : Ww s) (h : P s) : P (expire s) ∧ Ww (expire s) ∧ (many (expire s).pg 3 : Int) ≤ (expire s).cf.g := by
  induction s using expire.induct with
  | case1 s hg h1 =>
    obtain ⟨p, hp⟩ := hw.at hw.ht (pos_len hg.2.2)
    rw [h1] at hp; cases hp
  | case2 s hg p h1 ih => rw [expire_step h1 hg.1 hg.2.1 hg.2.2]; exact ih (hw.exS h1) (step s p hw h1 hg.1 h)
  | case3 s hg =>
    rw [expire, dif_neg hg]
    refine ⟨h, hw, ?_⟩
    have h1 := hw.ck.2.2.2.1
    have h2 := hw.ht.1
    by_cases h3 : (many s.pg 3 : Int) > s.cf.g
    · exact absurd ⟨h3, h2, by omega⟩ hg
    · omega
/-- what expiring leaves -/
structure Ex (s t : St) : Prop where
  cf : t.cf = s.cf
  r : ¬ Gc t
  k : kps t.pg = kps s.pg
  n : t.pg.length ≤ s.pg.length
  ks : Ks s.pg t.pg
theorem expire_ex {s : St} (hw : Ww s) (hr : ¬ Gc s) : Ex s (expire s) ∧ Ww (expire s) ∧ (many (expire s).pg 3 : Int) ≤ (expire s).cf.g :=
  expire_ind (P := Ex s) (fun t p hw h hg he => by
    have ht := exS_tg hw (p := p)
    have hr := he.r
    refine ⟨exS_cf.trans he.cf, ?_, ?_, ?_, he.ks.trans (exS_ks h)⟩
    · unfold Gc at hr ⊢
      rw [hN] at hr ⊢
      have hc : (exS t p).cf.c = t.cf.c := by rw [exS_cf]
      rcases exS_num hw h with ⟨_, _, e, _, _⟩ | ⟨_, _, e, _⟩ | ⟨_, _, e, _⟩ <;> rw [e, hc] <;> (try dsimp only) <;> omega
    · rw [← he.k, kN, kN]
      rcases exS_num hw h with ⟨_, _, e, _, _⟩ | ⟨_, _, e, _⟩ | ⟨_, _, e, _⟩ <;> rw [e]
    · refine Nat.le_trans ?_ he.n
      rw [lN, lN]
      rcases exS_num hw h with ⟨_, _, e, _, _⟩ | ⟨_, _, e, _⟩ | ⟨_, _, e, _⟩ <;> rw [e] <;> (try dsimp only) <;> omega) s hw ⟨rfl, hr, rfl, Nat.le_refl _, Ks.refl _⟩
/-- A RIGHT STATE -/
structure Wg (s : St) : Prop where
  w : Ww s
  r : ¬ Gc s
  k : (kps s.pg : Int) ≤ s.cf.c
  g : (many s.pg 3 : Int) ≤ s.cf.g
theorem fnd_page {l : List Pg} {k : Int} {i : Nat} (h : fnd l k = some i) : ∃ p, l[i]? = some p ∧ p.key = k ∧ p ∈ l := by
  obtain ⟨hi, e⟩ := fnd_at h
  exact ⟨l[i], List.getElem?_eq_getElem hi, e, List.getElem_mem hi⟩
theorem isW_at {s : St} {k : Int} {i : Nat} {p : Pg} (h : fnd s.pg k = some i) (hp : s.pg[i]? = some p) : isW s k = p.kind := by unfold isW; rw [h]; dsimp only; rw [hp]
theorem isW_no {s : St} {k : Int} (h : fnd s.pg k = none) : isW s k = 0 := by unfold isW; rw [h]
theorem touch_num {s : St} {i : Nat} {p : Pg} (h : s.pg[i]? = some p) : (num (s.pg.set i { p with mark := true })).h = (num s.pg).h ∧ (num (s.pg.set i { p with mark := true })).c = (num s.pg).c ∧ (num (s.pg.set i { p with mark := true })).g = (num s.pg).g ∧ (num (s.pg.set i { p with mark := true })).t = (num s.pg).t ∧ (num (s.pg.set i { p with mark := true })).n = (num s.pg).n ∧ (num (s.pg.set i { p with mark := true })).m ≤ (num s.pg).m + 1 := by
  obtain ⟨z, h1, h5⟩ := num_set (y := { p with mark := true }) h
  have e1 : (one { p with mark := true }).h = (one p).h := rfl
  have e2 : (one { p with mark := true }).c = (one p).c := rfl
  have e3 : (one { p with mark := true }).g = (one p).g := rfl
  have e5 : (one { p with mark := true }).t = (one p).t := rfl
  have e4 : (one { p with mark := true }).m ≤ 1 := by show b2n true ≤ 1; exact b2n_le _
  obtain ⟨a1, a2, a3, a4, a5, a6⟩ := h1
  obtain ⟨b1, b2, b3, b4, b5, b6⟩ := h5
  have e6 : (one p).n = 1 := rfl
  have e7 : (one { p with mark := true }).n = 1 := rfl
  refine ⟨by omega, by omega, by omega, by omega, by omega, by omega⟩
theorem touch_wg {s : St} (h : Wg s) (k : Int) : Wg (touchW s k) := by
  unfold touchW
  split
  · rename_i hk
    split
    · rename_i i hi
      obtain ⟨p, hp, e, hm⟩ := fnd_page hi
      rw [hp]
      dsimp only
      obtain ⟨n1, n2, n3, n4, n5, n6⟩ := touch_num hp
      have hkk := hk
      unfold KptW at hkk
      rw [isW_at hi hp] at hkk
      have hpk := h.w.pk p hm
      have hok : Pok { p with mark := true } := by
        rcases hpk with hq | hq | hq
        · exact .inl hq
        · exact .inr (.inl hq)
        · exfalso; have := hq.1; omega
      refine ⟨(h.w.setc (hitW s).ct).setp (x := p) hp rfl hok, ?_, ?_, ?_⟩
      · have := h.r; unfold Gc at this ⊢; rw [hN] at this ⊢; dsimp only; rw [n1]; exact this
      · have := h.k; rw [kN] at this ⊢; dsimp only; rw [n1, n2]; exact this
      · have := h.g; rw [gN] at this ⊢; dsimp only; rw [n3]; exact this
    · exact h
  · exact h
theorem drop_wg {s : St} (h : Wg s) (k : Int) : Wg (dropW s k) := by
  unfold dropW
  split
  · rename_i i hi
    obtain ⟨p, hp, e, hm⟩ := fnd_page hi
    obtain ⟨a1, a2, a3, a4, a5, a6⟩ := num_erase hp
    have hr := h.r
    have hk := h.k
    have hg := h.g
    unfold Gc at hr
    rw [hN] at hr
    rw [kN] at hk
    rw [gN] at hg
    refine ⟨h.w.leave (at_lt hp), ?_, ?_, ?_⟩
    · unfold Gc; rw [hN]; show ¬ ((num (s.pg.eraseIdx i)).h : Int) > s.cf.c - s.tg; omega
    · rw [kN]; show (((num (s.pg.eraseIdx i)).h + (num (s.pg.eraseIdx i)).c : Nat) : Int) ≤ s.cf.c; omega
    · rw [gN]; show ((num (s.pg.eraseIdx i)).g : Int) ≤ s.cf.g; omega
  · exact h
/-- ahead of the spilling: right but for bounds, no page of the key's, the ring at most as long -/
theorem admA_ok {s : St} (h : Wg s) {k : Int} (hk : ¬ KptW s k) : Ww (admA s k) ∧ ¬ Gc (admA s k) ∧ (admA s k).cf = s.cf ∧ (∀ q ∈ (admA s k).pg, q.key ≠ k) ∧ (admA s k).pg.length ≤ s.pg.length ∧ kps (admA s k).pg = kps s.pg ∧ Ks s.pg (admA s k).pg := by
  unfold admA
  split
  · rename_i i hi
    obtain ⟨p, hp, e, hm⟩ := fnd_page hi
    have hw1 : Ww (rises (leave (misW s) i)) := ((h.w.setc (misW s).ct).leave (at_lt hp)).rises
    have hL := cool_le hw1
    have epg : (rises (leave (misW s) i)).pg = s.pg.eraseIdx i := by rw [rises_pg]; rfl
    have hks : Ks s.pg (rises (leave (misW s) i)).pg := by rw [epg]; exact ks_erase _ _
    have hp3 : p.kind = 3 := by
      unfold KptW at hk
      rw [isW_at hi hp] at hk
      rcases h.w.pk p hm with hq | hq | hq
      · exact absurd (.inl hq.1) hk
      · exact absurd (.inr hq) hk
      · exact hq.1
    have hn := num_erase hp
    rw [one_gone hp3] at hn
    obtain ⟨a1, a2, a3, a4, a5, a6⟩ := hn
    refine ⟨cool_ww hw1, cool_rm hw1, hL.cf.trans (by rw [rises_cf]; rfl), fun q hq => ?_, Nat.le_trans hL.n ?_, hL.k.trans ?_, hks.trans hL.ks⟩
    · obtain ⟨q', hq', e2⟩ := hL.ks.sub q hq
      rw [epg] at hq'
      rw [← e2, ← e]
      exact erase_key h.w.nk hp q' hq'
    · rw [epg, lN, lN]; dsimp only at a6; omega
    · rw [epg, kN, kN]; dsimp only at a1 a2; omega
  · rename_i hi
    exact ⟨h.w.setc (misW s).ct, h.r, rfl, fnd_no hi, Nat.le_refl _, rfl, Ks.refl _⟩
theorem admC_ok {s : St} (h : Wg s) {k : Int} (hk : ¬ KptW s k) : Ww (admC s k) ∧ ¬ Gc (admC s k) ∧ (admC s k).cf = s.cf ∧ (∀ q ∈ (admC s k).pg, q.key ≠ k) ∧ (admC s k).pg.length ≤ s.pg.length ∧ (kps (admC s k).pg : Int) ≤ s.cf.c - 1 ∧ (many (admC s k).pg 3 : Int) ≤ s.cf.g := by
  obtain ⟨a1, a2, a3, a4, a5, a6, a7⟩ := admA_ok h hk
  have hs := spill_sp (most := s.cf.c - 1) a1 a2 (by rw [a3]; exact Int.le_refl _)
  obtain ⟨he, hw, hg⟩ := expire_ex hs.w hs.r
  have hcf : (admC s k).cf = s.cf := he.cf.trans (hs.cf.trans a3)
  refine ⟨hw, he.r, hcf, fun q hq => ?_, Nat.le_trans he.n (Nat.le_trans hs.n a5), ?_, ?_⟩
  · obtain ⟨q1, h1, e1⟩ := he.ks.sub q hq
    obtain ⟨q2, h2, e2⟩ := hs.ks.sub q1 h1
    rw [← e1, ← e2]
    exact a4 q2 h2
  · have := hs.k
    rw [show kps (admC s k).pg = kps (spillW (s.cf.c - 1) (admA s k)).1.pg from he.k]
    exact this
  · rw [← hcf]; exact hg
theorem head_nd {s : St} (hw : Ww s) {k d : Int} {t m : Bool} (h : ∀ q ∈ s.pg, q.key ≠ k) : ((s.pg ++ [(⟨k, d, t, m⟩ : Pg)]).map Pg.key).Nodup := (Ks.refl s.pg).app hw.nk h
theorem admit_wg {s : St} (h : Wg s) (k : Int) : Wg (admitW s k) := by
  unfold admitW
  split
  · exact h
  · rename_i hk
    obtain ⟨b1, b2, b3, b4, b5, b6, b7⟩ := admC_ok h hk
    split
    · have hw : Ww (head (raW (admC s k)) ⟨k, 1, false, false⟩) := (b1.setc (raW (admC s k)).ct).head (head_nd b1 b4) (.inl ⟨rfl, rfl⟩)
      have hL := cool_le hw
      have hn := num_app (admC s k).pg ⟨k, 1, false, false⟩
      rw [one_hot (p := ⟨k, 1, false, false⟩) rfl] at hn
      obtain ⟨a1, a2, a3, a4, a5, a6⟩ := hn
      have hcf : (cool (head (raW (admC s k)) ⟨k, 1, false, false⟩)).cf = s.cf := hL.cf.trans b3
      dsimp only at a1 a2 a3
      refine ⟨cool_ww hw, cool_rm hw, ?_, ?_⟩
      · rw [hcf, hL.k, kN]
        rw [kN] at b6
        show (((num ((admC s k).pg ++ [_])).h + (num ((admC s k).pg ++ [_])).c : Nat) : Int) ≤ _
        omega
      · rw [hcf]
        have h1 := hL.g
        rw [gN (head (raW (admC s k)) ⟨k, 1, false, false⟩).pg] at h1
        have h2 : (num (head (raW (admC s k)) ⟨k, 1, false, false⟩).pg).g = (num ((admC s k).pg ++ [⟨k, 1, false, false⟩])).g := rfl
        rw [gN] at b7
        omega
    · have hw : Ww (head (admC s k) ⟨k, 2, true, false⟩) := b1.head (head_nd b1 b4) (.inr (.inl rfl))
      have hn := num_app (admC s k).pg ⟨k, 2, true, false⟩
      rw [one_cold (p := ⟨k, 2, true, false⟩) rfl] at hn
      obtain ⟨a1, a2, a3, a4, a5, a6⟩ := hn
      dsimp only at a1 a2 a3
      have hcf : (head (admC s k) ⟨k, 2, true, false⟩).cf = s.cf := b3
      refine ⟨hw, ?_, ?_, ?_⟩
      · unfold Gc at b2 ⊢
        rw [hN] at b2 ⊢
        show ¬ ((num ((admC s k).pg ++ [_])).h : Int) > (admC s k).cf.c - (admC s k).tg
        rw [← a1]
        exact b2
      · rw [hcf, kN]
        rw [kN] at b6
        show (((num ((admC s k).pg ++ [_])).h + (num ((admC s k).pg ++ [_])).c : Nat) : Int) ≤ _
        omega
      · rw [hcf, gN]
        rw [gN] at b7
        show ((num ((admC s k).pg ++ [_])).g : Int) ≤ _
        omega
theorem resize_wg {s : St} (h : Wg s) (c : Cf) (hc : Clk c) : Wg (resizeW s c) := by
  have hw0 : Ww (reS s c) := ⟨hc, by show 1 ≤ c.q ∧ c.q ≤ c.c - 1; have := hc.2.2.1; omega, h.w.nk, h.w.pk, h.w.qu, h.w.gh, h.w.hc, h.w.ht⟩
  have hL := cool_le hw0
  have hcf : (cool (reS s c)).cf = c := hL.cf
  have hs := spill_sp (most := c.c) (cool_ww hw0) (cool_rm hw0) (by rw [hcf]; omega)
  obtain ⟨he, hw, hg⟩ := expire_ex hs.w hs.r
  have hcf2 : (resizeW s c).cf = c := he.cf.trans (hs.cf.trans hcf)
  refine ⟨hw, he.r, ?_, hg⟩
  rw [hcf2, show kps (resizeW s c).pg = kps (spillW c.c (cool (reS s c))).1.pg from he.k]
  exact hs.k
theorem new_wg {c : Cf} (hc : Clk c) (n : Ct) : Wg ⟨c, c.q, [], [], [], 0, 0, n⟩ := by
  refine ⟨⟨hc, by show 1 ≤ c.q ∧ c.q ≤ c.c - 1; have := hc.2.2.1; omega, by simp, by simp, rfl, rfl, ⟨Int.le_refl _, .inr rfl⟩, ⟨Int.le_refl _, .inr rfl⟩⟩, ?_, ?_, ?_⟩
  · unfold Gc; have := hc.2.2.1; simp [many]; omega
  · have := hc.2.1; simp [kps, many]; omega
  · have := hc.2.2.2; simp [many]; omega
end Go.Proofs.WheelM
namespace Go.Proofs.WheelM
open Go.Proofs.StackM
set_option linter.unusedVariables false
theorem mem_erase_ne {q x : Pg} : ∀ {l : List Pg} {i : Nat}, q ∈ l → l[i]? = some x → q ≠ x → q ∈ l.eraseIdx i
  | a :: l, 0, hq, h, hne => by
    have : a = x := by simpa using h
    subst this
    rcases List.mem_cons.1 hq with rfl | hq
    · exact absurd rfl hne
    · exact hq
  | a :: l, i + 1, hq, h, hne => by
    show q ∈ a :: l.eraseIdx i
    rcases List.mem_cons.1 hq with rfl | hq
    · simp
    · exact List.mem_cons_of_mem _ (mem_erase_ne hq (by simpa using h) hne)
theorem mem_set_ne {q x y : Pg} : ∀ {l : List Pg} {i : Nat}, q ∈ l → l[i]? = some x → q ≠ x → q ∈ l.set i y
  | a :: l, 0, hq, h, hne => by
    have : a = x := by simpa using h
    subst this
    rcases List.mem_cons.1 hq with rfl | hq
    · exact absurd rfl hne
    · exact List.mem_cons_of_mem _ hq
  | a :: l, i + 1, hq, h, hne => by
    rw [List.set_cons_succ]
    rcases List.mem_cons.1 hq with rfl | hq
    · simp
    · exact List.mem_cons_of_mem _ (mem_set_ne hq (by simpa using h) hne)
theorem page_one {l : List Pg} (h : (l.map Pg.key).Nodup) {p q : Pg} (hp : p ∈ l) (hq : q ∈ l) (e : p.key = q.key) : p = q := by
  obtain ⟨i, hi, rfl⟩ := List.getElem_of_mem hp
  obtain ⟨j, hj, rfl⟩ := List.getElem_of_mem hq
  have := key_inj h hi hj e
  subst this
  rfl
theorem isW_mem {s : St} (hn : (s.pg.map Pg.key).Nodup) {p : Pg} (hp : p ∈ s.pg) : isW s p.key = p.kind := by
  cases h : fnd s.pg p.key with
  | none => exact absurd rfl (fnd_no h p hp)
  | some i =>
    obtain ⟨q, hq, e, hm⟩ := fnd_page h
    rw [isW_at h hq, page_one hn hm hp e]
theorem isW_strange {s : St} (hw : Ww s) {k : Int} (h : isW s k = 0) : fnd s.pg k = none := by
  cases e : fnd s.pg k with
  | none => rfl
  | some i =>
    obtain ⟨q, hq, _, hm⟩ := fnd_page e
    rw [isW_at e hq] at h
    rcases hw.pk q hm with h1 | h1 | h1
    · exact absurd (h.symm.trans h1.1) (by decide)
    · exact absurd (h.symm.trans h1) (by decide)
    · exact absurd (h.symm.trans h1.1) (by decide)
/-- no cold page has a Mark -/
def Cm (s : St) : Prop := ∀ p ∈ s.pg, p.kind = 2 → p.mark = false
def HotW (s : St) (k : Int) : Prop := ∃ p ∈ s.pg, p.key = k ∧ p.kind = 1
/-- what a scan leaves -/
structure Zs (s t : St) : Prop where
  cm : Cm t
  hot : ∀ x, HotW s x → HotW t x
  ra : t.ct.ra = s.ct.ra
  lo : t.ct.lo = s.ct.lo
theorem Zs.erase {s t u : St} (h : Zs s t) {i : Nat} {x : Pg} (hx : t.pg[i]? = some x) (hk : x.kind ≠ 1) (hp : u.pg = t.pg.eraseIdx i) (h1 : u.ct.ra = t.ct.ra) (h2 : u.ct.lo = t.ct.lo) : Zs s u := by
  refine ⟨fun p hp2 => h.cm p ?_, fun y hy => ?_, h1.trans h.ra, h2.trans h.lo⟩
  · rw [hp] at hp2; exact List.mem_of_mem_eraseIdx hp2
  · obtain ⟨q, hq, e1, e2⟩ := h.hot y hy
    refine ⟨q, ?_, e1, e2⟩
    rw [hp]
    exact mem_erase_ne hq hx (fun e => hk (by rw [← e]; exact e2))
theorem Zs.set {s t u : St} (h : Zs s t) {i : Nat} {x y : Pg} (hx : t.pg[i]? = some x) (hk : x.kind ≠ 1) (hy : y.mark = false) (hp : u.pg = t.pg.set i y) (h1 : u.ct.ra = t.ct.ra) (h2 : u.ct.lo = t.ct.lo) : Zs s u := by
  refine ⟨fun p hp2 hk2 => ?_, fun z hz => ?_, h1.trans h.ra, h2.trans h.lo⟩
  · rw [hp] at hp2
    rcases mem_set hp2 with hp2 | rfl
    · exact h.cm p hp2 hk2
    · exact hy
  · obtain ⟨q, hq, e1, e2⟩ := h.hot z hz
    refine ⟨q, ?_, e1, e2⟩
    rw [hp]
    exact mem_set_ne hq hx (fun e => hk (by rw [← e]; exact e2))
theorem rcl_zs {s t : St} (hb : B t) (h : Zs s t) : Zs s (rcl t).1 := by
  refine rcl_ind (P := Zs s) (Q := Zs s) ?_ ?_ ?_ ?_ t hb h
  · intro t p hb hp hk h
    exact ⟨h.cm, h.hot, h.ra, h.lo⟩
  · intro t p hb hp hk hm h
    have := h.cm p (List.mem_of_getElem? hp) hk
    rw [hm] at this; cases this
  · intro t p hb hp hk hm ht h
    exact h.erase (u := evOut t p) hp (by rw [hk]; decide) rfl rfl rfl
  · intro t p hb hp hk hm ht h
    exact h.set (u := evGone t p) (y := { p with kind := 3 }) hp (by rw [hk]; decide) hm rfl rfl rfl
theorem exS_zs {s t : St} (h : Zs s t) {p : Pg} (hp : t.pg[t.te.toNat]? = some p) : Zs s (exS t p) := by
  unfold exS
  split
  · rename_i h3
    refine h.erase (i := t.te.toNat) hp (by rw [h3]; decide) ?_ ?_ ?_ <;> unfold cF3
    · rw [falls_pg]; rfl
    · rw [falls_ct]; rfl
    · rw [falls_ct]; rfl
  · split
    · rename_i h2
      refine h.set (i := t.te.toNat) (y := { p with test := false }) hp (by rw [h2.1]; decide) (h.cm p (List.mem_of_getElem? hp) h2.1) ?_ ?_ ?_ <;> unfold cE3 <;> dsimp only
      · rw [falls_pg]
      · rw [falls_ct]; rfl
      · rw [falls_ct]; rfl
    · exact ⟨h.cm, h.hot, h.ra, h.lo⟩
/-- ONE STEP OF A SCAN -/
theorem scan_stepW {s : St} (h : Wg s) (hc : Cm s) {k : Int} (hk : isW s k = 0) :
    ¬ KptW s k ∧ Wg (admitW s k) ∧ Cm (admitW s k) ∧ isW (admitW s k) k = 2 ∧ (admitW s k).ct.ra = s.ct.ra ∧ (admitW s k).ct.lo = s.ct.lo ∧ (∀ x, HotW s x → HotW (admitW s k) x) := by
  have hf := isW_strange h.w hk
  have hnk : ¬ KptW s k := by unfold KptW; rw [hk]; decide
  have hwg := admit_wg h k
  have e : admitW s k = head (admC s k) ⟨k, 2, true, false⟩ := by unfold admitW; rw [if_neg hnk, hf]
  have eA : admA s k = misW s := by unfold admA; rw [hf]
  obtain ⟨a1, a2, a3, _⟩ := admA_ok h hnk
  have z0 : Zs s (admA s k) := by rw [eA]; exact ⟨hc, fun _ hx => hx, rfl, rfl⟩
  obtain ⟨z1, sp⟩ := spillW_ind (most := s.cf.c - 1) (P := Zs s) (fun t hb _ hz => rcl_zs hb hz) (admA s k) a1 a2 (by rw [a3]; exact Int.le_refl _) z0
  have z2 : Zs s (admC s k) := (expire_ind (P := Zs s) (fun t p _ hp _ hz => exS_zs hz hp) _ sp.w z1).1
  have epg : (admitW s k).pg = (admC s k).pg ++ [⟨k, 2, true, false⟩] := by rw [e]; rfl
  have ect : (admitW s k).ct = (admC s k).ct := by rw [e]; rfl
  refine ⟨hnk, hwg, fun p hp hk2 => ?_, ?_, by rw [ect]; exact z2.ra, by rw [ect]; exact z2.lo, fun x hx => ?_⟩
  · rw [epg] at hp
    rcases List.mem_append.1 hp with hp | hp
    · exact z2.cm p hp hk2
    · have : p = ⟨k, 2, true, false⟩ := by simpa using hp
      rw [this]
  · exact isW_mem (s := admitW s k) (p := ⟨k, 2, true, false⟩) hwg.w.nk (by rw [epg]; simp)
  · obtain ⟨q, hq, e1, e2⟩ := z2.hot x hx
    exact ⟨q, by rw [epg]; exact List.mem_append_left _ hq, e1, e2⟩
end Go.Proofs.WheelM
namespace Go.Proofs.WheelM
open Go.Proofs.StackM
set_option linter.unusedVariables false
theorem up_one {n : Int} (h0 : 0 ≤ n) (h1 : n ≤ 1000000000000) : up n = n + 1 := by unfold up; omega
/-- what it cost so far, without the steps: hits and misses are at most m, a more at hand, the ring at most R -/
structure CoN (a R m : Int) (c : Ct) (x : Num) : Prop where
  z : 0 ≤ c.hi ∧ 0 ≤ c.mi ∧ 0 ≤ c.ra ∧ 0 ≤ c.lo ∧ 0 ≤ c.ev ∧ 0 ≤ c.fo ∧ 0 ≤ c.cl ∧ 0 ≤ c.en ∧ 0 ≤ c.st
  hm : c.hi + c.mi ≤ m
  cl : x.m + c.cl ≤ c.hi
  lo : x.h + c.lo ≤ c.ra
  ra : c.ra + a ≤ c.cl + c.mi
  ev : x.h + x.c + c.ev + a ≤ c.mi
  fo : x.g + c.fo ≤ c.ev
  en : x.t + c.en + a ≤ c.mi + c.cl
  n : x.n ≤ R
  a0 : 0 ≤ a
  R1 : R ≤ 1000
  m1 : m ≤ 1000
/-- what the hands did -/
def dn (c : Ct) : Int := c.cl + c.lo + c.en + c.fo + c.ev
/-- between two runs; in a run, with so far to go -/
def S0 (R : Int) (c : Ct) : Prop := c.st ≤ dn c * R
def S1 (R : Int) (c : Ct) (d : Int) : Prop := c.st + d ≤ dn c * R + R
theorem dn_le {a R m : Int} {c : Ct} {x : Num} (h : CoN a R m c x) : 0 ≤ dn c ∧ dn c ≤ 5000 := by
  obtain ⟨z, hm, cl, lo, ra, ev, fo, en, n, a0, R1, m1⟩ := h
  unfold dn
  omega
theorem st_le {a R m d : Int} {c : Ct} {x : Num} (h : CoN a R m c x) (hd : 0 ≤ d) (hs : S1 R c d) : up c.st = c.st + 1 := by
  obtain ⟨h1, h2⟩ := dn_le h
  have hR : 0 ≤ R := by have := h.n; omega
  have h3 : dn c * R ≤ 5000 * R := Int.mul_le_mul_of_nonneg_right h2 hR
  have hz := h.z
  have h5 := h.R1
  unfold S1 at hs
  exact up_one hz.2.2.2.2.2.2.2.2 (by omega)
theorem s1_of {R d : Int} {c : Ct} (h : S0 R c) (hd : d ≤ R) : S1 R c d := by unfold S0 at h; unfold S1; omega
theorem s0_do {R d : Int} {c c' : Ct} (h : S1 R c d) (hd : 1 ≤ d) (h1 : c'.st = c.st + 1) (h2 : dn c' = dn c + 1) : S0 R c' := by
  unfold S1 at h; unfold S0
  rw [h1, h2, Int.add_mul, Int.one_mul]
  omega
theorem s1_idle {R d : Int} {c c' : Ct} (h : S1 R c (d + 1)) (h1 : c'.st = c.st + 1) (h2 : dn c' = dn c) : S1 R c' d := by
  unfold S1 at h ⊢
  rw [h1, h2]
  omega
theorem CoN.fo1 {a R m d : Int} {s : St} {x : Num} (h : CoN a R m s.ct x) (hd : 1 ≤ d) (hs : S1 R s.ct d) (g0 : 0 < x.g) : CoN a R m (cFo s) { x with g := x.g - 1, n := x.n - 1 } ∧ S0 R (cFo s) := by
  have hu := st_le h (by omega) hs
  have hz := h.z
  have hdn := dn_le h
  unfold dn at hdn
  have hm0 := h.hm
  have hm1 := h.m1
  have hra := h.ra
  have ha0 := h.a0
  have hcl := h.cl
  have hpfo : up s.ct.fo = s.ct.fo + 1 := up_one (by omega) (by omega)
  refine ⟨?_, s0_do hs hd hu ?_⟩
  · obtain ⟨z, hm, cl, lo, ra, ev, fo, en, n, a0, R1, m1⟩ := h
    refine ⟨?_, ?_, ?_, ?_, ?_, ?_, ?_, ?_, ?_, a0, R1, m1⟩ <;> (try unfold cFo) <;> dsimp only <;> omega
  · unfold dn cFo; dsimp only; omega
theorem CoN.cl1 {a R m d : Int} {s : St} {x : Num} (h : CoN a R m s.ct x) (hd : 1 ≤ d) (hs : S1 R s.ct d) (g0 : 0 < x.m) : CoN a R m (cCl s) { x with m := x.m - 1 } ∧ S0 R (cCl s) := by
  have hu := st_le h (by omega) hs
  have hz := h.z
  have hdn := dn_le h
  unfold dn at hdn
  have hm0 := h.hm
  have hm1 := h.m1
  have hra := h.ra
  have ha0 := h.a0
  have hcl := h.cl
  have hpcl : up s.ct.cl = s.ct.cl + 1 := up_one (by omega) (by omega)
  refine ⟨?_, s0_do hs hd hu ?_⟩
  · obtain ⟨z, hm, cl, lo, ra, ev, fo, en, n, a0, R1, m1⟩ := h
    refine ⟨?_, ?_, ?_, ?_, ?_, ?_, ?_, ?_, ?_, a0, R1, m1⟩ <;> (try unfold cCl) <;> dsimp only <;> omega
  · unfold dn cCl; dsimp only; omega
theorem CoN.lo1 {a R m d : Int} {s : St} {x : Num} (h : CoN a R m s.ct x) (hd : 1 ≤ d) (hs : S1 R s.ct d) (g0 : 0 < x.h) : CoN a R m (cLo s) { x with h := x.h - 1, c := x.c + 1 } ∧ S0 R (cLo s) := by
  have hu := st_le h (by omega) hs
  have hz := h.z
  have hdn := dn_le h
  unfold dn at hdn
  have hm0 := h.hm
  have hm1 := h.m1
  have hra := h.ra
  have ha0 := h.a0
  have hcl := h.cl
  have hplo : up s.ct.lo = s.ct.lo + 1 := up_one (by omega) (by omega)
  refine ⟨?_, s0_do hs hd hu ?_⟩
  · obtain ⟨z, hm, cl, lo, ra, ev, fo, en, n, a0, R1, m1⟩ := h
    refine ⟨?_, ?_, ?_, ?_, ?_, ?_, ?_, ?_, ?_, a0, R1, m1⟩ <;> (try unfold cLo) <;> dsimp only <;> omega
  · unfold dn cLo; dsimp only; omega
theorem CoN.en1 {a R m d : Int} {s : St} {x : Num} (h : CoN a R m s.ct x) (hd : 1 ≤ d) (hs : S1 R s.ct d) (g0 : 0 < x.t) : CoN a R m (cEn s) { x with t := x.t - 1 } ∧ S0 R (cEn s) := by
  have hu := st_le h (by omega) hs
  have hz := h.z
  have hdn := dn_le h
  unfold dn at hdn
  have hm0 := h.hm
  have hm1 := h.m1
  have hra := h.ra
  have ha0 := h.a0
  have hcl := h.cl
  have hpen : up s.ct.en = s.ct.en + 1 := up_one (by omega) (by omega)
  refine ⟨?_, s0_do hs hd hu ?_⟩
  · obtain ⟨z, hm, cl, lo, ra, ev, fo, en, n, a0, R1, m1⟩ := h
    refine ⟨?_, ?_, ?_, ?_, ?_, ?_, ?_, ?_, ?_, a0, R1, m1⟩ <;> (try unfold cEn) <;> dsimp only <;> omega
  · unfold dn cEn; dsimp only; omega
theorem CoN.evO {a R m d : Int} {s : St} {x : Num} (h : CoN a R m s.ct x) (hd : 1 ≤ d) (hs : S1 R s.ct d) (g0 : 0 < x.c) : CoN a R m (cEv s) { x with c := x.c - 1, n := x.n - 1 } ∧ S0 R (cEv s) := by
  have hu := st_le h (by omega) hs
  have hz := h.z
  have hdn := dn_le h
  unfold dn at hdn
  have hm0 := h.hm
  have hm1 := h.m1
  have hra := h.ra
  have ha0 := h.a0
  have hcl := h.cl
  have hpev : up s.ct.ev = s.ct.ev + 1 := up_one (by omega) (by omega)
  refine ⟨?_, s0_do hs hd hu ?_⟩
  · obtain ⟨z, hm, cl, lo, ra, ev, fo, en, n, a0, R1, m1⟩ := h
    refine ⟨?_, ?_, ?_, ?_, ?_, ?_, ?_, ?_, ?_, a0, R1, m1⟩ <;> (try unfold cEv) <;> dsimp only <;> omega
  · unfold dn cEv; dsimp only; omega
theorem CoN.evG {a R m d : Int} {s : St} {x : Num} (h : CoN a R m s.ct x) (hd : 1 ≤ d) (hs : S1 R s.ct d) (g0 : 0 < x.c) (g1 : 0 < x.t) : CoN a R m (cEv s) { x with c := x.c - 1, g := x.g + 1, t := x.t - 1 } ∧ S0 R (cEv s) := by
  have hu := st_le h (by omega) hs
  have hz := h.z
  have hdn := dn_le h
  unfold dn at hdn
  have hm0 := h.hm
  have hm1 := h.m1
  have hra := h.ra
  have ha0 := h.a0
  have hcl := h.cl
  have hpev : up s.ct.ev = s.ct.ev + 1 := up_one (by omega) (by omega)
  refine ⟨?_, s0_do hs hd hu ?_⟩
  · obtain ⟨z, hm, cl, lo, ra, ev, fo, en, n, a0, R1, m1⟩ := h
    refine ⟨?_, ?_, ?_, ?_, ?_, ?_, ?_, ?_, ?_, a0, R1, m1⟩ <;> (try unfold cEv) <;> dsimp only <;> omega
  · unfold dn cEv; dsimp only; omega
def cT (s : St) : Ct := { s.ct with st := up s.ct.st, cl := up s.ct.cl }
def cR (s : St) : Ct := { s.ct with st := up s.ct.st, cl := up s.ct.cl, ra := up s.ct.ra }
theorem CoN.mkT {a R m d : Int} {s : St} {x : Num} (h : CoN a R m s.ct x) (hd : 1 ≤ d) (hs : S1 R s.ct d) (g0 : 0 < x.m) : CoN a R m (cT s) { x with m := x.m - 1, t := x.t + 1 } ∧ S0 R (cT s) := by
  have hu := st_le h (by omega) hs
  have hz := h.z
  have hdn := dn_le h
  unfold dn at hdn
  have hm0 := h.hm
  have hm1 := h.m1
  have hra := h.ra
  have ha0 := h.a0
  have hcl := h.cl
  have hpcl : up s.ct.cl = s.ct.cl + 1 := up_one (by omega) (by omega)
  refine ⟨?_, s0_do hs hd hu ?_⟩
  · obtain ⟨z, hm, cl, lo, ra, ev, fo, en, n, a0, R1, m1⟩ := h
    refine ⟨?_, ?_, ?_, ?_, ?_, ?_, ?_, ?_, ?_, a0, R1, m1⟩ <;> (try unfold cT) <;> dsimp only <;> omega
  · unfold dn cT; dsimp only; omega
theorem CoN.mkR {a R m d : Int} {s : St} {x : Num} (h : CoN a R m s.ct x) (hd : 1 ≤ d) (hs : S1 R s.ct d) (g0 : 0 < x.m) (g1 : 0 < x.c) (g2 : 0 < x.t) : CoN a R m (cR s) { x with h := x.h + 1, c := x.c - 1, m := x.m - 1, t := x.t - 1 } ∧ S0 R (cR s) := by
  have hu := st_le h (by omega) hs
  have hz := h.z
  have hdn := dn_le h
  unfold dn at hdn
  have hm0 := h.hm
  have hm1 := h.m1
  have hra := h.ra
  have ha0 := h.a0
  have hcl := h.cl
  have hpcl : up s.ct.cl = s.ct.cl + 1 := up_one (by omega) (by omega)
  have hpra : up s.ct.ra = s.ct.ra + 1 := up_one (by omega) (by omega)
  refine ⟨?_, s0_do hs hd hu ?_⟩
  · obtain ⟨z, hm, cl, lo, ra, ev, fo, en, n, a0, R1, m1⟩ := h
    refine ⟨?_, ?_, ?_, ?_, ?_, ?_, ?_, ?_, ?_, a0, R1, m1⟩ <;> (try unfold cR) <;> dsimp only <;> omega
  · unfold dn cR; dsimp only; omega
theorem CoN.idle {a R m d : Int} {s : St} {x : Num} (h : CoN a R m s.ct x) (hd : 0 ≤ d) (hs : S1 R s.ct (d + 1)) : CoN a R m (cSt s) x ∧ S1 R (cSt s) d := by
  have hu := st_le h (by omega) hs
  refine ⟨?_, s1_idle hs hu rfl⟩
  obtain ⟨z, hm, cl, lo, ra, ev, fo, en, n, a0, R1, m1⟩ := h
  refine ⟨?_, hm, cl, lo, ra, ev, fo, en, n, a0, R1, m1⟩
  unfold cSt; dsimp only; omega
/-- the same of a state -/
abbrev Co (a R m : Int) (s : St) : Prop := CoN a R m s.ct (num s.pg)
theorem fi_lt {f : Pg → Bool} {l : List Pg} (h : ∃ y ∈ l, f y = true) : l.findIdx f < l.length := List.findIdx_lt_length_of_exists h
/-- cooling: in a run as long as there is anything to do -/
structure PC (a R m : Int) (t : St) : Prop where
  co : Co a R m t
  run : Gc t → S1 R t.ct (d1 t.pg + 1)
  out : ¬ Gc t → S0 R t.ct
theorem pc_of {a R m : Int} {t : St} (hw : Ww t) (h : Co a R m t) (h0 : S0 R t.ct) : PC a R m t := by
  refine ⟨h, fun hg => s1_of h0 ?_, fun _ => h0⟩
  have h1 := fi_lt (hot_dg (hw.hot hg))
  have h2 := h.n
  have h3 : t.pg.length = (num t.pg).n := rfl
  unfold d1
  omega
theorem cost_coolW {a R m : Int} {s : St} (hw : Ww s) (h : Co a R m s) (h0 : S0 R s.ct) : Co a R m (cool s) ∧ S0 R (cool s).ct := by
  have H := coolW (P := PC a R m) (fun t p l hw e hg hP => by
    have hr := hP.run hg
    have hw2 := hw.clS e
    rcases clS_num hw e with ⟨_, ec, en, g1, _⟩ | ⟨_, ec, en, g1⟩ | ⟨_, ec, en, g1⟩ | ⟨_, ec, en, g1⟩ | ⟨hd, ec, en, eq⟩
    · obtain ⟨b1, b2⟩ := hP.co.fo1 (by omega) hr g1
      exact pc_of hw2 (by unfold Co; rw [ec, en]; exact b1) (by rw [ec]; exact b2)
    · obtain ⟨b1, b2⟩ := hP.co.cl1 (by omega) hr g1
      exact pc_of hw2 (by unfold Co; rw [ec, en]; exact b1) (by rw [ec]; exact b2)
    · obtain ⟨b1, b2⟩ := hP.co.lo1 (by omega) hr g1
      exact pc_of hw2 (by unfold Co; rw [ec, en]; exact b1) (by rw [ec]; exact b2)
    · obtain ⟨b1, b2⟩ := hP.co.en1 (by omega) hr g1
      exact pc_of hw2 (by unfold Co; rw [ec, en]; exact b1) (by rw [ec]; exact b2)
    · have hpg : (clS t p).pg = l ++ [p] := by rw [eq]; show t.pg.tail ++ [p] = _; rw [e]; rfl
      have hf := fi_turn hd (by rw [← e]; exact hot_dg (hw.hot hg))
      have e1 : d1 t.pg = d1 (clS t p).pg + 1 := by unfold d1; rw [hpg, e]; omega
      rw [e1] at hr
      obtain ⟨b1, b2⟩ := hP.co.idle (d := d1 (clS t p).pg + 1) (by omega) (by simpa using hr)
      refine ⟨by unfold Co; rw [ec, en]; exact b1, fun _ => by rw [ec]; exact b2, fun h2 => absurd ?_ h2⟩
      unfold Gc at hg ⊢
      rw [hN] at hg ⊢
      rw [en, eq]
      exact hg) s hw (pc_of hw h h0)
  exact ⟨H.1.co, H.1.out H.2.2⟩
theorem cost_rcl {a R m : Int} {s : St} (hb : B s) (h : Co a R m s) (h0 : S0 R s.ct) : Co a R m (rcl s).1 ∧ S0 R (rcl s).1.ct := by
  have hd : ∀ t, B t → Co a R m t → (d2 t : Int) + 1 ≤ R := fun t hb h => by
    have hc := hb.cold
    unfold many at hc
    obtain ⟨y, hy, hk⟩ := List.countP_pos_iff.1 hc
    have h1 := fi_lt (f := k2) (l := rot t.co.toNat t.pg) ⟨y, (rot_mem _ _ _).2 hy, hk⟩
    rw [rot_len] at h1
    have h2 := h.n
    have h3 : t.pg.length = (num t.pg).n := rfl
    unfold d2
    omega
  refine rcl_ind (P := fun t => Co a R m t ∧ S1 R t.ct (d2 t + 1)) (Q := fun t => Co a R m t ∧ S0 R t.ct) ?_ ?_ ?_ ?_ s hb ⟨h, s1_of h0 (hd s hb h)⟩
  · intro t p hb hp hk ⟨h, hs⟩
    have e := d2_on hp hk hb.w.hc.1 hb.cold
    rw [← e] at hs
    obtain ⟨b1, b2⟩ := h.idle (d := d2 (cStep t) + 1) (by omega) (by simpa using hs)
    exact ⟨b1, b2⟩
  · intro t p hb hp hk hm ⟨h, hs⟩
    have hb2 := hb.mark hp hk hm
    have H : Co a R m (mkS (setc t (cSt t)) p) ∧ S0 R (mkS (setc t (cSt t)) p).ct := by
      cases ht : p.test with
      | false =>
        rw [mkS_T ht]
        obtain ⟨e, e1⟩ := mkT_num (s := setc t (cSt t)) hp hk hm ht
        obtain ⟨b1, b2⟩ := h.mkT (by omega) hs e1
        exact ⟨by unfold Co; rw [e]; exact b1, b2⟩
      | true =>
        rw [mkS_R ht]
        obtain ⟨e, e1, e2, e3⟩ := mkR_num (s := setc t (cSt t)) hp hk hm ht
        obtain ⟨b1, b2⟩ := h.mkR (by omega) hs e1 e2 e3
        have ec : (mkR (setc t (cSt t)) p).ct = cR t := by unfold mkR head; dsimp only; rw [rises_ct]; rfl
        exact cost_coolW (mkR_ww (hb.w.setc _) hp) (by unfold Co; rw [ec, e]; exact b1) (by rw [ec]; exact b2)
    exact ⟨H.1, s1_of H.2 (hd _ hb2 H.1)⟩
  · intro t p hb hp hk hm ht ⟨h, hs⟩
    obtain ⟨e, e1, e2⟩ := out_num hp hk hm ht
    obtain ⟨b1, b2⟩ := h.evO (by omega) hs e1
    exact ⟨by unfold Co; rw [e]; exact b1, b2⟩
  · intro t p hb hp hk hm ht ⟨h, hs⟩
    obtain ⟨e, e1, e2⟩ := gone_num hp hk hm ht
    obtain ⟨b1, b2⟩ := h.evG (by omega) hs e1 e2
    exact ⟨by unfold Co; rw [e]; exact b1, b2⟩
theorem cost_spillW {a R m most : Int} {s : St} (hw : Ww s) (hr : ¬ Gc s) (hm : s.cf.c - 1 ≤ most) (h : Co a R m s) (h0 : S0 R s.ct) : Co a R m (spillW most s).1 ∧ S0 R (spillW most s).1.ct :=
  (spillW_ind (P := fun t => Co a R m t ∧ S0 R t.ct) (fun t hb _ hP => cost_rcl hb hP.1 hP.2) s hw hr hm ⟨h, h0⟩).1
/-- more pages are gone than may be -/
def G3 (t : St) : Prop := (many t.pg 3 : Int) > t.cf.g
structure PE (a R m : Int) (t : St) : Prop where
  co : Co a R m t
  run : G3 t → S1 R t.ct (d3 t + 1)
  out : ¬ G3 t → S0 R t.ct
theorem g3_hot {t : St} (hw : Ww t) (hg : G3 t) : 0 < many t.pg 3 := by have := hw.ck.2.2.2.1; unfold G3 at hg; omega
theorem pe_of {a R m : Int} {t : St} (hw : Ww t) (h : Co a R m t) (h0 : S0 R t.ct) : PE a R m t := by
  refine ⟨h, fun hg => s1_of h0 ?_, fun _ => h0⟩
  have hc := g3_hot hw hg
  unfold many at hc
  obtain ⟨y, hy, hk⟩ := List.countP_pos_iff.1 hc
  have h1 := fi_lt (f := tdg) (l := rot t.te.toNat t.pg) ⟨y, (rot_mem _ _ _).2 hy, by unfold tdg; rw [hk]; rfl⟩
  rw [rot_len] at h1
  have h2 := h.n
  have h3 : t.pg.length = (num t.pg).n := rfl
  unfold d3
  omega
theorem cost_expire {a R m : Int} {s : St} (hw : Ww s) (h : Co a R m s) (h0 : S0 R s.ct) : Co a R m (expire s) ∧ S0 R (expire s).ct := by
  have H := expire_ind (P := PE a R m) (fun t p hw hp hg hP => by
    have hr := hP.run hg
    have hw2 := hw.exS hp
    rcases exS_num hw hp with ⟨_, ec, en, g1, _⟩ | ⟨_, ec, en, g1⟩ | ⟨hd, ec, en, eq⟩
    · obtain ⟨b1, b2⟩ := hP.co.fo1 (by omega) hr g1
      exact pe_of hw2 (by unfold Co; rw [ec, en]; exact b1) (by rw [ec]; exact b2)
    · obtain ⟨b1, b2⟩ := hP.co.en1 (by omega) hr g1
      exact pe_of hw2 (by unfold Co; rw [ec, en]; exact b1) (by rw [ec]; exact b2)
    · have e1 := d3_on hp hd hw.ht.1 (g3_hot hw hg)
      rw [← eq] at e1
      rw [← e1] at hr
      obtain ⟨b1, b2⟩ := hP.co.idle (d := d3 (exS t p) + 1) (by omega) (by simpa using hr)
      refine ⟨by unfold Co; rw [ec, en]; exact b1, fun _ => by rw [ec]; exact b2, fun h2 => absurd ?_ h2⟩
      unfold G3
      rw [gN, en, exS_cf]
      exact hg) s hw (pe_of hw h h0)
  exact ⟨H.1.co, H.1.out (fun h => by have := H.2.2; unfold G3 at h; omega)⟩
/-- WHAT IT COSTS, behind any act -/
structure Cw (R m : Int) (s : St) : Prop where
  co : Co 0 R m s
  s0 : S0 R s.ct
theorem Cw.mono {R m R' m' : Int} {s : St} (h : Cw R m s) (hR : R ≤ R') (hm : m ≤ m') (hR1 : R' ≤ 1000) (hm1 : m' ≤ 1000) : Cw R' m' s := by
  refine ⟨?_, ?_⟩
  · have hdn := dn_le h.co
    obtain ⟨z, hm, cl, lo, ra, ev, fo, en, n, a0, R1, m1⟩ := h.co
    exact ⟨z, by omega, cl, lo, ra, ev, fo, en, by omega, a0, hR1, hm1⟩
  · have h1 := (dn_le h.co).1
    have h2 := h.s0
    unfold S0 at *
    have := Int.mul_le_mul_of_nonneg_left hR h1
    omega
theorem kinds {s : St} (hw : Ww s) : s.pg.length = (num s.pg).h + (num s.pg).c + (num s.pg).g := by
  have H : ∀ l : List Pg, (∀ p ∈ l, Pok p) → l.length = (num l).h + (num l).c + (num l).g := by
    intro l
    induction l with
    | nil => intro _; rfl
    | cons p l ih =>
      intro hp
      have h1 := ih (fun q hq => hp q (List.mem_cons_of_mem _ hq))
      have h2 := num_cons l p
      have h3 : (one p).h + (one p).c + (one p).g = 1 := by
        rcases hp p (by simp) with h | h | h
        · rw [one_hot h.1]; rfl
        · rw [one_cold h]; rfl
        · rw [one_gone h.1]; rfl
      obtain ⟨a1, a2, a3, a4, a5, a6⟩ := h2
      rw [List.length_cons]
      omega
  exact H s.pg hw.pk
theorem wg_len {s : St} (h : Wg s) : (s.pg.length : Int) ≤ s.cf.c + s.cf.g := by
  have h1 := kinds h.w
  have h2 := h.k
  have h3 := h.g
  rw [kN] at h2
  rw [gN] at h3
  omega
theorem cost_touchW {R m : Int} {s : St} (hr : Wg s) (h : Cw R m s) (hm : m + 1 ≤ 1000) (k : Int) : Cw R (m + 1) (touchW s k) := by
  have hmono := h.mono (Int.le_refl R) (m' := m + 1) (by omega) h.co.R1 hm
  unfold touchW
  split
  · split
    · rename_i i hi
      obtain ⟨p, hp, e, hm2⟩ := fnd_page hi
      rw [hp]
      dsimp only
      obtain ⟨n1, n2, n3, n4, n5, n6⟩ := touch_num hp
      refine ⟨?_, h.s0⟩
      obtain ⟨z, hm, cl, lo, ra, ev, fo, en, n, a0, R1, m1⟩ := h.co
      have hu : up s.ct.hi = s.ct.hi + 1 := up_one z.1 (by omega)
      refine ⟨?_, ?_, ?_, ?_, ?_, ?_, ?_, ?_, ?_, a0, R1, by omega⟩ <;> (try unfold hitW) <;> (try dsimp only) <;> omega
    · exact hmono
  · exact hmono
theorem co_erase {a R m : Int} {s : St} (h : Co a R m s) {i : Nat} {p : Pg} (hp : s.pg[i]? = some p) : CoN a R m s.ct (num (s.pg.eraseIdx i)) := by
  obtain ⟨a1, a2, a3, a4, a5, a6⟩ := num_erase hp
  obtain ⟨z, hm, cl, lo, ra, ev, fo, en, n, a0, R1, m1⟩ := h
  exact ⟨z, hm, by omega, by omega, ra, by omega, by omega, by omega, by omega, a0, R1, m1⟩
theorem cost_dropW {R m : Int} {s : St} (h : Cw R m s) (hm : m + 1 ≤ 1000) (k : Int) : Cw R (m + 1) (dropW s k) := by
  refine Cw.mono (m := m) ?_ (Int.le_refl R) (by omega) h.co.R1 hm
  unfold dropW
  split
  · rename_i i hi
    obtain ⟨p, hp, _, _⟩ := fnd_page hi
    exact ⟨co_erase h.co hp, h.s0⟩
  · exact h
theorem cost_resizeW {R m : Int} {s : St} (hr : Wg s) (h : Cw R m s) (hm : m + 1 ≤ 1000) (c : Cf) (hc : Clk c) (hR : c.c + c.g ≤ R) : Cw R (m + 1) (resizeW s c) := by
  refine Cw.mono (m := m) ?_ (Int.le_refl R) (by omega) h.co.R1 hm
  have hw0 : Ww (reS s c) := ⟨hc, by show 1 ≤ c.q ∧ c.q ≤ c.c - 1; have := hc.2.2.1; omega, hr.w.nk, hr.w.pk, hr.w.qu, hr.w.gh, hr.w.hc, hr.w.ht⟩
  obtain ⟨a1, a2⟩ := cost_coolW (a := 0) (R := R) (m := m) hw0 h.co h.s0
  have hcf : (cool (reS s c)).cf = c := (cool_le hw0).cf
  have hm1 : (cool (reS s c)).cf.c - 1 ≤ c.c := by rw [hcf]; omega
  obtain ⟨b1, b2⟩ := cost_spillW (most := c.c) (cool_ww hw0) (cool_rm hw0) hm1 a1 a2
  have hs := spill_sp (most := c.c) (cool_ww hw0) (cool_rm hw0) hm1
  obtain ⟨c1, c2⟩ := cost_expire hs.w b1 b2
  exact ⟨c1, c2⟩
theorem cost_admitW {R m : Int} {s : St} (hr : Wg s) (h : Cw R m s) (hm : m + 1 ≤ 1000) (k : Int) (hR : s.cf.c + s.cf.g ≤ R) : Cw R (m + 1) (admitW s k) := by
  by_cases hk : KptW s k
  · unfold admitW; rw [if_pos hk]
    exact h.mono (Int.le_refl R) (by omega) h.co.R1 hm
  obtain ⟨a1, a2, a3, a4, a5, a6, a7⟩ := admA_ok hr hk
  -- a miss more at hand
  have c0 : Co 1 R (m + 1) (misW s) := by
    obtain ⟨z, hm2, cl, lo, ra, ev, fo, en, n, a0, R1, m1⟩ := h.co
    have hu : up s.ct.mi = s.ct.mi + 1 := up_one z.2.1 (by omega)
    refine ⟨?_, ?_, ?_, ?_, ?_, ?_, ?_, ?_, ?_, by omega, R1, hm⟩ <;> (try unfold misW) <;> (try dsimp only) <;> omega
  have cA : Co 1 R (m + 1) (admA s k) ∧ S0 R (admA s k).ct := by
    unfold admA
    split
    · rename_i i hi
      obtain ⟨p, hp, _, _⟩ := fnd_page hi
      have hw1 : Ww (rises (leave (misW s) i)) := ((hr.w.setc (misW s).ct).leave (at_lt hp)).rises
      refine cost_coolW hw1 ?_ ?_
      · unfold Co; rw [rises_ct, rises_pg]
        exact co_erase (s := misW s) c0 hp
      · rw [rises_ct]; exact h.s0
    · exact ⟨c0, h.s0⟩
  have hs := spill_sp (most := s.cf.c - 1) a1 a2 (by rw [a3]; exact Int.le_refl _)
  obtain ⟨b1, b2⟩ := cost_spillW (most := s.cf.c - 1) a1 a2 (by rw [a3]; exact Int.le_refl _) cA.1 cA.2
  have cC : Co 1 R (m + 1) (admC s k) ∧ S0 R (admC s k).ct := cost_expire hs.w b1 b2
  obtain ⟨w1, w2, w3, w4, w5, w6, w7⟩ := admC_ok hr hk
  have hln := kinds w1
  unfold admitW
  rw [if_neg hk]
  split
  · have hw : Ww (head (raW (admC s k)) ⟨k, 1, false, false⟩) := (w1.setc (raW (admC s k)).ct).head (head_nd w1 w4) (.inl ⟨rfl, rfl⟩)
    have hn := num_app (admC s k).pg ⟨k, 1, false, false⟩
    rw [one_hot (p := ⟨k, 1, false, false⟩) rfl] at hn
    obtain ⟨q1, q2, q3, q4, q5, q6⟩ := hn
    dsimp only at q1 q2 q3 q4 q5 q6
    simp [b2n] at q4
    have H : Co 0 R (m + 1) (head (raW (admC s k)) ⟨k, 1, false, false⟩) := by
      obtain ⟨z, hm2, cl, lo, ra, ev, fo, en, n, a0, R1, m1⟩ := cC.1
      have hu : up (admC s k).ct.ra = (admC s k).ct.ra + 1 := up_one z.2.2.1 (by omega)
      rw [kN] at w6
      rw [gN] at w7
      rw [lN] at hln
      show CoN 0 R (m + 1) (raW (admC s k)).ct (num ((admC s k).pg ++ [⟨k, 1, false, false⟩]))
      refine ⟨?_, ?_, ?_, ?_, ?_, ?_, ?_, ?_, ?_, by omega, R1, hm⟩ <;> (try unfold raW) <;> (try dsimp only) <;> omega
    obtain ⟨e1, e2⟩ := cost_coolW hw H cC.2
    exact ⟨e1, e2⟩
  · have hn := num_app (admC s k).pg ⟨k, 2, true, false⟩
    rw [one_cold (p := ⟨k, 2, true, false⟩) rfl] at hn
    obtain ⟨q1, q2, q3, q4, q5, q6⟩ := hn
    dsimp only at q1 q2 q3 q4 q5 q6
    simp [b2n] at q4 q5
    refine ⟨?_, cC.2⟩
    obtain ⟨z, hm2, cl, lo, ra, ev, fo, en, n, a0, R1, m1⟩ := cC.1
    rw [kN] at w6
    rw [gN] at w7
    rw [lN] at hln
    show CoN 0 R (m + 1) (admC s k).ct (num ((admC s k).pg ++ [⟨k, 2, true, false⟩]))
    refine ⟨z, ?_, ?_, ?_, ?_, ?_, ?_, ?_, ?_, by omega, R1, hm⟩ <;> omega
theorem cost_new {R : Int} (hR : 0 ≤ R) (hR1 : R ≤ 1000) (c : Cf) : Cw R 0 ⟨c, c.q, [], [], [], 0, 0, ⟨0, 0, 0, 0, 0, 0, 0, 0, 0, 0⟩⟩ := by
  refine ⟨⟨?_, ?_, ?_, ?_, ?_, ?_, ?_, ?_, ?_, by omega, hR1, by omega⟩, ?_⟩ <;> simp [num, many, mks, tcs, S0, dn] <;> omega
/-- what the statement asks of the counts -/
theorem cw_says {R m : Int} {s : St} (h : Cw R m s) : s.ct.cl ≤ s.ct.hi ∧ s.ct.ev ≤ s.ct.mi ∧ s.ct.ra ≤ s.ct.hi + s.ct.mi ∧ s.ct.lo ≤ s.ct.ra ∧ s.ct.fo ≤ s.ct.ev ∧ s.ct.en ≤ s.ct.hi + s.ct.mi ∧ dn s.ct ≤ 4 * (s.ct.hi + s.ct.mi) ∧ s.ct.st ≤ dn s.ct * R ∧ s.ct.hi + s.ct.mi ≤ m := by
  have h0 := h.s0
  obtain ⟨z, hm, cl, lo, ra, ev, fo, en, n, a0, R1, m1⟩ := h.co
  refine ⟨by omega, by omega, by omega, by omega, by omega, by omega, ?_, h0, hm⟩
  unfold dn
  omega
end Go.Proofs.WheelM
namespace Go.Proofs.WheelM
open Go.Proofs.StackM
set_option linter.unusedVariables false
theorem admit_plain {s : St} {k : Int} (hf : fnd s.pg k = none) (h1 : ¬ (kps s.pg : Int) > s.cf.c - 1) (h2 : ¬ (many s.pg 3 : Int) > s.cf.g) : admitW s k = head (misW s) ⟨k, 2, true, false⟩ ∧ admOutW s k = [] := by
  have hk : ¬ KptW s k := by unfold KptW; rw [isW_no hf]; decide
  have hA : admA s k = misW s := by unfold admA; rw [hf]
  have hB : admB s k = (misW s, []) := by unfold admB; rw [hA]; exact spillW_done h1
  have hC : admC s k = misW s := by unfold admC; rw [hB]; exact expire_done h2
  exact ⟨by unfold admitW; rw [if_neg hk, hf, hC], by unfold admOutW; rw [if_neg hk, hB]⟩
def exC : Cf := ⟨2, 3, 1, 2⟩
def exN (p : List Pg) (t co : Int) (c : Ct) : St := ⟨exC, t, p, [], [], co, 0, c⟩
def ex0 : St := exN [] 1 0 ⟨0, 0, 0, 0, 0, 0, 0, 0, 0, 0⟩
def ex3 : St := exN [⟨1, 2, true, false⟩, ⟨2, 2, true, false⟩, ⟨3, 2, true, false⟩] 1 0 ⟨0, 3, 0, 0, 0, 0, 0, 0, 0, 0⟩
def ex4 : St := exN [⟨1, 2, true, true⟩, ⟨2, 2, true, false⟩, ⟨3, 2, true, false⟩] 1 0 ⟨1, 3, 0, 0, 0, 0, 0, 0, 0, 0⟩
def ex5 : St := exN [⟨2, 3, true, false⟩, ⟨3, 2, true, false⟩, ⟨1, 1, false, false⟩, ⟨4, 2, true, false⟩] 2 1 ⟨1, 4, 1, 0, 0, 1, 0, 1, 0, 2⟩
theorem ex_three : admitW (admitW (admitW ex0 1) 2) 3 = ex3 := by
  have h1 : admitW ex0 1 = exN [⟨1, 2, true, false⟩] 1 0 ⟨0, 1, 0, 0, 0, 0, 0, 0, 0, 0⟩ := (admit_plain (by decide) (by decide) (by decide)).1
  have h2 : admitW (exN [⟨1, 2, true, false⟩] 1 0 ⟨0, 1, 0, 0, 0, 0, 0, 0, 0, 0⟩) 2 = exN [⟨1, 2, true, false⟩, ⟨2, 2, true, false⟩] 1 0 ⟨0, 2, 0, 0, 0, 0, 0, 0, 0, 0⟩ := (admit_plain (by decide) (by decide) (by decide)).1
  have h3 : admitW (exN [⟨1, 2, true, false⟩, ⟨2, 2, true, false⟩] 1 0 ⟨0, 2, 0, 0, 0, 0, 0, 0, 0, 0⟩) 3 = ex3 := (admit_plain (by decide) (by decide) (by decide)).1
  rw [h1, h2, h3]
theorem ex_touch : touchW ex3 1 = ex4 ∧ KptW ex3 1 := by
  have hk : KptW ex3 1 := by decide
  exact ⟨by unfold touchW; rw [if_pos hk]; rfl, hk⟩
def exM : St := exN [⟨2, 2, true, false⟩, ⟨3, 2, true, false⟩, ⟨1, 1, false, false⟩] 2 0 ⟨1, 4, 1, 0, 0, 0, 0, 1, 0, 1⟩
def exE : St := exN [⟨2, 3, true, false⟩, ⟨3, 2, true, false⟩, ⟨1, 1, false, false⟩] 2 1 ⟨1, 4, 1, 0, 0, 1, 0, 1, 0, 2⟩
theorem ex_rcl : rcl (misW ex4) = (exE, 2) := by
  have h1 : rcl (misW ex4) = rcl (mkS (setc (misW ex4) (cSt (misW ex4))) ⟨1, 2, true, true⟩) := rcl_mark (by rfl) rfl rfl
  have h2 : mkS (setc (misW ex4) (cSt (misW ex4))) ⟨1, 2, true, true⟩ = exM := by
    rw [mkS_R rfl]
    have e : mkR (setc (misW ex4) (cSt (misW ex4))) ⟨1, 2, true, true⟩ = exM := by rfl
    rw [e]
    exact cool_done (by decide)
  have h3 : rcl exM = (evGone exM ⟨2, 2, true, false⟩, 2) := rcl_gone (by rfl) rfl rfl rfl
  rw [h1, h2, h3]
  rfl
theorem ex_last : ¬ KptW ex4 4 ∧ fnd ex4.pg 4 = none ∧ admitW ex4 4 = ex5 ∧ admOutW ex4 4 = [2] := by
  have hk : ¬ KptW ex4 4 := by decide
  have hf : fnd ex4.pg 4 = none := by decide
  have hA : admA ex4 4 = misW ex4 := by unfold admA; rw [hf]
  have hd : spillW (ex4.cf.c - 1) exE = (exE, []) := spillW_done (by decide)
  have hB : admB ex4 4 = (exE, [2]) := by
    unfold admB
    rw [hA, spillW_step (by decide) (by rw [ex_rcl]; decide), ex_rcl, hd]
  have hC : admC ex4 4 = exE := by unfold admC; rw [hB]; exact expire_done (by decide)
  exact ⟨hk, hf, by unfold admitW; rw [if_neg hk, hf, hC]; rfl, by unfold admOutW; rw [if_neg hk, hB]⟩
end Go.Proofs.WheelM
