/-
  CLOCK-Pro by one ring, as the document's own functions have it: plain.
  CLOCK-Pro by one ring: reclaiming, expiring and the acts: plain.
  CLOCK-Pro by one ring: what keeps a state right, and what the hot hand does: plain.
-/
import Derived.Test.YtejcahkkpednfaaG01
namespace Go.Proofs.WheelM
open Go.Proofs.StackM
set_option linter.unusedVariables false
def kps (l : List Pg) : Nat := many l 1 + many l 2
def behind (a i n : Int) : Int := if (if a > i then a - 1 else a) ≥ n - 1 then 0 else (if a > i then a - 1 else a)
def leave (s : St) (i : Nat) : St := { s with pg := s.pg.eraseIdx i, co := behind s.co i s.pg.length, te := behind s.te i s.pg.length }
def head (s : St) (p : Pg) : St := { s with pg := s.pg ++ [p] }
def onw (a n : Int) : Int := (a + 1) % n
def bkw (a n : Int) : Int := (a + n - 1) % n
def turnp (s : St) (p : Pg) : St := { s with pg := s.pg.tail ++ [p], co := bkw s.co s.pg.length, te := bkw s.te s.pg.length }
def rises (s : St) : St := if s.tg < s.cf.c - 1 then { s with tg := s.tg + 1 } else s
def falls (s : St) : St := if s.tg > 1 then { s with tg := s.tg - 1 } else s
def setc (s : St) (c : Ct) : St := { s with ct := c }
def cSt (s : St) : Ct := { s.ct with st := up s.ct.st }
def cFo (s : St) : Ct := { s.ct with st := up s.ct.st, fo := up s.ct.fo }
def cCl (s : St) : Ct := { s.ct with st := up s.ct.st, cl := up s.ct.cl }
def cLo (s : St) : Ct := { s.ct with st := up s.ct.st, lo := up s.ct.lo }
def cEn (s : St) : Ct := { s.ct with st := up s.ct.st, en := up s.ct.en }
def cEv (s : St) : Ct := { s.ct with st := up s.ct.st, ev := up s.ct.ev }
theorem falls_eq (s : St) : falls s = { s with tg := (falls s).tg } := by unfold falls; split <;> rfl
theorem rises_eq (s : St) : rises s = { s with tg := (rises s).tg } := by unfold rises; split <;> rfl
@[simp] theorem falls_pg (s : St) : (falls s).pg = s.pg := by rw [falls_eq]
@[simp] theorem falls_ct (s : St) : (falls s).ct = s.ct := by rw [falls_eq]
@[simp] theorem falls_cf (s : St) : (falls s).cf = s.cf := by rw [falls_eq]
@[simp] theorem falls_co (s : St) : (falls s).co = s.co := by rw [falls_eq]
@[simp] theorem falls_te (s : St) : (falls s).te = s.te := by rw [falls_eq]
@[simp] theorem falls_qu (s : St) : (falls s).qu = s.qu := by rw [falls_eq]
@[simp] theorem falls_gh (s : St) : (falls s).gh = s.gh := by rw [falls_eq]
@[simp] theorem rises_pg (s : St) : (rises s).pg = s.pg := by rw [rises_eq]
@[simp] theorem rises_ct (s : St) : (rises s).ct = s.ct := by rw [rises_eq]
@[simp] theorem rises_cf (s : St) : (rises s).cf = s.cf := by rw [rises_eq]
@[simp] theorem rises_co (s : St) : (rises s).co = s.co := by rw [rises_eq]
@[simp] theorem rises_te (s : St) : (rises s).te = s.te := by rw [rises_eq]
@[simp] theorem rises_qu (s : St) : (rises s).qu = s.qu := by rw [rises_eq]
@[simp] theorem rises_gh (s : St) : (rises s).gh = s.gh := by rw [rises_eq]
/-- one look of the hot hand, at the page p -/
def clS (s : St) (p : Pg) : St :=
  if p.kind = 3 then falls (leave (setc s (cFo s)) 0)
  else if p.kind = 1 ∧ p.mark = true then turnp (setc s (cCl s)) { p with mark := false }
  else if p.kind = 1 then turnp (setc s (cLo s)) { p with kind := 2 }
  else if p.test = true then turnp (falls (setc s (cEn s))) { p with test := false }
  else turnp (setc s (cSt s)) p
def wt (p : Pg) : Nat := if p.kind = 3 then 1 else (if p.kind = 1 then 1 else 0) + (if p.kind = 1 ∧ p.mark = true then 1 else 0) + (if p.test = true then 1 else 0)
def ws : List Pg → Nat
  | [] => 0
  | p :: l => wt p + ws l
def dg (p : Pg) : Bool := decide (0 < wt p)
def d1 (l : List Pg) : Nat := l.findIdx dg
theorem ws_app (a b : List Pg) : ws (a ++ b) = ws a + ws b := by
  induction a with
  | nil => simp [ws]
  | cons x a ih => simp [ws, ih]; omega
theorem fi_turn {f : Pg → Bool} {x : Pg} {t : List Pg} (hx : f x = false) (h : ∃ y ∈ x :: t, f y = true) : (t ++ [x]).findIdx f + 1 = (x :: t).findIdx f := by
  have h1 : (x :: t).findIdx f = t.findIdx f + 1 := by rw [List.findIdx_cons, hx]; rfl
  obtain ⟨y, hy, hf⟩ := h
  have hy2 : y ∈ t := by
    rcases List.mem_cons.1 hy with rfl | hy
    · rw [hx] at hf; cases hf
    · exact hy
  have h2 : t.findIdx f < t.length := List.findIdx_lt_length_of_exists ⟨y, hy2, hf⟩
  rw [h1, List.findIdx_append, if_pos h2]
theorem hot_dg {l : List Pg} (h : 0 < many l 1) : ∃ y ∈ l, dg y = true := by
  unfold many at h
  rw [List.countP_pos_iff] at h
  obtain ⟨y, hy, hk⟩ := h
  refine ⟨y, hy, ?_⟩
  have hk' : y.kind = 1 := by simpa using hk
  unfold dg wt
  rw [hk']
  simp
  split <;> omega
/-- which look of the hot hand: one that does something takes a weight, one that is idle turns -/
theorem clS_look {s : St} {p : Pg} {l : List Pg} (h : s.pg = p :: l) : (dg p = true ∧ ws (clS s p).pg + 1 = ws s.pg) ∨ (dg p = false ∧ clS s p = turnp (setc s (cSt s)) p) := by
  unfold clS dg
  by_cases h3 : p.kind = 3
  · left
    rw [if_pos h3]
    refine ⟨by simp [wt, h3], ?_⟩
    rw [falls_pg]
    show ws (s.pg.eraseIdx 0) + 1 = _
    rw [h]
    show ws l + 1 = wt p + ws l
    unfold wt; rw [if_pos h3]; omega
  rw [if_neg h3]
  by_cases h1 : p.kind = 1
  · left
    refine ⟨by simp [wt, h1]; omega, ?_⟩
    by_cases hm : p.mark = true
    · rw [if_pos ⟨h1, hm⟩]
      show ws (s.pg.tail ++ [_]) + 1 = _
      rw [h, List.tail_cons, ws_app]
      simp [ws, wt, h1, hm]; omega
    · rw [if_neg (fun e => hm e.2), if_pos h1]
      show ws (s.pg.tail ++ [_]) + 1 = _
      rw [h, List.tail_cons, ws_app]
      simp [ws, wt, h1, hm]; omega
  · rw [if_neg (fun e => h1 e.1), if_neg h1]
    by_cases ht : p.test = true
    · left
      rw [if_pos ht]
      refine ⟨by simp [wt, h1, h3, ht], ?_⟩
      show ws ((falls (setc s (cEn s))).pg.tail ++ [_]) + 1 = _
      rw [falls_pg]
      show ws (s.pg.tail ++ [_]) + 1 = _
      rw [h, List.tail_cons, ws_app]
      simp [ws, wt, h1, h3, ht]; omega
    · right
      rw [if_neg ht]
      exact ⟨by simp [wt, h1, h3, ht], rfl⟩
theorem clS_lt {s : St} {p : Pg} {l : List Pg} (h : s.pg = p :: l) (hh : 0 < many s.pg 1) : Prod.Lex (· < ·) (· < ·) (ws (clS s p).pg, d1 (clS s p).pg) (ws s.pg, d1 s.pg) := by
  rcases clS_look h with ⟨_, h2⟩ | ⟨h1, h2⟩
  · exact Prod.Lex.left _ _ (by omega)
  · have e : (clS s p).pg = l ++ [p] := by rw [h2]; show s.pg.tail ++ [p] = _; rw [h]; rfl
    rw [e]
    have hw : ws (l ++ [p]) = ws s.pg := by rw [h, ws_app]; simp [ws]; omega
    rw [hw]
    refine Prod.Lex.right _ ?_
    have := fi_turn h1 (by rw [← h]; exact hot_dg hh)
    unfold d1
    rw [h]
    omega
def cool (s : St) : St :=
  if hg : (many s.pg 1 : Int) > s.cf.c - s.tg ∧ 0 < many s.pg 1 then
    match h : s.pg with
    | [] => s
    | p :: l => cool (clS s p)
  else s
  termination_by (ws s.pg, d1 s.pg)
  decreasing_by exact clS_lt h hg.2
theorem cool_done {s : St} (h : ¬ (many s.pg 1 : Int) > s.cf.c - s.tg) : cool s = s := by rw [cool, dif_neg (fun e => h e.1)]
theorem cool_step {s : St} {p : Pg} {l : List Pg} (h : s.pg = p :: l) (hg : (many s.pg 1 : Int) > s.cf.c - s.tg) (hh : 0 < many s.pg 1) : cool s = cool (clS s p) := by
  rw [cool, dif_pos ⟨hg, hh⟩]; split
  · rename_i h1; rw [h] at h1; cases h1
  · rename_i p' l' h1; rw [h] at h1; cases h1; rfl
theorem cool_ind {P : St → Prop} (step : ∀ s p l, s.pg = p :: l → (many s.pg 1 : Int) > s.cf.c - s.tg → 0 < many s.pg 1 → P s → P (clS s p)) (s : St) (h : P s) : P (cool s) := by
  induction s using cool.induct with
  | case1 s hg h1 => exfalso; rw [h1] at hg; simp [many] at hg
  | case2 s hg p l h1 ih => rw [cool_step h1 hg.1 hg.2]; exact ih (step s p l h1 hg.1 hg.2 h)
  | case3 s hg => rw [cool, dif_neg hg]; exact h
/-- where there is room for none less than none, the guard is the plain one -/
theorem cool_room {s : St} {Q : St → Prop} (h0 : Q s) (hq : ∀ s, Q s → 0 ≤ s.cf.c - s.tg) (step : ∀ s p l, s.pg = p :: l → Q s → Q (clS s p)) : (many (cool s).pg 1 : Int) ≤ (cool s).cf.c - (cool s).tg := by
  induction s using cool.induct with
  | case1 s hg h1 => exfalso; rw [h1] at hg; simp [many] at hg
  | case2 s hg p l h1 ih => rw [cool_step h1 hg.1 hg.2]; exact ih (step s p l h1 h0)
  | case3 s hg =>
    rw [cool, dif_neg hg]
    have := hq s h0
    by_cases h2 : 0 < many s.pg 1
    · have : ¬ (many s.pg 1 : Int) > s.cf.c - s.tg := fun e => hg ⟨e, h2⟩
      omega
    · have : many s.pg 1 = 0 := by omega
      omega
/-- the ring, told from a place on -/
def rot (a : Nat) (l : List Pg) : List Pg := l.drop a ++ l.take a
theorem rot_mem (a : Nat) (l : List Pg) (y : Pg) : y ∈ rot a l ↔ y ∈ l := by
  unfold rot
  rw [List.mem_append, Or.comm, ← List.mem_append, List.take_append_drop]
theorem rot_len (a : Nat) (l : List Pg) : (rot a l).length = l.length := by
  unfold rot
  rw [List.length_append, List.length_drop, List.length_take]
  omega
theorem rot_on {f : Pg → Bool} {l : List Pg} {a : Nat} {x : Pg} (hx : l[a]? = some x) (hf : f x = false) (h : ∃ y ∈ l, f y = true) : (rot ((a + 1) % l.length) l).findIdx f + 1 = (rot a l).findIdx f := by
  obtain ⟨ha, hxa⟩ := List.getElem?_eq_some_iff.1 hx
  have e1 : rot a l = x :: (l.drop (a + 1) ++ l.take a) := by
    unfold rot
    rw [List.drop_eq_getElem_cons ha, hxa]
    rfl
  have e2 : rot ((a + 1) % l.length) l = l.drop (a + 1) ++ l.take a ++ [x] := by
    unfold rot
    by_cases hl : a + 1 = l.length
    · rw [hl, Nat.mod_self, List.drop_zero, List.take_zero, List.append_nil, List.drop_length, List.nil_append]
      have h3 : l.take (a + 1) = l.take a ++ [l[a]] := by rw [List.take_succ_eq_append_getElem ha]
      rw [← hxa, ← h3, hl, List.take_length]
    · rw [Nat.mod_eq_of_lt (by omega), List.append_assoc, List.take_succ_eq_append_getElem ha, hxa]
  rw [e2, e1]
  refine fi_turn hf ?_
  rw [← e1]
  obtain ⟨y, hy, hfy⟩ := h
  exact ⟨y, (rot_mem a l y).2 hy, hfy⟩
theorem onw_nat {a n : Nat} (h : a < n) : (onw (a : Int) (n : Int)).toNat = (a + 1) % n := by
  unfold onw
  have : ((a : Int) + 1) % (n : Int) = ((((a + 1) % n : Nat)) : Int) := by rw [Int.natCast_emod, Int.natCast_add]; rfl
  rw [this, Int.toNat_natCast]
theorem onw_in {a n : Int} (h : 0 ≤ a ∧ a < n) : 0 ≤ onw a n ∧ onw a n < n := ⟨Int.emod_nonneg _ (by omega), Int.emod_lt_of_pos _ (by omega)⟩
theorem bkw_in {a n : Int} (h : 0 < n) : 0 ≤ bkw a n ∧ bkw a n < n := ⟨Int.emod_nonneg _ (by omega), Int.emod_lt_of_pos _ (by omega)⟩
end Go.Proofs.WheelM
namespace Go.Proofs.WheelM
open Go.Proofs.StackM
set_option linter.unusedVariables false
def b2n (b : Bool) : Nat := if b = true then 1 else 0
theorem cnt_erase {f : Pg → Bool} : ∀ {l : List Pg} {i : Nat} {x : Pg}, l[i]? = some x → (l.eraseIdx i).countP f + b2n (f x) = l.countP f
  | a :: l, 0, x, h => by
    have : a = x := by simpa using h
    subst this
    show l.countP f + _ = _
    rw [List.countP_cons]
    rfl
  | a :: l, i + 1, x, h => by
    have := cnt_erase (f := f) (l := l) (i := i) (x := x) (by simpa using h)
    show (a :: l.eraseIdx i).countP f + _ = _
    rw [List.countP_cons, List.countP_cons]
    omega
theorem cnt_set {f : Pg → Bool} {y : Pg} : ∀ {l : List Pg} {i : Nat} {x : Pg}, l[i]? = some x → (l.set i y).countP f + b2n (f x) = l.countP f + b2n (f y)
  | a :: l, 0, x, h => by
    have : a = x := by simpa using h
    subst this
    rw [List.set_cons_zero, List.countP_cons, List.countP_cons]
    unfold b2n
    omega
  | a :: l, i + 1, x, h => by
    have := cnt_set (f := f) (y := y) (l := l) (i := i) (x := x) (by simpa using h)
    rw [List.set_cons_succ, List.countP_cons, List.countP_cons]
    omega
theorem cnt_app {f : Pg → Bool} {y : Pg} (l : List Pg) : (l ++ [y]).countP f = l.countP f + b2n (f y) := by
  rw [List.countP_append, List.countP_cons]; simp [b2n]
/-- what the hot hand makes of a page -/
def cP (p : Pg) : Pg :=
  if p.kind = 1 ∧ p.mark = true then { p with mark := false }
  else if p.kind = 1 then { p with kind := 2 }
  else if p.test = true then { p with test := false }
  else p
theorem clS_pg {s : St} {p : Pg} {l : List Pg} (h : s.pg = p :: l) : (p.kind = 3 ∧ clS s p = falls (leave (setc s (cFo s)) 0) ∧ (clS s p).pg = l) ∨ (p.kind ≠ 3 ∧ (clS s p).pg = l ++ [cP p]) := by
  unfold clS cP
  by_cases h3 : p.kind = 3
  · left
    rw [if_pos h3]
    refine ⟨h3, rfl, ?_⟩
    rw [falls_pg]
    show s.pg.eraseIdx 0 = l
    rw [h]; rfl
  right
  refine ⟨h3, ?_⟩
  rw [if_neg h3]
  split
  · show s.pg.tail ++ _ = _; rw [h]; rfl
  · split
    · show s.pg.tail ++ _ = _; rw [h]; rfl
    · split
      · show (falls (setc s (cEn s))).pg.tail ++ _ = _; rw [falls_pg]; show s.pg.tail ++ _ = _; rw [h]; rfl
      · show s.pg.tail ++ _ = _; rw [h]; rfl
abbrev mkf (p : Pg) : Bool := p.mark
def mks (l : List Pg) : Nat := l.countP mkf
theorem clS_mks {s : St} {p : Pg} {l : List Pg} (h : s.pg = p :: l) : mks (clS s p).pg ≤ mks s.pg := by
  rcases clS_pg h with ⟨_, _, e⟩ | ⟨_, e⟩
  · rw [e, h]; unfold mks; rw [List.countP_cons]; omega
  · rw [e, h]
    unfold mks
    rw [cnt_app, List.countP_cons]
    have : b2n (mkf (cP p)) ≤ (if mkf p = true then 1 else 0) := by
      obtain ⟨k, d, t, m⟩ := p
      unfold b2n mkf cP
      by_cases hd : d = 1
      · subst hd; cases m <;> cases t <;> simp
      · cases m <;> cases t <;> simp [hd]
    omega
theorem cool_mks (s : St) : mks (cool s).pg ≤ mks s.pg :=
  cool_ind (P := fun t => mks t.pg ≤ mks s.pg) (fun t p l h _ _ ht => Nat.le_trans (clS_mks h) ht) s (Nat.le_refl _)
def cClr (s : St) : Ct := { s.ct with cl := up s.ct.cl }
def cClRa (s : St) : Ct := { s.ct with cl := up s.ct.cl, ra := up s.ct.ra }
/-- the cold hand is at a cold page with a Mark -/
def mkS (s : St) (p : Pg) : St :=
  if p.test = false then head (leave (setc s (cClr s)) s.co.toNat) ⟨p.key, p.kind, true, false⟩
  else cool (head (rises (leave (setc s (cClRa s)) s.co.toNat)) ⟨p.key, 1, false, false⟩)
theorem mkS_mks {s : St} {p : Pg} (h : s.pg[s.co.toNat]? = some p) (hm : p.mark = true) : mks (mkS s p).pg < mks s.pg := by
  have h1 := cnt_erase (f := mkf) h
  have h2 : b2n (mkf p) = 1 := by simp [b2n, mkf, hm]
  unfold mkS
  split
  · show mks (s.pg.eraseIdx s.co.toNat ++ [_]) < mks s.pg
    unfold mks
    rw [cnt_app]
    simp only [b2n, mkf] at *
    simp
    omega
  · refine Nat.lt_of_le_of_lt (cool_mks _) ?_
    show mks ((rises (leave (setc s (cClRa s)) s.co.toNat)).pg ++ [_]) < mks s.pg
    rw [rises_pg]
    show mks (s.pg.eraseIdx s.co.toNat ++ [_]) < mks s.pg
    unfold mks
    rw [cnt_app]
    simp only [b2n, mkf] at *
    simp
    omega
abbrev k2 (p : Pg) : Bool := decide (p.kind = 2)
def d2 (s : St) : Nat := (rot s.co.toNat s.pg).findIdx k2
def cStep (s : St) : St := { setc s (cSt s) with co := onw s.co s.pg.length }
def evOut (s : St) (p : Pg) : St := leave (setc s (cEv s)) s.co.toNat
def evGone (s : St) (p : Pg) : St := { setc s (cEv s) with pg := s.pg.set s.co.toNat { p with kind := 3 }, co := onw s.co s.pg.length }
theorem d2_on {s : St} {p : Pg} (h : s.pg[s.co.toNat]? = some p) (hk : p.kind ≠ 2) (h0 : 0 ≤ s.co) (hc : 0 < many s.pg 2) : d2 (cStep s) + 1 = d2 s := by
  have hex : ∃ y ∈ s.pg, k2 y = true := by
    unfold many at hc
    exact List.countP_pos_iff.1 hc
  obtain ⟨ha, _⟩ := List.getElem?_eq_some_iff.1 h
  have := rot_on h (f := k2) (by simp [hk]) hex
  unfold d2
  have e : (cStep s).co.toNat = (s.co.toNat + 1) % s.pg.length := by
    show (onw s.co s.pg.length).toNat = _
    have h1 : s.co = (s.co.toNat : Int) := by omega
    rw [h1, onw_nat ha, Int.toNat_natCast]
  rw [e]
  exact this
/-- a page is reclaimed -/
def rcl (s : St) : St × Int :=
  match h : s.pg[s.co.toNat]? with
  | none => (s, 0)
  | some p =>
    if hk : p.kind ≠ 2 then (if hc : 0 ≤ s.co ∧ 0 < many s.pg 2 then rcl (cStep s) else (s, 0))
    else if hm : p.mark = true then rcl (mkS (setc s (cSt s)) p)
    else if p.test = false then (evOut s p, p.key)
    else (evGone s p, p.key)
  termination_by (mks s.pg, d2 s)
  decreasing_by
  · have := d2_on h hk hc.1 hc.2
    exact Prod.Lex.right _ (by omega)
  · exact Prod.Lex.left _ _ (mkS_mks (s := setc s (cSt s)) h hm)
theorem rcl_idle {s : St} {p : Pg} (h : s.pg[s.co.toNat]? = some p) (hk : p.kind ≠ 2) (hc : 0 ≤ s.co ∧ 0 < many s.pg 2) : rcl s = rcl (cStep s) := by
  rw [rcl]; split
  · rename_i h1; rw [h] at h1; cases h1
  · rename_i p' h1; rw [h] at h1; cases h1; rw [dif_pos hk, dif_pos hc]
theorem rcl_mark {s : St} {p : Pg} (h : s.pg[s.co.toNat]? = some p) (hk : p.kind = 2) (hm : p.mark = true) : rcl s = rcl (mkS (setc s (cSt s)) p) := by
  rw [rcl]; split
  · rename_i h1; rw [h] at h1; cases h1
  · rename_i p' h1; rw [h] at h1; cases h1; rw [dif_neg (fun e => e hk), dif_pos hm]
theorem rcl_out {s : St} {p : Pg} (h : s.pg[s.co.toNat]? = some p) (hk : p.kind = 2) (hm : p.mark = false) (ht : p.test = false) : rcl s = (evOut s p, p.key) := by
  rw [rcl]; split
  · rename_i h1; rw [h] at h1; cases h1
  · rename_i p' h1; rw [h] at h1; cases h1; rw [dif_neg (fun e => e hk), dif_neg (by rw [hm]; decide), if_pos ht]
theorem rcl_gone {s : St} {p : Pg} (h : s.pg[s.co.toNat]? = some p) (hk : p.kind = 2) (hm : p.mark = false) (ht : p.test = true) : rcl s = (evGone s p, p.key) := by
  rw [rcl]; split
  · rename_i h1; rw [h] at h1; cases h1
  · rename_i p' h1; rw [h] at h1; cases h1; rw [dif_neg (fun e => e hk), dif_neg (by rw [hm]; decide), if_neg (by rw [ht]; decide)]
/-- pages are reclaimed, as long as more than so many are kept -/
def spillW (most : Int) (s : St) : St × List Int :=
  if h : (kps s.pg : Int) > most ∧ kps (rcl s).1.pg < kps s.pg then ((spillW most (rcl s).1).1, (rcl s).2 :: (spillW most (rcl s).1).2)
  else (s, [])
  termination_by kps s.pg
  decreasing_by all_goals exact h.2
theorem spillW_done {most : Int} {s : St} (h : ¬ (kps s.pg : Int) > most) : spillW most s = (s, []) := by rw [spillW, dif_neg (fun e => h e.1)]
theorem spillW_step {most : Int} {s : St} (h : (kps s.pg : Int) > most) (h2 : kps (rcl s).1.pg < kps s.pg) : spillW most s = ((spillW most (rcl s).1).1, (rcl s).2 :: (spillW most (rcl s).1).2) := by
  rw [spillW, dif_pos ⟨h, h2⟩]
/-- what the test hand does anything with -/
abbrev tdg (p : Pg) : Bool := decide (p.kind = 3) || (decide (p.kind = 2) && p.test)
def cF3 (s : St) : St := falls (leave (setc s (cFo s)) s.te.toNat)
def cE3 (s : St) (p : Pg) : St := { falls { setc s (cEn s) with pg := s.pg.set s.te.toNat { p with test := false } } with te := onw s.te s.pg.length }
def cS3 (s : St) : St := { setc s (cSt s) with te := onw s.te s.pg.length }
/-- one look of the test hand -/
def exS (s : St) (p : Pg) : St :=
  if p.kind = 3 then cF3 s
  else if p.kind = 2 ∧ p.test = true then cE3 s p
  else cS3 s
def d3 (s : St) : Nat := (rot s.te.toNat s.pg).findIdx tdg
def tws (l : List Pg) : Nat := l.countP tdg
theorem exS_look {s : St} {p : Pg} (h : s.pg[s.te.toNat]? = some p) : (tdg p = true ∧ tws (exS s p).pg + 1 = tws s.pg) ∨ (tdg p = false ∧ exS s p = cS3 s) := by
  unfold exS
  by_cases h3 : p.kind = 3
  · left
    have h1 := cnt_erase (f := tdg) h
    have h2 : b2n (tdg p) = 1 := by simp [b2n, tdg, h3]
    rw [if_pos h3]
    refine ⟨by simp [h3], ?_⟩
    unfold cF3
    rw [falls_pg]
    show tws (s.pg.eraseIdx s.te.toNat) + 1 = _
    unfold tws
    omega
  rw [if_neg h3]
  by_cases h2 : p.kind = 2 ∧ p.test = true
  · left
    have h1 := cnt_set (f := tdg) (y := { p with test := false }) h
    have e1 : b2n (tdg p) = 1 := by simp [b2n, tdg, h2.1, h2.2]
    have e2 : b2n (tdg { p with test := false }) = 0 := by simp [b2n, tdg, h3]
    rw [if_pos h2]
    refine ⟨by simp [h2.1, h2.2], ?_⟩
    unfold cE3
    dsimp only
    rw [falls_pg]
    dsimp only
    unfold tws
    omega
  · right
    rw [if_neg h2]
    refine ⟨?_, rfl⟩
    unfold tdg
    rw [Bool.or_eq_false_iff, decide_eq_false_iff_not]
    refine ⟨h3, ?_⟩
    by_cases hk : p.kind = 2
    · have : p.test = false := by
        cases e : p.test
        · rfl
        · exact absurd ⟨hk, e⟩ h2
      rw [this, Bool.and_false]
    · simp [hk]
theorem d3_on {s : St} {p : Pg} (h : s.pg[s.te.toNat]? = some p) (hk : tdg p = false) (h0 : 0 ≤ s.te) (hc : 0 < many s.pg 3) : d3 (cS3 s) + 1 = d3 s := by
  have hex : ∃ y ∈ s.pg, tdg y = true := by
    unfold many at hc
    obtain ⟨y, hy, hk⟩ := List.countP_pos_iff.1 hc
    exact ⟨y, hy, by unfold tdg; rw [hk]; rfl⟩
  obtain ⟨ha, _⟩ := List.getElem?_eq_some_iff.1 h
  have := rot_on h (f := tdg) hk hex
  unfold d3
  have e : (cS3 s).te.toNat = (s.te.toNat + 1) % s.pg.length := by
    show (onw s.te s.pg.length).toNat = _
    have h1 : s.te = (s.te.toNat : Int) := by omega
    rw [h1, onw_nat ha, Int.toNat_natCast]
  rw [e]
  exact this
/-- the ring expires -/
def expire (s : St) : St :=
  if hg : (many s.pg 3 : Int) > s.cf.g ∧ 0 ≤ s.te ∧ 0 < many s.pg 3 then
    match h : s.pg[s.te.toNat]? with
    | none => s
    | some p => expire (exS s p)
  else s
  termination_by (tws s.pg, d3 s)
  decreasing_by
    rcases exS_look h with ⟨_, h2⟩ | ⟨h1, h2⟩
    · exact Prod.Lex.left _ _ (by omega)
    · rw [h2]
      have := d3_on h h1 hg.2.1 hg.2.2
      exact Prod.Lex.right _ (by omega)
theorem expire_done {s : St} (h : ¬ (many s.pg 3 : Int) > s.cf.g) : expire s = s := by rw [expire, dif_neg (fun e => h e.1)]
theorem expire_step {s : St} {p : Pg} (h : s.pg[s.te.toNat]? = some p) (hg : (many s.pg 3 : Int) > s.cf.g) (h0 : 0 ≤ s.te) (h1 : 0 < many s.pg 3) : expire s = expire (exS s p) := by
  rw [expire, dif_pos ⟨hg, h0, h1⟩]; split
  · rename_i h1; rw [h] at h1; cases h1
  · rename_i p' h1; rw [h] at h1; cases h1; rfl
/-- the acts -/
def hitW (s : St) : St := { s with ct := { s.ct with hi := up s.ct.hi } }
def misW (s : St) : St := { s with ct := { s.ct with mi := up s.ct.mi } }
def raW (s : St) : St := { s with ct := { s.ct with ra := up s.ct.ra } }
def isW (s : St) (k : Int) : Int :=
  match fnd s.pg k with
  | some i => match s.pg[i]? with
    | some p => p.kind
    | none => 0
  | none => 0
def KptW (s : St) (k : Int) : Prop := isW s k = 1 ∨ isW s k = 2
instance (s : St) (k : Int) : Decidable (KptW s k) := by unfold KptW; infer_instance
def touchW (s : St) (k : Int) : St :=
  if KptW s k then
    match fnd s.pg k with
    | some i => match s.pg[i]? with
      | some p => { hitW s with pg := s.pg.set i { p with mark := true } }
      | none => s
    | none => s
  else s
def admA (s : St) (k : Int) : St :=
  match fnd s.pg k with
  | some i => cool (rises (leave (misW s) i))
  | none => misW s
def admB (s : St) (k : Int) : St × List Int := spillW (s.cf.c - 1) (admA s k)
def admC (s : St) (k : Int) : St := expire (admB s k).1
def admitW (s : St) (k : Int) : St :=
  if KptW s k then s
  else match fnd s.pg k with
    | some _ => cool (head (raW (admC s k)) ⟨k, 1, false, false⟩)
    | none => head (admC s k) ⟨k, 2, true, false⟩
def admOutW (s : St) (k : Int) : List Int := if KptW s k then [] else (admB s k).2
def dropW (s : St) (k : Int) : St :=
  match fnd s.pg k with
  | some i => leave s i
  | none => s
def reS (s : St) (c : Cf) : St := { s with cf := c, tg := c.q }
def rszW (s : St) (c : Cf) : St × List Int := spillW c.c (cool (reS s c))
def resizeW (s : St) (c : Cf) : St := expire (rszW s c).1
end Go.Proofs.WheelM
namespace Go.Proofs.WheelM
open Go.Proofs.StackM
set_option linter.unusedVariables false
/-- keys of a ring that came of another one -/
structure Ks (l l' : List Pg) : Prop where
  sub : ∀ q ∈ l', ∃ q' ∈ l, q'.key = q.key
  nd : (l.map Pg.key).Nodup → (l'.map Pg.key).Nodup
theorem Ks.refl (l : List Pg) : Ks l l := ⟨fun q h => ⟨q, h, rfl⟩, fun h => h⟩
theorem Ks.trans {a b c : List Pg} (h1 : Ks a b) (h2 : Ks b c) : Ks a c :=
  ⟨fun q h => by obtain ⟨r, hr, e⟩ := h2.sub q h; obtain ⟨r2, hr2, e2⟩ := h1.sub r hr; exact ⟨r2, hr2, e2.trans e⟩, fun h => h2.nd (h1.nd h)⟩
theorem ks_erase (l : List Pg) (i : Nat) : Ks l (l.eraseIdx i) :=
  ⟨fun q h => ⟨q, List.mem_of_mem_eraseIdx h, rfl⟩, fun h => h.sublist ((List.eraseIdx_sublist l i).map _)⟩
theorem map_set_key {l : List Pg} {i : Nat} {x y : Pg} (h : l[i]? = some x) (e : y.key = x.key) : (l.set i y).map Pg.key = l.map Pg.key := by
  obtain ⟨hi, hx⟩ := List.getElem?_eq_some_iff.1 h
  rw [List.map_set]
  apply List.ext_getElem (by simp)
  intro j h1 h2
  rw [List.getElem_set]
  split
  · rename_i e2; subst e2; rw [List.getElem_map, hx, e]
  · rfl
theorem mem_set {l : List Pg} {i : Nat} {y q : Pg} (h : q ∈ l.set i y) : q ∈ l ∨ q = y := List.mem_or_eq_of_mem_set h
theorem ks_of_map {l l' : List Pg} (h : l'.map Pg.key = l.map Pg.key) : Ks l l' := by
  refine ⟨fun q hq => ?_, fun hn => by rw [h]; exact hn⟩
  have : q.key ∈ l.map Pg.key := by rw [← h]; exact List.mem_map.2 ⟨q, hq, rfl⟩
  obtain ⟨q', hq', e⟩ := List.mem_map.1 this
  exact ⟨q', hq', e⟩
theorem ks_of_perm {l l' : List Pg} (h : (l'.map Pg.key).Perm (l.map Pg.key)) : Ks l l' := by
  refine ⟨fun q hq => ?_, fun hn => h.nodup_iff.2 hn⟩
  have : q.key ∈ l.map Pg.key := h.mem_iff.1 (List.mem_map.2 ⟨q, hq, rfl⟩)
  obtain ⟨q', hq', e⟩ := List.mem_map.1 this
  exact ⟨q', hq', e⟩
theorem ks_set {l : List Pg} {i : Nat} {x y : Pg} (h : l[i]? = some x) (e : y.key = x.key) : Ks l (l.set i y) := ks_of_map (map_set_key h e)
theorem ks_turn {l : List Pg} {x y : Pg} (e : y.key = x.key) : Ks (x :: l) (l ++ [y]) := by
  refine ks_of_perm ?_
  rw [List.map_append, List.map_cons, List.map_cons, List.map_nil, e]
  exact List.perm_append_singleton _ _
theorem erase_perm {l : List Pg} {i : Nat} {x : Pg} (h : l[i]? = some x) : ((l.eraseIdx i).map Pg.key ++ [x.key]).Perm (l.map Pg.key) := by
  obtain ⟨hi, hx⟩ := List.getElem?_eq_some_iff.1 h
  rw [List.eraseIdx_eq_take_drop_succ, List.map_append]
  have e : l.map Pg.key = (l.take i).map Pg.key ++ (x.key :: (l.drop (i + 1)).map Pg.key) := by
    rw [← List.map_cons, ← List.map_append, ← hx, ← List.drop_eq_getElem_cons hi, List.take_append_drop]
  rw [e, List.append_assoc]
  exact List.Perm.append_left _ (List.perm_append_singleton _ _)
theorem ks_rehead {l : List Pg} {i : Nat} {x y : Pg} (h : l[i]? = some x) (e : y.key = x.key) : Ks l (l.eraseIdx i ++ [y]) := by
  refine ks_of_perm ?_
  rw [List.map_append, List.map_cons, List.map_nil, e]
  exact erase_perm h
theorem Ks.app {l l' : List Pg} (h : Ks l l') {y : Pg} (hn : (l.map Pg.key).Nodup) (hy : ∀ q ∈ l, q.key ≠ y.key) : ((l' ++ [y]).map Pg.key).Nodup := by
  rw [List.map_append, List.nodup_append]
  refine ⟨h.nd hn, by simp, fun a ha b hb e => ?_⟩
  obtain ⟨q, hq, e1⟩ := List.mem_map.1 ha
  obtain ⟨q', hq', e2⟩ := h.sub q hq
  simp at hb
  exact hy q' hq' (by rw [e2, e1, e, hb])
/-- a config of Clock that may be; a page as it should be; a hand that is a place -/
def Clk (c : Cf) : Prop := c.p = 2 ∧ (2 ≤ c.c ∧ c.c ≤ 256) ∧ (1 ≤ c.q ∧ c.q < c.c) ∧ (0 ≤ c.g ∧ c.g ≤ 512)
def Pok (p : Pg) : Prop := (p.kind = 1 ∧ p.test = false) ∨ p.kind = 2 ∨ (p.kind = 3 ∧ p.test = true ∧ p.mark = false)
def Hd (a n : Int) : Prop := 0 ≤ a ∧ (a < n ∨ a = 0)
theorem hd_behind {a i n : Int} (h : Hd a n) (hi : 0 ≤ i ∧ i < n) : Hd (behind a i n) (n - 1) := by
  unfold Hd behind at *
  by_cases h1 : a > i
  · rw [if_pos h1]; split <;> omega
  · rw [if_neg h1]; split <;> omega
theorem hd_onw {a n : Int} (h : 0 < n) : Hd (onw a n) n := ⟨Int.emod_nonneg _ (by omega), .inl (Int.emod_lt_of_pos _ h)⟩
theorem hd_bkw {a n : Int} (h : 0 < n) : Hd (bkw a n) n := ⟨Int.emod_nonneg _ (by omega), .inl (Int.emod_lt_of_pos _ h)⟩
theorem hd_more {a n m : Int} (h : Hd a n) (hm : n ≤ m) : Hd a m := ⟨h.1, h.2.elim (fun e => .inl (by omega)) .inr⟩
/-- right but for the bounds -/
structure Ww (s : St) : Prop where
  ck : Clk s.cf
  tg : 1 ≤ s.tg ∧ s.tg ≤ s.cf.c - 1
  nk : (s.pg.map Pg.key).Nodup
  pk : ∀ p ∈ s.pg, Pok p
  qu : s.qu = []
  gh : s.gh = []
  hc : Hd s.co s.pg.length
  ht : Hd s.te s.pg.length
theorem Ww.setc {s : St} (h : Ww s) (c : Ct) : Ww (setc s c) := ⟨h.ck, h.tg, h.nk, h.pk, h.qu, h.gh, h.hc, h.ht⟩
theorem falls_tg {s : St} (h : 1 ≤ s.tg ∧ s.tg ≤ s.cf.c - 1) : 1 ≤ (falls s).tg ∧ (falls s).tg ≤ s.tg := by
  unfold falls; split
  · exact ⟨by show 1 ≤ s.tg - 1; omega, by show s.tg - 1 ≤ s.tg; omega⟩
  · exact ⟨h.1, Int.le_refl _⟩
theorem rises_tg {s : St} (h : 1 ≤ s.tg ∧ s.tg ≤ s.cf.c - 1) : 1 ≤ (rises s).tg ∧ (rises s).tg ≤ s.cf.c - 1 := by
  unfold rises; split
  · exact ⟨by show 1 ≤ s.tg + 1; omega, by show s.tg + 1 ≤ s.cf.c - 1; omega⟩
  · exact h
theorem Ww.falls {s : St} (h : Ww s) : Ww (falls s) := by
  have := falls_tg h.tg
  have h2 := h.tg
  exact ⟨by rw [falls_cf]; exact h.ck, by rw [falls_cf]; omega, by rw [falls_pg]; exact h.nk, by rw [falls_pg]; exact h.pk, by rw [falls_qu]; exact h.qu, by rw [falls_gh]; exact h.gh, by rw [falls_pg, falls_co]; exact h.hc, by rw [falls_pg, falls_te]; exact h.ht⟩
theorem Ww.rises {s : St} (h : Ww s) : Ww (rises s) := by
  have := rises_tg h.tg
  exact ⟨by rw [rises_cf]; exact h.ck, by rw [rises_cf]; exact this, by rw [rises_pg]; exact h.nk, by rw [rises_pg]; exact h.pk, by rw [rises_qu]; exact h.qu, by rw [rises_gh]; exact h.gh, by rw [rises_pg, rises_co]; exact h.hc, by rw [rises_pg, rises_te]; exact h.ht⟩
theorem erase_len {l : List Pg} {i : Nat} (h : i < l.length) : (((l.eraseIdx i).length : Nat) : Int) = (l.length : Int) - 1 := by
  rw [List.length_eraseIdx_of_lt h]; omega
theorem Ww.leave {s : St} (h : Ww s) {i : Nat} (hi : i < s.pg.length) : Ww (leave s i) := by
  refine ⟨h.ck, h.tg, (ks_erase s.pg i).nd h.nk, fun p hp => h.pk p (List.mem_of_mem_eraseIdx hp), h.qu, h.gh, ?_, ?_⟩
  · show Hd (behind s.co i s.pg.length) ((s.pg.eraseIdx i).length : Nat)
    rw [erase_len hi]; exact hd_behind h.hc (by omega)
  · show Hd (behind s.te i s.pg.length) ((s.pg.eraseIdx i).length : Nat)
    rw [erase_len hi]; exact hd_behind h.ht (by omega)
theorem Ww.head {s : St} (h : Ww s) {y : Pg} (hn : ((s.pg ++ [y]).map Pg.key).Nodup) (hy : Pok y) : Ww (head s y) := by
  have hl : (s.pg.length : Int) ≤ ((s.pg ++ [y]).length : Nat) := by rw [List.length_append]; omega
  refine ⟨h.ck, h.tg, hn, fun p hp => ?_, h.qu, h.gh, hd_more h.hc hl, hd_more h.ht hl⟩
  rcases List.mem_append.1 hp with hp | hp
  · exact h.pk p hp
  · have : p = y := by simpa using hp
    rw [this]; exact hy
theorem Ww.turnp {s : St} (h : Ww s) {p y : Pg} {l : List Pg} (e : s.pg = p :: l) (hk : y.key = p.key) (hy : Pok y) : Ww (turnp s y) := by
  have hn : (0 : Int) < s.pg.length := by rw [e]; simp
  have hl : (WheelM.turnp s y).pg = l ++ [y] := by show s.pg.tail ++ [y] = _; rw [e]; rfl
  have hl2 : ((WheelM.turnp s y).pg.length : Int) = s.pg.length := by rw [hl, e]; simp
  refine ⟨h.ck, h.tg, ?_, fun q hq => ?_, h.qu, h.gh, ?_, ?_⟩
  · rw [hl]; exact (ks_turn hk).nd (by rw [← e]; exact h.nk)
  · rw [hl] at hq
    rcases List.mem_append.1 hq with hq | hq
    · exact h.pk q (by rw [e]; exact List.mem_cons_of_mem _ hq)
    · have : q = y := by simpa using hq
      rw [this]; exact hy
  · rw [hl2]; exact hd_bkw hn
  · rw [hl2]; exact hd_bkw hn
theorem Ww.setp {s : St} (h : Ww s) {i : Nat} {x y : Pg} (hx : s.pg[i]? = some x) (hk : y.key = x.key) (hy : Pok y) : Ww { s with pg := s.pg.set i y } := by
  have hl : ((s.pg.set i y).length : Int) = s.pg.length := by rw [List.length_set]
  refine ⟨h.ck, h.tg, (ks_set hx hk).nd h.nk, fun q hq => ?_, h.qu, h.gh, ?_, ?_⟩
  · rcases mem_set hq with hq | rfl
    · exact h.pk q hq
    · exact hy
  · show Hd s.co ((s.pg.set i y).length : Nat); rw [hl]; exact h.hc
  · show Hd s.te ((s.pg.set i y).length : Nat); rw [hl]; exact h.ht
theorem Ww.co {s : St} (h : Ww s) {a : Int} (ha : Hd a s.pg.length) : Ww { s with co := a } := ⟨h.ck, h.tg, h.nk, h.pk, h.qu, h.gh, ha, h.ht⟩
theorem Ww.te {s : St} (h : Ww s) {a : Int} (ha : Hd a s.pg.length) : Ww { s with te := a } := ⟨h.ck, h.tg, h.nk, h.pk, h.qu, h.gh, h.hc, ha⟩
theorem Ww.clS {s : St} (h : Ww s) {p : Pg} {l : List Pg} (e : s.pg = p :: l) : Ww (clS s p) := by
  have hp := h.pk p (by rw [e]; simp)
  unfold WheelM.clS
  by_cases h3 : p.kind = 3
  · rw [if_pos h3]
    exact ((h.setc _).leave (by show 0 < s.pg.length; rw [e]; simp)).falls
  rw [if_neg h3]
  split
  · rename_i h1
    exact (h.setc _).turnp e rfl (.inl ⟨h1.1, by rcases hp with hp | hp | hp; exact hp.2; exact absurd (h1.1.symm.trans hp) (by decide); exact absurd hp.1 h3⟩)
  · split
    · exact (h.setc _).turnp e rfl (.inr (.inl rfl))
    · rename_i h1
      have h2 : p.kind = 2 := by rcases hp with hp | hp | hp; exact absurd hp.1 h1; exact hp; exact absurd hp.1 h3
      split
      · exact (h.setc _).falls.turnp (p := p) (l := l) (by rw [falls_pg]; exact e) rfl (.inr (.inl h2))
      · exact (h.setc _).turnp e rfl hp
/-- numbers of a ring -/
abbrev tcf (p : Pg) : Bool := decide (p.kind = 2) && p.test
def tcs (l : List Pg) : Nat := l.countP tcf
abbrev kf (d : Int) (p : Pg) : Bool := decide (p.kind = d)
structure Num where
  h : Nat
  c : Nat
  g : Nat
  m : Nat
  t : Nat
  n : Nat
def num (l : List Pg) : Num := ⟨many l 1, many l 2, many l 3, mks l, tcs l, l.length⟩
/-- the numbers of one page -/
def one (p : Pg) : Num := ⟨b2n (kf 1 p), b2n (kf 2 p), b2n (kf 3 p), b2n (mkf p), b2n (tcf p), 1⟩
/-- x and y make z -/
structure Sum (x y z : Num) : Prop where
  h : x.h + y.h = z.h
  c : x.c + y.c = z.c
  g : x.g + y.g = z.g
  m : x.m + y.m = z.m
  t : x.t + y.t = z.t
  n : x.n + y.n = z.n
theorem num_app (l : List Pg) (y : Pg) : Sum (num l) (one y) (num (l ++ [y])) := by
  refine ⟨(cnt_app l).symm, (cnt_app l).symm, (cnt_app l).symm, (cnt_app l).symm, (cnt_app l).symm, ?_⟩
  show l.length + 1 = (l ++ [y]).length
  simp
theorem num_cons (l : List Pg) (y : Pg) : Sum (num l) (one y) (num (y :: l)) := by
  refine ⟨?_, ?_, ?_, ?_, ?_, rfl⟩ <;> (unfold num one; dsimp only; first | unfold many | unfold mks | unfold tcs) <;> rw [List.countP_cons] <;> rfl
theorem num_erase {l : List Pg} {i : Nat} {x : Pg} (h : l[i]? = some x) : Sum (num (l.eraseIdx i)) (one x) (num l) := by
  obtain ⟨hi, _⟩ := List.getElem?_eq_some_iff.1 h
  refine ⟨cnt_erase h, cnt_erase h, cnt_erase h, cnt_erase h, cnt_erase h, ?_⟩
  show (l.eraseIdx i).length + 1 = l.length
  rw [List.length_eraseIdx_of_lt hi]; omega
theorem num_set {l : List Pg} {i : Nat} {x y : Pg} (h : l[i]? = some x) : ∃ z, Sum (num (l.set i y)) (one x) z ∧ Sum (num l) (one y) z := by
  refine ⟨⟨_, _, _, _, _, _⟩, ⟨rfl, rfl, rfl, rfl, rfl, rfl⟩, ⟨(cnt_set h).symm, (cnt_set h).symm, (cnt_set h).symm, (cnt_set h).symm, (cnt_set h).symm, ?_⟩⟩
  show l.length + 1 = (l.set i y).length + 1
  rw [List.length_set]
theorem one_hot {p : Pg} (h : p.kind = 1) : one p = ⟨1, 0, 0, b2n p.mark, 0, 1⟩ := by unfold one b2n kf tcf; rw [h]; simp
theorem one_cold {p : Pg} (h : p.kind = 2) : one p = ⟨0, 1, 0, b2n p.mark, b2n p.test, 1⟩ := by unfold one b2n kf tcf; rw [h]; simp
theorem one_gone {p : Pg} (h : p.kind = 3) : one p = ⟨0, 0, 1, b2n p.mark, 0, 1⟩ := by unfold one b2n kf tcf; rw [h]; simp
theorem num_eq {x : Num} {a b c d e f : Nat} (h1 : x.h = a) (h2 : x.c = b) (h3 : x.g = c) (h4 : x.m = d) (h5 : x.t = e) (h6 : x.n = f) : x = ⟨a, b, c, d, e, f⟩ := by
  cases x; subst h1 h2 h3 h4 h5 h6; rfl
/-- a page turned and changed -/
theorem num_turn {p y : Pg} {l : List Pg} : ∃ z, Sum (num (l ++ [y])) (one p) z ∧ Sum (num (p :: l)) (one y) z := by
  have h1 := num_app l y
  have h2 := num_cons l p
  refine ⟨⟨_, _, _, _, _, _⟩, ⟨rfl, rfl, rfl, rfl, rfl, rfl⟩, ?_⟩
  obtain ⟨a1, a2, a3, a4, a5, a6⟩ := h1
  obtain ⟨b1, b2, b3, b4, b5, b6⟩ := h2
  exact ⟨by dsimp only; omega, by dsimp only; omega, by dsimp only; omega, by dsimp only; omega, by dsimp only; omega, by dsimp only; omega⟩
theorem b2n_le (b : Bool) : b2n b ≤ 1 := by unfold b2n; split <;> omega
/-- one look of the hot hand: five ways -/
theorem clS_num {s : St} (hw : Ww s) {p : Pg} {l : List Pg} (e : s.pg = p :: l) :
    (dg p = true ∧ (clS s p).ct = cFo s ∧ num (clS s p).pg = { num s.pg with g := (num s.pg).g - 1, n := (num s.pg).n - 1 } ∧ 0 < (num s.pg).g ∧ 0 < (num s.pg).n) ∨
    (dg p = true ∧ (clS s p).ct = cCl s ∧ num (clS s p).pg = { num s.pg with m := (num s.pg).m - 1 } ∧ 0 < (num s.pg).m) ∨
    (dg p = true ∧ (clS s p).ct = cLo s ∧ num (clS s p).pg = { num s.pg with h := (num s.pg).h - 1, c := (num s.pg).c + 1 } ∧ 0 < (num s.pg).h) ∨
    (dg p = true ∧ (clS s p).ct = cEn s ∧ num (clS s p).pg = { num s.pg with t := (num s.pg).t - 1 } ∧ 0 < (num s.pg).t) ∨
    (dg p = false ∧ (clS s p).ct = cSt s ∧ num (clS s p).pg = num s.pg ∧ clS s p = turnp (setc s (cSt s)) p) := by
  have hp := hw.pk p (by rw [e]; simp)
  by_cases h3 : p.kind = 3
  · left
    have hc := num_cons l p
    have hm : p.mark = false := by rcases hp with hp | hp | hp; exact absurd (h3.symm.trans hp.1) (by decide); exact absurd (h3.symm.trans hp) (by decide); exact hp.2.2
    rw [← e, one_gone h3, hm] at hc
    have hpg : (clS s p).pg = l := by
      rcases clS_pg e with ⟨_, _, h⟩ | ⟨h, _⟩
      · exact h
      · exact absurd h3 h
    have hct : (clS s p).ct = cFo s := by unfold clS; rw [if_pos h3, falls_ct]; rfl
    rw [hpg]
    obtain ⟨a1, a2, a3, a4, a5, a6⟩ := hc
    dsimp only [b2n] at *
    simp at a4
    exact ⟨by simp [dg, wt, h3], hct, num_eq (by omega) (by omega) (by omega) (by omega) (by omega) (by omega), by omega, by omega⟩
  have hpg : (clS s p).pg = l ++ [cP p] := by
    rcases clS_pg e with ⟨h, _⟩ | ⟨_, h⟩
    · exact absurd h h3
    · exact h
  obtain ⟨z, z1, z2⟩ := num_turn (p := p) (y := cP p) (l := l)
  rw [← hpg] at z1
  rw [← e] at z2
  by_cases h1 : p.kind = 1
  · have hpt : p.test = false := by rcases hp with hp | hp | hp; exact hp.2; exact absurd (h1.symm.trans hp) (by decide); exact absurd (h1.symm.trans hp.1) (by decide)
    have hd : dg p = true := by simp [dg, wt, h1]; omega
    by_cases hm : p.mark = true
    · right; left
      have e1 : cP p = { p with mark := false } := by unfold cP; rw [if_pos ⟨h1, hm⟩]
      have hct : (clS s p).ct = cCl s := by unfold clS; rw [if_neg h3, if_pos ⟨h1, hm⟩]; rfl
      rw [one_hot h1, hm] at z1
      rw [e1, one_hot (p := { p with mark := false }) h1] at z2
      obtain ⟨a1, a2, a3, a4, a5, a6⟩ := z1
      obtain ⟨b1, b2, b3, b4, b5, b6⟩ := z2
      dsimp only [b2n] at *
      simp at a4 b4
      exact ⟨hd, hct, num_eq (by omega) (by omega) (by omega) (by omega) (by omega) (by omega), by omega⟩
    · right; right; left
      have hm' : p.mark = false := by simpa using hm
      have e1 : cP p = { p with kind := 2 } := by unfold cP; rw [if_neg (fun e => hm e.2), if_pos h1]
      have hct : (clS s p).ct = cLo s := by unfold clS; rw [if_neg h3, if_neg (fun e => hm e.2), if_pos h1]; rfl
      rw [one_hot h1, hm'] at z1
      rw [e1, one_cold (p := { p with kind := 2 }) rfl, hm', hpt] at z2
      obtain ⟨a1, a2, a3, a4, a5, a6⟩ := z1
      obtain ⟨b1, b2, b3, b4, b5, b6⟩ := z2
      dsimp only [b2n] at *
      simp at a4 b4 b5
      exact ⟨hd, hct, num_eq (by omega) (by omega) (by omega) (by omega) (by omega) (by omega), by omega⟩
  · have h2 : p.kind = 2 := by rcases hp with hp | hp | hp; exact absurd hp.1 h1; exact hp; exact absurd hp.1 h3
    right; right; right
    by_cases ht : p.test = true
    · left
      have e1 : cP p = { p with test := false } := by unfold cP; rw [if_neg (fun e => h1 e.1), if_neg h1, if_pos ht]
      have hct : (clS s p).ct = cEn s := by unfold clS; rw [if_neg h3, if_neg (fun e => h1 e.1), if_neg h1, if_pos ht]; show (falls (setc s (cEn s))).ct = _; rw [falls_ct]; rfl
      rw [one_cold h2, ht] at z1
      rw [e1, one_cold (p := { p with test := false }) h2] at z2
      obtain ⟨a1, a2, a3, a4, a5, a6⟩ := z1
      obtain ⟨b1, b2, b3, b4, b5, b6⟩ := z2
      dsimp only [b2n] at *
      simp at a5 b5
      exact ⟨by simp [dg, wt, h1, h3, ht], hct, num_eq (by omega) (by omega) (by omega) (by omega) (by omega) (by omega), by omega⟩
    · right
      have e1 : cP p = p := by unfold cP; rw [if_neg (fun e => h1 e.1), if_neg h1, if_neg ht]
      have hcl : clS s p = turnp (setc s (cSt s)) p := by unfold clS; rw [if_neg h3, if_neg (fun e => h1 e.1), if_neg h1, if_neg ht]
      rw [e1] at z2
      obtain ⟨a1, a2, a3, a4, a5, a6⟩ := z1
      obtain ⟨b1, b2, b3, b4, b5, b6⟩ := z2
      exact ⟨by simp [dg, wt, h1, h3, ht], by rw [hcl]; rfl, (num_eq (a := (num s.pg).h) (b := (num s.pg).c) (c := (num s.pg).g) (d := (num s.pg).m) (e := (num s.pg).t) (f := (num s.pg).n) (by omega) (by omega) (by omega) (by omega) (by omega) (by omega)), hcl⟩
/-- more pages are hot than there is room for -/
def Gc (s : St) : Prop := (many s.pg 1 : Int) > s.cf.c - s.tg
theorem Ww.hot {s : St} (h : Ww s) (hg : Gc s) : 0 < many s.pg 1 := by have := h.tg; unfold Gc at hg; omega
theorem coolW {P : St → Prop} (step : ∀ s p l, Ww s → s.pg = p :: l → Gc s → P s → P (clS s p)) (s : St) (hw : Ww s) (h : P s) : P (cool s) ∧ Ww (cool s) ∧ ¬ Gc (cool s) := by
  induction s using cool.induct with
  | case1 s hg h1 => exfalso; rw [h1] at hg; simp [many] at hg
  | case2 s hg p l h1 ih => rw [cool_step h1 hg.1 hg.2]; exact ih (hw.clS h1) (step s p l hw h1 hg.1 h)
  | case3 s hg =>
    rw [cool, dif_neg hg]
    exact ⟨h, hw, fun h2 => hg ⟨h2, hw.hot h2⟩⟩
theorem clS_cf {s : St} {p : Pg} : (clS s p).cf = s.cf := by
  unfold clS; split
  · rw [falls_cf]; rfl
  · split
    · rfl
    · split
      · rfl
      · split
        · show (falls (setc s (cEn s))).cf = _; rw [falls_cf]; rfl
        · rfl
theorem clS_ks {s : St} {p : Pg} {l : List Pg} (e : s.pg = p :: l) : Ks s.pg (clS s p).pg := by
  rcases clS_pg e with ⟨_, _, h⟩ | ⟨_, h⟩
  · rw [h, e]; exact ks_erase (p :: l) 0
  · rw [h, e]
    refine ks_turn ?_
    unfold cP; split
    · rfl
    · split
      · rfl
      · split <;> rfl
/-- what cooling leaves: the kept pages as many, the gone ones at most, no new key -/
structure Le (s t : St) : Prop where
  cf : t.cf = s.cf
  k : kps t.pg = kps s.pg
  g : many t.pg 3 ≤ many s.pg 3
  n : t.pg.length ≤ s.pg.length
  ks : Ks s.pg t.pg
theorem Le.refl (s : St) : Le s s := ⟨rfl, rfl, Nat.le_refl _, Nat.le_refl _, Ks.refl _⟩
theorem clS_le {s : St} (hw : Ww s) {p : Pg} {l : List Pg} (e : s.pg = p :: l) : kps (clS s p).pg = kps s.pg ∧ many (clS s p).pg 3 ≤ many s.pg 3 ∧ (clS s p).pg.length ≤ s.pg.length := by
  have hk : ∀ x : List Pg, kps x = (num x).h + (num x).c := fun _ => rfl
  have hg : ∀ x : List Pg, many x 3 = (num x).g := fun _ => rfl
  have hl : ∀ x : List Pg, x.length = (num x).n := fun _ => rfl
  rw [hk, hk, hg, hg, hl, hl]
  rcases clS_num hw e with ⟨_, _, h, h1, h2⟩ | ⟨_, _, h, h1⟩ | ⟨_, _, h, h1⟩ | ⟨_, _, h, h1⟩ | ⟨_, _, h, _⟩ <;> rw [h] <;> refine ⟨?_, ?_, ?_⟩ <;> (try dsimp only) <;> omega
theorem cool_le {s : St} (hw : Ww s) : Le s (cool s) :=
  (coolW (P := fun t => Le s t) (fun t p l hw e _ h => by
    obtain ⟨a, b, c⟩ := clS_le hw e
    exact ⟨clS_cf.trans h.cf, a.trans h.k, Nat.le_trans b h.g, Nat.le_trans c h.n, h.ks.trans (clS_ks e)⟩) s hw (Le.refl s)).1
theorem cool_ww {s : St} (hw : Ww s) : Ww (cool s) := (coolW (P := fun _ => True) (fun _ _ _ _ _ _ _ => trivial) s hw trivial).2.1
theorem cool_rm {s : St} (hw : Ww s) : ¬ Gc (cool s) := (coolW (P := fun _ => True) (fun _ _ _ _ _ _ _ => trivial) s hw trivial).2.2
end Go.Proofs.WheelM
