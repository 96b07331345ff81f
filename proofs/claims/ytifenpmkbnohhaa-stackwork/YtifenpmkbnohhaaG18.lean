/-
  What the program tells: Kept, New, Admit.
  What the program tells: Resize.
-/
import Derived.Test.YtifenpmkbnohhaaG17
namespace Go.Proofs.Ytifenpmkbnohhaa
open Go.RowKit
open Go.Proofs.StackM
set_option linter.unusedVariables false
section
variable {lo B c : Nat} {w w1 w2 : World} {s s0 : St} {r r0 : R3} {A : Option Addr} {ev : List Int}
theorem get_laws : (∀ (l : List Oper) (i : Nat), l.toArray[i]? = l[i]?) ∧ (∀ (x : Oper) (l : List Oper), (x :: l)[0]? = some x) ∧ (∀ (x : Oper) (l : List Oper) (i : Nat), (x :: l)[i + 1]? = l[i]?) := ⟨fun _ _ => by simp, fun _ _ => rfl, fun _ _ _ => rfl⟩
theorem execW {o : Oper} {a : Act} {w : World} {B n c : Nat} {s : St} {r : R3} {A : Option Addr} (x : Operand) (ho : o.op = .load 31 x) (hx : a.eval x = .pointer (some ⟨B, 0, none⟩)) (h : w.heap[B]? = some (.cells (spA s r A n c) 68 (0, 0))) : (execOp a.eval o).run Try.prog w = .ok (.value (sV s r)) w := by
  have hr : w.rangeAt B 0 (sA s r).toList := fun j v hv => by
    rw [cell_of_row (w := w) B (0 + j) _ 68 (0, 0) h, Nat.zero_add, spA]
    have hj : j < (sA s r).size := by
      have := (List.getElem?_eq_some_iff.1 hv).1
      simpa using this
    rw [Array.getElem?_push_lt hj]
    have hv' : (sA s r)[j]? = some v := by simpa using hv
    rw [← hv', Array.getElem?_eq_getElem hj]
  have := run_loadAt_mid (P := Try.prog) w B 0 31 (sA s r).toList _ hr Try.underlying31 rfl (by rw [info31]; rfl)
  simp only [Array.toArray_toList] at this
  simp [execOp, ho, hx, this]
theorem row68 {w : World} {B n c : Nat} {s : St} {r : R3} {A : Option Addr} (h : w.heap[B]? = some (.cells (spA s r A n c) 68 (0, 0))) : w.cell? ⟨B, 20, none⟩ = some (.slice A n c) := by
  rw [cell_of_head h]; rfl
theorem TF.ret3 (x : TF w lo w1) (h : WK lo w1 B s r A c ev) (r0 : R3) (b : Bool) : S3Post w r0 s ev b (.returned (.tuple #[sV s r, .slice A ev.length c, .bool b])) (w1.setRow (w.heap.size + 1) (sA s r)) :=
  ⟨r, A, _, c, rfl, rfl, sr_row3 h.sr h.up (by have := x.lo; omega) _, ⟨vrow_row h.erow (fun a e => by have := (h.rows.ev.lt a.block (by rw [e]; rfl)).1; have := x.lo; omega), fun a e => by rw [size_setRow]; exact (h.rows.ev.lt a.block (by rw [e]; rfl)).2, owns_cap h.rows.ev⟩, fun a e => by have := (h.rows.ev.lt a.block (by rw [e]; rfl)).1; have := x.lo; omega, h.frm _ (by have := x.lo; omega) r0, below_setRow x.bel (Nat.le_succ _)⟩
theorem ur_nil (w : World) : UR w none 0 [] := ⟨.inl ⟨rfl, rfl, rfl⟩, fun a e => (by cases e), Nat.le_refl _⟩
theorem TF.ret3n (x : TF w lo w1) (h : WK lo w1 B s r A c ev) (r0 : R3) (b : Bool) : S3Post w r0 s [] b (.returned (.tuple #[sV s r, .slice none 0 0, .bool b])) (w1.setRow (w.heap.size + 1) (sA s r)) :=
  ⟨r, none, 0, 0, rfl, rfl, sr_row3 h.sr h.up (by have := x.lo; omega) _, ur_nil _, fun a e => (by cases e), h.frm _ (by have := x.lo; omega) r0, below_setRow x.bel (Nat.le_succ _)⟩
end
theorem pkind_three {s : St} {k : Int} : pkind s.pg k = 3 ↔ kOf s k = 3 := by
  unfold pkind kOf
  cases s.pg.find? (fun p => decide (p.key = k)) with
  | some p => exact Iff.rfl
  | none =>
    dsimp only
    constructor
    · intro h; cases h
    · intro h; split at h <;> cases h
/-- a key that was spilled and trimmed away from is nowhere -/
theorem adm_free {s : St} (h : Rg s) {k : Int} (hk : ¬ Kpt s k) : StackM.Wk (gone (mis s) k) ∧ Bt (gone (mis s) k) ∧ StackM.Wk (adm s k).1 ∧ Bt (adm s k).1 ∧ StackM.Wk (trim (adm s k).1) ∧ Bt (trim (adm s k).1) ∧ (∀ p ∈ (trim (adm s k).1).pg, p.key ≠ k) ∧ k ∉ (trim (adm s k).1).gh ∧ (adm s k).1.cf = s.cf ∧ (trim (adm s k).1).cf = s.cf := by
  have hnh : ∀ p ∈ s.pg, p.key = k → p.kind ≠ 1 := fun p hp e hp1 => hk (.inl (by rw [kOf_page h.wk hp e]; exact hp1))
  have hg0 : StackM.Wk (gone (mis s) k) := (h.wk.ct (mis s).ct).gone k
  have hb0 : Bt (gone (mis s) k) := bt_wo (s := s) (k := k) h.bt rfl hnh
  obtain ⟨hw1, hb1⟩ := hg0.spill hb0 (s.cf.c - 1)
  obtain ⟨hw2, hb2⟩ := hw1.trim hb1
  have c1 : (adm s k).1.cf = s.cf := spill_cf
  have c2 : (trim (adm s k).1).cf = s.cf := (trim_cf _).trans c1
  have hno : ∀ p ∈ (trim (adm s k).1).pg, p.key ≠ k := by
    have s0 : ∀ p ∈ (gone (mis s) k).pg, p.key ≠ k := (gone_key (mis s) k).1
    have q0 : k ∉ (gone (mis s) k).qu := (gone_key (mis s) k).2.1
    have s1 : (∀ p ∈ (adm s k).1.pg, p.key ≠ k) ∧ k ∉ (adm s k).1.qu := spill_ind (P := fun t => (∀ p ∈ t.pg, p.key ≠ k) ∧ k ∉ t.qu) (fun t x r _ hq ht => by
      have hxk : x ≠ k := fun e => ht.2 (by rw [hq, e]; simp)
      unfold spS
      split
      · refine ⟨fun p hp => ?_, fun m => ht.2 (ls_mem.1 m).1⟩
        rcases List.mem_or_eq_of_mem_set hp with hp | rfl
        · exact ht.1 p hp
        · exact hxk
      · exact ⟨ht.1, fun m => ht.2 (ls_mem.1 m).1⟩) _ ⟨s0, q0⟩
    exact trim_ind (P := fun t => ∀ p ∈ t.pg, p.key ≠ k) (fun t x r _ _ ht p hp => ht p (wo_mem.1 hp).1) _ s1.1
  exact ⟨hg0, hb0, hw1, hb1, hw2, hb2, hno, fun hm => by obtain ⟨p, hp, e⟩ := hw2.gg k hm; exact hno p hp e, c1, c2⟩
theorem adm_len {s : St} (h : Rg s) (k : Int) : ((adm s k).1.pg.length ≤ 768 ∧ (adm s k).1.qu.length + (adm s k).1.gh.length ≤ 1536) ∧ ((trim (adm s k).1).pg.length ≤ 2304 ∧ (trim (adm s k).1).qu.length ≤ 2304 ∧ (trim (adm s k).1).gh.length ≤ 2304) := by
  have hl := rg_lim h
  have h1 := wo_len s.pg k
  have h2 := ls_le s.qu k
  have h3 := ls_le s.gh k
  have h0 : Lq 768 1536 (gone (mis s) k) := ⟨by have := hl.1; show (wo s.pg k).length ≤ _; omega, by have := hl.2.1; have := hl.2.2; show (ls s.qu k).length + (ls s.gh k).length ≤ _; omega⟩
  have h4 : Lq 768 1536 (adm s k).1 := spill_lq h0
  exact ⟨h4, trim_lim h4.lim⟩
set_option maxHeartbeats 2000000 in
set_option maxRecDepth 100000 in
theorem pkept_at (s : St) (r : R3) (k : Int) (h : Rg s) (hl : Lim s 10000) (hk : Kw s) (w : World) (hr : SR w s r) : Calls Try.prog 17 #[sV s r, .int .u64 k] w fun e w' => e = .returned (.bool (decide (Kpt s k))) ∧ Below w.heap.size w w' := by
  have x := Fr.start1 hr
  obtain ⟨w1, hw1⟩ : ∃ w1, w1 = w.alloc (.cells (sA s r) 31) := ⟨_, rfl⟩
  rw [← hw1] at x
  have HW := Lib.hid hw1
  have HX := Lib.hid x
  have HL := Lib.hid (And.intro h (And.intro hl hk))
  have HPK := Lib.hid (pk_kpt h.wk k)
  clear hw1 x hr h hl hk
  go_enter Try.func17, Try.ntmps17
  go_wp2_with (first | fail | (rw [← HW.out]; refine ld31 rfl (.tmp 2) rfl _ rfl _ HX.out.box ?_))
  refine (right_yes s r HL.out.1 (HL.out.2.1.up (by omega)) HL.out.2.2 w1 HX.out.rows).mono ?_
  rintro e w2 ⟨rfl, hb2⟩
  have H2 := Lib.hid (HX.out.keep hb2)
  clear hb2 HX HW
  go_wp2_with (first | fail | refine ld31g rfl (.tmp 2) rfl _ rfl _ H2.out.box ?_)
  refine (keeps_at s r k (HL.out.2.1.up (by omega)) w2 H2.out.rows).mono ?_
  rintro e w3 ⟨rfl, hb3⟩
  rw [HPK.out]
  have H3 := Lib.hid (H2.out.keep hb3)
  clear hb3 H2
  go_wp2_with fail
  go_ret
  exact ⟨rfl, H3.out.bel⟩
set_option maxHeartbeats 2000000 in
set_option maxRecDepth 100000 in
theorem pnew_at (c : Cf) (w : World) : Calls Try.prog 19 #[cV c] w fun e w' => (∃ r', e = .returned (.tuple #[sV (if Cl c then newS c else S0) r', .int .i64 (if Cl c then 0 else 2)]) ∧ SR w' (if Cl c then newS c else S0) r' ∧ Frm w.heap.size R0 r') ∧ Below w.heap.size w w' := by
  have hb1 := alloc_below w (.cells (cA c) 24)
  have hb2 := alloc_below (w.alloc (.cells (cA c) 24)) (.cells (sA S0 R0) 31)
  obtain ⟨w1, hw1⟩ : ∃ w1, w1 = (w.alloc (.cells (cA c) 24)).alloc (.cells (sA S0 R0) 31) := ⟨_, rfl⟩
  have hc : w1.heap[w.heap.size]? = some (.cells (cA c) 24 (0, 0)) := by
    rw [hw1, hb2.block _ (by simp)]
    exact heap_alloc_new _ _
  have hx : Box w1 (w.heap.size + 1) (sA S0 R0) := by
    have := box_alloc (w.alloc (.cells (cA c) 24)) (sA S0 R0) rfl
    rw [hw1]; simpa using this
  have hb : Below w.heap.size w w1 := by rw [hw1]; exact hb1.trans (hb2.mono hb1.size)
  have hA : (w.alloc (.cells #[.int .i64 c.p, .int .i64 c.c, .int .i64 c.q, .int .i64 c.g] 24)).alloc (.cells #[.int .i64 0, .int .i64 0, .int .i64 0, .int .i64 0, .int .i64 0, .slice none 0 0, .slice none 0 0, .slice none 0 0, .int .i64 0, .int .i64 0, .int .u64 0, .int .u64 0, .int .u64 0, .int .u64 0, .int .u64 0, .int .u64 0, .int .u64 0, .int .u64 0, .int .u64 0, .int .u64 0] 31) = w1 := hw1.symm
  have HA := Lib.hid hA
  have HC := Lib.hid hc
  have HX := Lib.hid (And.intro hx hb)
  clear hw1 hb1 hb2 hc hx hb hA
  by_cases hcl : Cl c
  · simp only [if_pos hcl]
    have HCL := Lib.hid (decide_eq_true hcl)
    clear hcl
    go_enter Try.func19, Try.ntmps19
    go_wp2_with (first | fail | (rw [HA.out]; refine wpList_load_row rfl 24 (.tmp 1) rfl w.heap.size rfl 24 (cA c) (0, 0) _ HC.out Try.underlying24 rfl info24 ?_))
    refine Calls.mono (lirs_at c.p c.c c.q c.g w1) ?_
    rintro e w2 ⟨rfl, hb2⟩
    rw [show decide (Cl ⟨c.p, c.c, c.q, c.g⟩) = true from HCL.out]
    have H2 : Hid (Box w2 (w.heap.size + 1) (sA S0 R0) ∧ Below w.heap.size w w2 ∧ w2.heap[w.heap.size]? = some (.cells (cA c) 24 (0, 0))) := Lib.hid ⟨HX.out.1.kept hb2 HX.out.1.lt, HX.out.2.trans (hb2.mono HX.out.2.size), (hb2.block _ (Array.getElem?_eq_some_iff.1 HC.out).1).trans HC.out⟩
    clear hb2 HX HA HC
    go_wp2_with (first | fail | refine wpList_load_row rfl 24 (.tmp 1) rfl w.heap.size rfl 24 (cA c) (0, 0) _ H2.out.2.2 Try.underlying24 rfl info24 ?_ | refine bld31 rfl (.tmp 8) rfl c rfl ?_ | refine st31 rfl (.tmp 2) (.tmp 9) rfl _ (newS c) R0 rfl rfl _ H2.out.1 ?_)
    refine bodyPost_ret (results_s2 rfl _ _ _ _ rfl (H2.out.1.rowSet (sA_len _ _))) rfl ?_
    exact ⟨⟨R0, rfl, ⟨⟨.inl ⟨rfl, rfl, rfl⟩, fun a e => (by cases e), Nat.le_refl _⟩, ⟨.inl ⟨rfl, rfl, rfl⟩, fun a e => (by cases e), Nat.le_refl _⟩, ⟨.inl ⟨rfl, rfl, rfl⟩, fun a e => (by cases e), Nat.le_refl _⟩⟩, Frm.refl _ _⟩, below_setRow H2.out.2.1 (Nat.le_succ _)⟩
  · simp only [if_neg hcl]
    have HCL := Lib.hid (decide_eq_false hcl)
    clear hcl
    go_enter Try.func19, Try.ntmps19
    go_wp2_with (first | fail | (rw [HA.out]; refine wpList_load_row rfl 24 (.tmp 1) rfl w.heap.size rfl 24 (cA c) (0, 0) _ HC.out Try.underlying24 rfl info24 ?_))
    refine Calls.mono (lirs_at c.p c.c c.q c.g w1) ?_
    rintro e w2 ⟨rfl, hb2⟩
    rw [show decide (Cl ⟨c.p, c.c, c.q, c.g⟩) = false from HCL.out]
    have H2 : Hid (Box w2 (w.heap.size + 1) (sA S0 R0) ∧ Below w.heap.size w w2) := Lib.hid ⟨HX.out.1.kept hb2 HX.out.1.lt, HX.out.2.trans (hb2.mono HX.out.2.size)⟩
    clear hb2 HX HA HC
    go_wp2_with (first | fail | refine bld31zL rfl rfl ?_ | refine st31 rfl (.tmp 2) (.tmp 7) rfl _ S0 R0 rfl rfl _ H2.out.1 ?_)
    refine bodyPost_ret (results_s2 rfl _ _ _ _ rfl (H2.out.1.rowSet (sA_len _ _))) rfl ?_
    exact ⟨⟨R0, rfl, sr_zero _, Frm.refl _ _⟩, below_setRow H2.out.2 (Nat.le_succ _)⟩
set_option maxHeartbeats 2000000 in
set_option maxRecDepth 100000 in
theorem padmit_bad (s : St) (r : R3) (k : Int) (h : ¬ Rg s) (hl : Lim s 10000) (hk : Kw s) (w : World) (hr : SR w s r) : Calls Try.prog 12 #[sV s r, .int .u64 k] w (S3Post w r S0 [] false) := by
  have x := F2.start hr
  obtain ⟨w1, hw1⟩ : ∃ w1, w1 = (w.alloc (.cells (sA s r) 31)).alloc (.cells (sA S0 R0) 31) := ⟨_, rfl⟩
  rw [← hw1] at x
  have hA : (w.alloc (.cells (sA s r) 31)).alloc (.cells #[.int .i64 0, .int .i64 0, .int .i64 0, .int .i64 0, .int .i64 0, .slice none 0 0, .slice none 0 0, .slice none 0 0, .int .i64 0, .int .i64 0, .int .u64 0, .int .u64 0, .int .u64 0, .int .u64 0, .int .u64 0, .int .u64 0, .int .u64 0, .int .u64 0, .int .u64 0, .int .u64 0] 31) = w1 := hw1.symm
  have HA := Lib.hid hA
  have HX := Lib.hid x
  have HL := Lib.hid (And.intro h (And.intro hl hk))
  clear x hw1 hA hl hr h hk
  show Calls Try.prog 12 #[sV s r, .int .u64 k] w fun e w' => S3Post w r S0 [] false e w'
  go_enter Try.func12, Try.ntmps12
  go_wp2_with (first | fail | (rw [HA.out]; refine ld31 rfl (.tmp 2) rfl _ rfl _ HX.out.fr.box ?_))
  refine (right_no s r HL.out.1 (HL.out.2.1.up (by omega)) HL.out.2.2 w1 HX.out.fr.rows).mono ?_
  rintro e w2 ⟨rfl, hb2⟩
  have H2 := Lib.hid (HX.out.keep hb2)
  clear hb2 HX HA
  go_wp2_with (first | fail | refine bld31zL rfl rfl ?_ | refine st31 rfl (.tmp 4) (.tmp 12) rfl _ S0 R0 rfl rfl _ H2.out.res ?_)
  refine bodyPost_ret (results_s3 rfl _ _ _ _ rfl (H2.out.res.rowSet (sA_len _ _))) rfl ?_
  exact ⟨R0, none, 0, 0, rfl, rfl, sr_zero _, ur_nil _, fun a e => (by cases e), frm_zero _ _, below_setRow H2.out.fr.bel (Nat.le_succ _)⟩
set_option maxHeartbeats 2000000 in
set_option maxRecDepth 100000 in
theorem padmit_no (s : St) (r : R3) (k : Int) (h : Rg s) (hl : Lim s 10000) (hk : Kw s) (w : World) (hr : SR w s r) (hkp : Kpt s k) : Calls Try.prog 12 #[sV s r, .int .u64 k] w (S3Post w r s [] false) := by
  have HKP := Lib.hid hkp
  clear hkp
  have x := F2.start hr
  obtain ⟨w1, hw1⟩ : ∃ w1, w1 = (w.alloc (.cells (sA s r) 31)).alloc (.cells (sA S0 R0) 31) := ⟨_, rfl⟩
  rw [← hw1] at x
  have hA : (w.alloc (.cells (sA s r) 31)).alloc (.cells #[.int .i64 0, .int .i64 0, .int .i64 0, .int .i64 0, .int .i64 0, .slice none 0 0, .slice none 0 0, .slice none 0 0, .int .i64 0, .int .i64 0, .int .u64 0, .int .u64 0, .int .u64 0, .int .u64 0, .int .u64 0, .int .u64 0, .int .u64 0, .int .u64 0, .int .u64 0, .int .u64 0] 31) = w1 := hw1.symm
  have HA := Lib.hid hA
  have HX := Lib.hid x
  have HL := Lib.hid (And.intro h (And.intro hl hk))
  clear x hw1 hA hl hr h hk
  show Calls Try.prog 12 #[sV s r, .int .u64 k] w fun e w' => S3Post w r s [] false e w'
  go_enter Try.func12, Try.ntmps12
  go_wp2_with (first | fail | (rw [HA.out]; refine ld31 rfl (.tmp 2) rfl _ rfl _ HX.out.fr.box ?_))
  refine (right_yes s r HL.out.1 (HL.out.2.1.up (by omega)) HL.out.2.2 w1 HX.out.fr.rows).mono ?_
  rintro e w2 ⟨rfl, hb2⟩
  have H2 := Lib.hid (HX.out.keep hb2)
  clear hb2 HX HA
  go_wp2_with (first | fail | refine ld31 rfl (.tmp 2) rfl _ rfl _ H2.out.fr.box ?_)
  refine (begin_at s r (HL.out.2.1.up (by omega)) w2 H2.out.fr.rows).mono ?_
  rintro e w3 ⟨B, r3, A3, c3, rfl, hwk, hb3⟩
  have x3 := H2.out.keep hb3
  obtain ⟨lo, hlo⟩ : ∃ lo, lo = w2.heap.size := ⟨_, rfl⟩
  rw [← hlo] at hwk hb3
  have H3 : Hid (WK lo w3 B s r3 A3 c3 [] ∧ TF w lo w3) := Lib.hid ⟨hwk, x3.res, x3.fr.bel, by rw [hlo]; exact H2.out.fr.hi⟩
  clear hwk hb3 x3 hlo H2
  go_wp2_with (first | fail | refine ldW rfl (.tmp 17) rfl rfl H3.out.1 ?_)
  refine (keeps_at s r3 k (HL.out.2.1.up (by omega)) w3 H3.out.1.sr).mono ?_
  rintro e w4 ⟨rfl, hb4⟩
  rw [pk_kpt HL.out.1.wk]
  have H4 : Hid (WK lo w4 B s r3 A3 c3 [] ∧ TF w lo w4) := Lib.hid ⟨H3.out.1.kept hb4, H3.out.2.keep (hb4.mono H3.out.1.low)⟩
  clear hb4 H3
  rw [decide_eq_true HKP.out]
  go_wp2_with (first | fail | refine ldW rfl (.tmp 23) rfl rfl H4.out.1 ?_ | refine st31 rfl (.tmp 4) (.tmp 24) rfl _ s r3 rfl rfl _ H4.out.2.res ?_)
  refine bodyPost_ret (results_s3 rfl _ _ _ _ rfl (H4.out.2.res.rowSet (sA_len _ _))) rfl ?_
  exact H4.out.2.ret3n H4.out.1 r false
def tAdm (s : St) (k : Int) : St := if kOf s k = 3 ∨ Rm (trim (adm s k).1) then prune (raise (trim (adm s k).1) k) else prune (cool (trim (adm s k).1) k)
set_option maxHeartbeats 2000000 in
set_option maxRecDepth 100000 in
theorem padmit_yes (s : St) (r : R3) (k : Int) (h : Rg s) (hl : Lim s 10000) (hk : Kw s) (w : World) (hr : SR w s r) (hkp : ¬ Kpt s k) : Calls Try.prog 12 #[sV s r, .int .u64 k] w (S3Post w r (tAdm s k) (adm s k).2 true) := by
  have HKP := Lib.hid (And.intro hkp (And.intro (adm_free h hkp) (And.intro (adm_len h k) (rg_lim h))))
  clear hkp
  have x := F2.start hr
  obtain ⟨w1, hw1⟩ : ∃ w1, w1 = (w.alloc (.cells (sA s r) 31)).alloc (.cells (sA S0 R0) 31) := ⟨_, rfl⟩
  rw [← hw1] at x
  have hA : (w.alloc (.cells (sA s r) 31)).alloc (.cells #[.int .i64 0, .int .i64 0, .int .i64 0, .int .i64 0, .int .i64 0, .slice none 0 0, .slice none 0 0, .slice none 0 0, .int .i64 0, .int .i64 0, .int .u64 0, .int .u64 0, .int .u64 0, .int .u64 0, .int .u64 0, .int .u64 0, .int .u64 0, .int .u64 0, .int .u64 0, .int .u64 0] 31) = w1 := hw1.symm
  have HA := Lib.hid hA
  have HX := Lib.hid x
  have HL := Lib.hid (And.intro h (And.intro hl hk))
  clear x hw1 hA hl hr h hk
  show Calls Try.prog 12 #[sV s r, .int .u64 k] w fun e w' => S3Post w r (tAdm s k) (adm s k).2 true e w'
  go_enter Try.func12, Try.ntmps12
  go_wp2_with (first | fail | (rw [HA.out]; refine ld31 rfl (.tmp 2) rfl _ rfl _ HX.out.fr.box ?_))
  refine (right_yes s r HL.out.1 (HL.out.2.1.up (by omega)) HL.out.2.2 w1 HX.out.fr.rows).mono ?_
  rintro e w2 ⟨rfl, hb2⟩
  have H2 := Lib.hid (HX.out.keep hb2)
  clear hb2 HX HA
  go_wp2_with (first | fail | refine ld31 rfl (.tmp 2) rfl _ rfl _ H2.out.fr.box ?_)
  refine (begin_at s r (HL.out.2.1.up (by omega)) w2 H2.out.fr.rows).mono ?_
  rintro e w3 ⟨B, r3, A3, c3, rfl, hwk, hb3⟩
  have x3 := H2.out.keep hb3
  obtain ⟨lo, hlo⟩ : ∃ lo, lo = w2.heap.size := ⟨_, rfl⟩
  rw [← hlo] at hwk hb3
  have H3 : Hid (WK lo w3 B s r3 A3 c3 [] ∧ TF w lo w3) := Lib.hid ⟨hwk, x3.res, x3.fr.bel, by rw [hlo]; exact H2.out.fr.hi⟩
  clear hwk hb3 x3 hlo H2
  go_wp2_with (first | fail | refine ldW rfl (.tmp 17) rfl rfl H3.out.1 ?_)
  refine (keeps_at s r3 k (HL.out.2.1.up (by omega)) w3 H3.out.1.sr).mono ?_
  rintro e w4 ⟨rfl, hb4⟩
  rw [pk_kpt HL.out.1.wk]
  have H4 : Hid (WK lo w4 B s r3 A3 c3 [] ∧ TF w lo w4) := Lib.hid ⟨H3.out.1.kept hb4, H3.out.2.keep (hb4.mono H3.out.1.low)⟩
  clear hb4 H3
  rw [decide_eq_false HKP.out.1]
  have d11 := H4.out.1.at11
  have f11 := H4.out.1.free 11
  have hup := wrap_up s.ct.mi
  have H5 : Hid (WK lo (w4.setCell ⟨B, 11, none⟩ (.int .u64 (up s.ct.mi))) B (mis s) r3 A3 c3 [] ∧ TF w lo (w4.setCell ⟨B, 11, none⟩ (.int .u64 (up s.ct.mi)))) := Lib.hid ⟨H4.out.1.ct11 _, H4.out.2.keep (below_setCell (Below.refl _ _) H4.out.1.hlo)⟩
  go_wp2_with fail
  clear d11 f11 hup
  obtain ⟨w5, hw5⟩ : ∃ w5, w5 = w4.setCell ⟨B, 11, none⟩ (.int .u64 (up s.ct.mi)) := ⟨_, rfl⟩
  rw [← hw5] at H5 ⊢
  clear hw5 H4
  refine (kind_at H5.out.1 k (by have := HKP.out.2.2.2.1; show s.pg.length ≤ _; omega)).mono ?_
  rintro e w6 ⟨rfl, hb6⟩
  have H6 : Hid (WK lo w6 B (mis s) r3 A3 c3 [] ∧ TF w lo w6) := Lib.hid ⟨H5.out.1.kept hb6, H5.out.2.keep (hb6.mono H5.out.1.low)⟩
  obtain ⟨z, hz⟩ : ∃ z, z = pkind (mis s).pg k := ⟨_, rfl⟩
  rw [← hz]
  have HZ : Hid (z = 3 ↔ kOf s k = 3) := Lib.hid (by rw [hz]; exact pkind_three (s := s))
  obtain ⟨g3, hg3⟩ : ∃ g3, g3 = decide (z = 3) := ⟨_, rfl⟩
  have HG3 := Lib.hid hg3
  have hzz : (z == 3) = g3 := by rw [hg3]; by_cases h : z = 3 <;> simp [h]
  clear hb6 H5 hz hg3
  go_wp2_with fail
  refine Calls.mono (leave_at H6.out.1 k (by have := HKP.out.2.2.2.1; show s.pg.length ≤ _; omega) (by have := HKP.out.2.2.2.2.1; show s.qu.length ≤ _; omega) (by have := HKP.out.2.2.2.2.2; show s.gh.length ≤ _; omega)) ?_
  rintro e w7 ⟨rfl, r7, A7, c7, h7, hb7⟩
  have H7 : Hid (WK lo w7 B (gone (mis s) k) r7 A7 c7 [] ∧ TF w lo w7) := Lib.hid ⟨h7, H6.out.2.keep hb7⟩
  have d1 : w7.cell? ⟨B, 1, none⟩ = some (.int .i64 s.cf.c) := h7.at1
  obtain ⟨cc, hcc⟩ : ∃ cc, cc = s.cf.c := ⟨_, rfl⟩
  rw [← hcc] at d1
  have hwr : IntKind.i64.wrap (cc - 1) = cc - 1 := by rw [IntKind.wrap_i64]; have := HL.out.1.cl.2.1; omega
  have HCC := Lib.hid hcc
  clear h7 hb7 H6 hcc hzz
  go_wp2_with fail
  have C39 := pspill_at H7.out.1 (cc - 1) (by
    have h1 := many_wo s.pg k 1
    have h2 := HL.out.1.b1
    have h3 := HL.out.1.cl.2.2.1
    rw [HCC.out]
    show (many (wo s.pg k) 1 : Int) ≤ s.cf.c - 1
    dsimp only [H] at h2
    omega) HKP.out.2.1.1 HKP.out.2.1.2.1 (by
    have h1 := wo_len s.pg k
    have h2 := ls_le s.qu k
    have h3 := ls_le s.gh k
    have h4 := HKP.out.2.2.2.1
    have h5 := HKP.out.2.2.2.2.1
    have h6 := HKP.out.2.2.2.2.2
    exact ⟨by show (wo s.pg k).length ≤ _; omega, by show (ls s.qu k).length + (ls s.gh k).length ≤ _; omega, by show (ls s.qu k).length + 0 ≤ _; omega⟩)
  rw [List.nil_append] at C39
  have hsp : spill (cc - 1) (gone (mis s) k) = adm s k := by rw [HCC.out]; rfl
  rw [hsp] at C39
  clear hsp d1 hwr
  refine Calls.mono C39 ?_
  rintro e w8 ⟨rfl, r8, A8, c8, h8, hb8⟩
  obtain ⟨out, hout⟩ : ∃ out, out = (adm s k).2 := ⟨_, rfl⟩
  rw [← hout] at h8
  have HOUT := Lib.hid hout
  have H8 : Hid (WK lo w8 B (adm s k).1 r8 A8 c8 out ∧ TF w lo w8) := Lib.hid ⟨h8, H7.out.2.keep hb8⟩
  clear h8 hb8 H7 hout C39
  go_wp2_with fail
  refine Calls.mono (ptrim_at H8.out.1 (by rw [HKP.out.2.1.2.2.2.2.2.2.2.2.1]; exact HL.out.1.cl.2.2.2.1) HKP.out.2.1.2.2.1 (by have := HKP.out.2.2.1.1; exact ⟨by omega, by omega⟩)) ?_
  rintro e w9 ⟨rfl, r9, A9, c9, h9, hb9⟩
  obtain ⟨s3, hs3⟩ : ∃ s3, s3 = trim (adm s k).1 := ⟨_, rfl⟩
  rw [← hs3] at h9
  have H9 : Hid (WK lo w9 B s3 r9 A9 c9 out ∧ TF w lo w9) := Lib.hid ⟨h9, H8.out.2.keep hb9⟩
  have HS3 : Hid (StackM.Wk s3 ∧ Bt s3 ∧ (∀ p ∈ s3.pg, p.key ≠ k) ∧ k ∉ s3.gh ∧ Cl s3.cf ∧ (s3.pg.length ≤ 2304 ∧ s3.qu.length ≤ 2304 ∧ s3.gh.length ≤ 2304) ∧ tAdm s k = if kOf s k = 3 ∨ Rm s3 then prune (raise s3 k) else prune (cool s3 k)) := Lib.hid (by
    have h1 := HKP.out.2.1.2.2.2.2
    rw [hs3]
    exact ⟨h1.1, h1.2.1, h1.2.2.1, h1.2.2.2.1, by rw [h1.2.2.2.2.2]; exact HL.out.1.cl, HKP.out.2.2.1.2, rfl⟩)
  clear h9 hb9 H8 hs3
  cases g3 with
  | true =>
    have HT : Hid (tAdm s k = prune (raise s3 k)) := Lib.hid (by rw [HS3.out.2.2.2.2.2.2, if_pos (.inl (HZ.out.1 (of_decide_eq_true HG3.out.symm)))])
    go_wp2_with fail
    refine Calls.mono (praise_at H9.out.1 k HS3.out.1 (bt_wo (k := k) (s := s3) HS3.out.2.1 rfl (fun p hp e => absurd e (HS3.out.2.2.1 p hp))) HS3.out.2.2.2.2.1 (by have := HS3.out.2.2.2.2.2.1; exact ⟨by omega, by omega⟩)) ?_
    rintro e w11 ⟨rfl, r11, A11, c11, h11, hb11⟩
    have H11 : Hid (WK lo w11 B (raise s3 k) r11 A11 c11 out ∧ TF w lo w11) := Lib.hid ⟨h11, H9.out.2.keep hb11⟩
    have HRL := Lib.hid (raise_len (s := s3) (k := k) (by have := HS3.out.2.2.2.2.2.1; omega) (by have := HS3.out.2.2.2.2.2.1; omega))
    clear h11 hb11 H9
    go_wp2_with fail
    refine Calls.mono (pprune_at H11.out.1 (HS3.out.1.raise HS3.out.2.1 (fun p hp e => absurd e (HS3.out.2.2.1 p hp))).1 (by have := HRL.out.1; omega) (by have := HRL.out.2; omega)) ?_
    rintro e w12 ⟨rfl, r12, A12, c12, h12, hb12⟩
    have H12 : Hid (WK lo w12 B (tAdm s k) r12 A12 c12 out ∧ TF w lo w12) := Lib.hid ⟨by rw [HT.out]; exact h12, H11.out.2.keep hb12⟩
    clear h12 hb12 H11
    go_wp2_with fail
    have hbd : Below w12.heap.size w12 w12.drew := below_drew (Below.refl _ _) 1
    have HD : Hid (WK lo w12.drew B (tAdm s k) r12 A12 c12 out ∧ TF w lo w12.drew) := Lib.hid ⟨H12.out.1.kept hbd, H12.out.2.keep (hbd.mono H12.out.1.low)⟩
    clear hbd
    refine wp_region_held_drew (S := fun W' => W'.heap[B]? = some (.cells (spA (tAdm s k) r12 A12 out.length c12) 68 (0, 0))) (by kernel_rfl) HD.out.1.box (fun hHeld => ?_)
    generalize World.drew w12 = wd at hHeld HD ⊢
    refine wpAnyH_take (i := 0) (v := ?tval1) (by simp only [get_laws]; rfl) (by kernel_rfl) (by kernel_rfl) (by kernel_rfl) (by intro _ _ _ h; exact h) (Or.inl ⟨by rfl, ?teq1⟩) (by assumption) ?trest1
    case teq1 => (intro w0 _; go_simp; with_reducible rfl)
    try simp only [put_laws]
    refine wpAnyH_take (i := 1) (v := ?tval2) (by simp only [get_laws]; rfl) (by kernel_rfl) (by kernel_rfl) (by kernel_rfl) (by intro _ _ _ h; exact h) (Or.inl ⟨by rfl, ?teq2⟩) (by assumption) ?trest2
    case teq2 => (intro w0 _; go_simp; with_reducible rfl)
    try simp only [put_laws]
    refine wpAnyH_take (i := 2) (v := ?tval3) (by simp only [get_laws]; rfl) (by kernel_rfl) (by kernel_rfl) (by kernel_rfl) (by intro _ _ _ h; exact h) (Or.inl ⟨by rfl, ?teq3⟩) (by assumption) ?trest3
    case teq3 => (intro w0 _; go_simp; with_reducible rfl)
    try simp only [put_laws]
    refine wpAnyH_take (i := 3) (v := ?tval4) (by simp only [get_laws]; rfl) (by kernel_rfl) (by kernel_rfl) (by kernel_rfl) (by intro _ _ _ h; exact h) (Or.inl ⟨by rfl, ?teq4⟩) (by assumption) ?trest4
    case teq4 => (intro w0 q; refine execW (.tmp 69) ?_ ?_ q <;> rfl)
    try simp only [put_laws]
    refine wpAnyH_take (i := 4) (v := ?tval5) (by simp only [get_laws]; rfl) (by kernel_rfl) (by kernel_rfl) (by kernel_rfl) (by intro _ _ _ h; exact h) (Or.inl ⟨by rfl, ?teq5⟩) (by assumption) ?trest5
    case teq5 => (intro w0 _; go_simp; with_reducible rfl)
    try simp only [put_laws]
    refine wpAnyH_take (i := 5) (v := ?tval6) (by simp only [get_laws]; rfl) (by kernel_rfl) (by kernel_rfl) (by kernel_rfl) (by intro _ _ _ h; exact h) (Or.inl ⟨by rfl, ?teq6⟩) (by assumption) ?trest6
    case teq6 => (intro w0 _; go_simp; with_reducible rfl)
    try simp only [put_laws]
    refine wpAnyH_take (i := 6) (v := ?tval7) (by simp only [get_laws]; rfl) (by kernel_rfl) (by kernel_rfl) (by kernel_rfl) (by intro _ _ _ h; exact h) (Or.inl ⟨by rfl, ?teq7⟩) (by assumption) ?trest7
    case teq7 => (intro w0 _; go_simp; with_reducible rfl)
    try simp only [put_laws]
    refine wpAnyH_take (i := 7) (v := ?tval8) (by simp only [get_laws]; rfl) (by kernel_rfl) (by kernel_rfl) (by kernel_rfl) (by intro _ _ _ h; exact h) (Or.inl ⟨by rfl, ?teq8⟩) (by assumption) ?trest8
    case teq8 => (intro w0 q; have h0 := row68 q; go_simp; with_reducible rfl)
    try simp only [put_laws]
    refine wpAnyH_ready (rs := [8]) (by kernel_rfl) (by simp) ?_
    refine AllReadyH.cons rfl (fun K hK => ?_) AllReadyH.nil
    refine step31 rfl (.tmp 4) (.tmp 70) rfl _ (tAdm s k) r12 rfl rfl _ HD.out.2.res ?_
    have hRB : w.heap.size + 1 ≠ B := by have := HD.out.1.hlo; have := HD.out.2.lo; omega
    refine hK.out _ _ (by rw [setRow_other wd _ B _ (fun e => hRB e.symm)]; exact HD.out.1.box) (fun hHeld => ?_)
    clear hK K
    try simp only [put_laws]
    refine wpAnyH_ready (rs := [9]) (by kernel_rfl) (by simp) ?_
    refine AllReadyH.cons rfl (fun K hK => ?_) AllReadyH.nil
    go_simp
    refine hK.out _ _ hHeld (fun hHeld => ?_)
    clear hK K
    try simp only [put_laws]
    refine wpAnyH_ready (rs := [10]) (by kernel_rfl) (by simp) ?_
    refine AllReadyH.cons rfl (fun K hK => ?_) AllReadyH.nil
    go_simp
    refine hK.out _ _ hHeld (fun hHeld => ?_)
    clear hK K hHeld
    refine wpAnyH_done (by kernel_rfl) ?_ _
    go_wp2_with fail
    refine bodyPost_ret (results_s3 rfl _ _ _ _ rfl (HD.out.2.res.rowSet (sA_len _ _))) rfl ?_
    show S3Post w r (tAdm s k) (adm s k).2 true _ _
    rw [← HOUT.out]
    exact HD.out.2.ret3 HD.out.1 r true
  | false =>
    have hng : ¬ kOf s k = 3 := fun h => of_decide_eq_false HG3.out.symm (HZ.out.2 h)
    have C34 := hroom_at H9.out.1 (by have := HS3.out.2.2.2.2.2.1.1; omega)
    rw [hroom_rm HS3.out.2.2.2.2.1] at C34
    have HC34 := Lib.hid C34
    by_cases hr : Rm s3
    · rw [decide_eq_true hr] at HC34
      have HT : Hid (tAdm s k = prune (raise s3 k)) := Lib.hid (by rw [HS3.out.2.2.2.2.2.2, if_pos (.inr hr)])
      clear hng C34 hr
      go_wp2_with fail
      refine HC34.out.mono ?_
      rintro e w10 ⟨rfl, hb10⟩
      have H10 : Hid (WK lo w10 B s3 r9 A9 c9 out ∧ TF w lo w10) := Lib.hid ⟨H9.out.1.kept hb10, H9.out.2.keep (hb10.mono H9.out.1.low)⟩
      clear hb10 H9 HC34
      go_wp2_with fail
      refine Calls.mono (praise_at H10.out.1 k HS3.out.1 (bt_wo (k := k) (s := s3) HS3.out.2.1 rfl (fun p hp e => absurd e (HS3.out.2.2.1 p hp))) HS3.out.2.2.2.2.1 (by have := HS3.out.2.2.2.2.2.1; exact ⟨by omega, by omega⟩)) ?_
      rintro e w11 ⟨rfl, r11, A11, c11, h11, hb11⟩
      have H11 : Hid (WK lo w11 B (raise s3 k) r11 A11 c11 out ∧ TF w lo w11) := Lib.hid ⟨h11, H10.out.2.keep hb11⟩
      have HRL := Lib.hid (raise_len (s := s3) (k := k) (by have := HS3.out.2.2.2.2.2.1; omega) (by have := HS3.out.2.2.2.2.2.1; omega))
      clear h11 hb11 H10
      go_wp2_with fail
      refine Calls.mono (pprune_at H11.out.1 (HS3.out.1.raise HS3.out.2.1 (fun p hp e => absurd e (HS3.out.2.2.1 p hp))).1 (by have := HRL.out.1; omega) (by have := HRL.out.2; omega)) ?_
      rintro e w12 ⟨rfl, r12, A12, c12, h12, hb12⟩
      have H12 : Hid (WK lo w12 B (tAdm s k) r12 A12 c12 out ∧ TF w lo w12) := Lib.hid ⟨by rw [HT.out]; exact h12, H11.out.2.keep hb12⟩
      clear h12 hb12 H11
      go_wp2_with fail
      have hbd : Below w12.heap.size w12 w12.drew := below_drew (Below.refl _ _) 1
      have HD : Hid (WK lo w12.drew B (tAdm s k) r12 A12 c12 out ∧ TF w lo w12.drew) := Lib.hid ⟨H12.out.1.kept hbd, H12.out.2.keep (hbd.mono H12.out.1.low)⟩
      clear hbd
      refine wp_region_held_drew (S := fun W' => W'.heap[B]? = some (.cells (spA (tAdm s k) r12 A12 out.length c12) 68 (0, 0))) (by kernel_rfl) HD.out.1.box (fun hHeld => ?_)
      generalize World.drew w12 = wd at hHeld HD ⊢
      refine wpAnyH_take (i := 0) (v := ?tval9) (by simp only [get_laws]; rfl) (by kernel_rfl) (by kernel_rfl) (by kernel_rfl) (by intro _ _ _ h; exact h) (Or.inl ⟨by rfl, ?teq9⟩) (by assumption) ?trest9
      case teq9 => (intro w0 _; go_simp; with_reducible rfl)
      try simp only [put_laws]
      refine wpAnyH_take (i := 1) (v := ?tval10) (by simp only [get_laws]; rfl) (by kernel_rfl) (by kernel_rfl) (by kernel_rfl) (by intro _ _ _ h; exact h) (Or.inl ⟨by rfl, ?teq10⟩) (by assumption) ?trest10
      case teq10 => (intro w0 _; go_simp; with_reducible rfl)
      try simp only [put_laws]
      refine wpAnyH_take (i := 2) (v := ?tval11) (by simp only [get_laws]; rfl) (by kernel_rfl) (by kernel_rfl) (by kernel_rfl) (by intro _ _ _ h; exact h) (Or.inl ⟨by rfl, ?teq11⟩) (by assumption) ?trest11
      case teq11 => (intro w0 _; go_simp; with_reducible rfl)
      try simp only [put_laws]
      refine wpAnyH_take (i := 3) (v := ?tval12) (by simp only [get_laws]; rfl) (by kernel_rfl) (by kernel_rfl) (by kernel_rfl) (by intro _ _ _ h; exact h) (Or.inl ⟨by rfl, ?teq12⟩) (by assumption) ?trest12
      case teq12 => (intro w0 q; refine execW (.tmp 69) ?_ ?_ q <;> rfl)
      try simp only [put_laws]
      refine wpAnyH_take (i := 4) (v := ?tval13) (by simp only [get_laws]; rfl) (by kernel_rfl) (by kernel_rfl) (by kernel_rfl) (by intro _ _ _ h; exact h) (Or.inl ⟨by rfl, ?teq13⟩) (by assumption) ?trest13
      case teq13 => (intro w0 _; go_simp; with_reducible rfl)
      try simp only [put_laws]
      refine wpAnyH_take (i := 5) (v := ?tval14) (by simp only [get_laws]; rfl) (by kernel_rfl) (by kernel_rfl) (by kernel_rfl) (by intro _ _ _ h; exact h) (Or.inl ⟨by rfl, ?teq14⟩) (by assumption) ?trest14
      case teq14 => (intro w0 _; go_simp; with_reducible rfl)
      try simp only [put_laws]
      refine wpAnyH_take (i := 6) (v := ?tval15) (by simp only [get_laws]; rfl) (by kernel_rfl) (by kernel_rfl) (by kernel_rfl) (by intro _ _ _ h; exact h) (Or.inl ⟨by rfl, ?teq15⟩) (by assumption) ?trest15
      case teq15 => (intro w0 _; go_simp; with_reducible rfl)
      try simp only [put_laws]
      refine wpAnyH_take (i := 7) (v := ?tval16) (by simp only [get_laws]; rfl) (by kernel_rfl) (by kernel_rfl) (by kernel_rfl) (by intro _ _ _ h; exact h) (Or.inl ⟨by rfl, ?teq16⟩) (by assumption) ?trest16
      case teq16 => (intro w0 q; have h0 := row68 q; go_simp; with_reducible rfl)
      try simp only [put_laws]
      refine wpAnyH_ready (rs := [8]) (by kernel_rfl) (by simp) ?_
      refine AllReadyH.cons rfl (fun K hK => ?_) AllReadyH.nil
      refine step31 rfl (.tmp 4) (.tmp 70) rfl _ (tAdm s k) r12 rfl rfl _ HD.out.2.res ?_
      have hRB : w.heap.size + 1 ≠ B := by have := HD.out.1.hlo; have := HD.out.2.lo; omega
      refine hK.out _ _ (by rw [setRow_other wd _ B _ (fun e => hRB e.symm)]; exact HD.out.1.box) (fun hHeld => ?_)
      clear hK K
      try simp only [put_laws]
      refine wpAnyH_ready (rs := [9]) (by kernel_rfl) (by simp) ?_
      refine AllReadyH.cons rfl (fun K hK => ?_) AllReadyH.nil
      go_simp
      refine hK.out _ _ hHeld (fun hHeld => ?_)
      clear hK K
      try simp only [put_laws]
      refine wpAnyH_ready (rs := [10]) (by kernel_rfl) (by simp) ?_
      refine AllReadyH.cons rfl (fun K hK => ?_) AllReadyH.nil
      go_simp
      refine hK.out _ _ hHeld (fun hHeld => ?_)
      clear hK K hHeld
      refine wpAnyH_done (by kernel_rfl) ?_ _
      go_wp2_with fail
      refine bodyPost_ret (results_s3 rfl _ _ _ _ rfl (HD.out.2.res.rowSet (sA_len _ _))) rfl ?_
      show S3Post w r (tAdm s k) (adm s k).2 true _ _
      rw [← HOUT.out]
      exact HD.out.2.ret3 HD.out.1 r true
    · rw [decide_eq_false hr] at HC34
      have HT : Hid (tAdm s k = prune (cool s3 k)) := Lib.hid (by rw [HS3.out.2.2.2.2.2.2, if_neg (fun h => h.elim hng hr)])
      clear hng C34 hr
      go_wp2_with fail
      refine HC34.out.mono ?_
      rintro e w10 ⟨rfl, hb10⟩
      have H10 : Hid (WK lo w10 B s3 r9 A9 c9 out ∧ TF w lo w10) := Lib.hid ⟨H9.out.1.kept hb10, H9.out.2.keep (hb10.mono H9.out.1.low)⟩
      clear hb10 H9 HC34
      go_wp2_with fail
      refine Calls.mono (cold_at H10.out.1 k (by have := HS3.out.2.2.2.2.2.1; omega) (by have := HS3.out.2.2.2.2.2.1; omega)) ?_
      rintro e w11 ⟨rfl, r11, A11, c11, h11, hb11⟩
      have hce : cool s3 k = { s3 with pg := ⟨k, 2, false, false⟩ :: wo s3.pg k, qu := ls s3.qu k ++ [k] } := by
        unfold cool top gone
        rw [ls_none HS3.out.2.2.2.1]
      have H11 : Hid (WK lo w11 B (cool s3 k) r11 A11 c11 out ∧ TF w lo w11) := Lib.hid ⟨by rw [hce]; exact h11, H10.out.2.keep hb11⟩
      clear h11 hb11 H10 hce
      go_wp2_with fail
      refine Calls.mono (pprune_at H11.out.1 (HS3.out.1.cool k) (by have := HS3.out.2.2.2.2.2.1; have := wo_len s3.pg k; show (_ :: wo s3.pg k).length ≤ _; rw [List.length_cons]; omega) (by have := HS3.out.2.2.2.2.2.1; have := ls_le s3.gh k; show (ls s3.gh k).length ≤ _; omega)) ?_
      rintro e w12 ⟨rfl, r12, A12, c12, h12, hb12⟩
      have H12 : Hid (WK lo w12 B (tAdm s k) r12 A12 c12 out ∧ TF w lo w12) := Lib.hid ⟨by rw [HT.out]; exact h12, H11.out.2.keep hb12⟩
      clear h12 hb12 H11
      go_wp2_with fail
      have hbd : Below w12.heap.size w12 w12.drew := below_drew (Below.refl _ _) 1
      have HD : Hid (WK lo w12.drew B (tAdm s k) r12 A12 c12 out ∧ TF w lo w12.drew) := Lib.hid ⟨H12.out.1.kept hbd, H12.out.2.keep (hbd.mono H12.out.1.low)⟩
      clear hbd
      refine wp_region_held_drew (S := fun W' => W'.heap[B]? = some (.cells (spA (tAdm s k) r12 A12 out.length c12) 68 (0, 0))) (by kernel_rfl) HD.out.1.box (fun hHeld => ?_)
      generalize World.drew w12 = wd at hHeld HD ⊢
      refine wpAnyH_take (i := 0) (v := ?tval17) (by simp only [get_laws]; rfl) (by kernel_rfl) (by kernel_rfl) (by kernel_rfl) (by intro _ _ _ h; exact h) (Or.inl ⟨by rfl, ?teq17⟩) (by assumption) ?trest17
      case teq17 => (intro w0 _; go_simp; with_reducible rfl)
      try simp only [put_laws]
      refine wpAnyH_take (i := 1) (v := ?tval18) (by simp only [get_laws]; rfl) (by kernel_rfl) (by kernel_rfl) (by kernel_rfl) (by intro _ _ _ h; exact h) (Or.inl ⟨by rfl, ?teq18⟩) (by assumption) ?trest18
      case teq18 => (intro w0 _; go_simp; with_reducible rfl)
      try simp only [put_laws]
      refine wpAnyH_take (i := 2) (v := ?tval19) (by simp only [get_laws]; rfl) (by kernel_rfl) (by kernel_rfl) (by kernel_rfl) (by intro _ _ _ h; exact h) (Or.inl ⟨by rfl, ?teq19⟩) (by assumption) ?trest19
      case teq19 => (intro w0 _; go_simp; with_reducible rfl)
      try simp only [put_laws]
      refine wpAnyH_take (i := 3) (v := ?tval20) (by simp only [get_laws]; rfl) (by kernel_rfl) (by kernel_rfl) (by kernel_rfl) (by intro _ _ _ h; exact h) (Or.inl ⟨by rfl, ?teq20⟩) (by assumption) ?trest20
      case teq20 => (intro w0 q; refine execW (.tmp 69) ?_ ?_ q <;> rfl)
      try simp only [put_laws]
      refine wpAnyH_take (i := 4) (v := ?tval21) (by simp only [get_laws]; rfl) (by kernel_rfl) (by kernel_rfl) (by kernel_rfl) (by intro _ _ _ h; exact h) (Or.inl ⟨by rfl, ?teq21⟩) (by assumption) ?trest21
      case teq21 => (intro w0 _; go_simp; with_reducible rfl)
      try simp only [put_laws]
      refine wpAnyH_take (i := 5) (v := ?tval22) (by simp only [get_laws]; rfl) (by kernel_rfl) (by kernel_rfl) (by kernel_rfl) (by intro _ _ _ h; exact h) (Or.inl ⟨by rfl, ?teq22⟩) (by assumption) ?trest22
      case teq22 => (intro w0 _; go_simp; with_reducible rfl)
      try simp only [put_laws]
      refine wpAnyH_take (i := 6) (v := ?tval23) (by simp only [get_laws]; rfl) (by kernel_rfl) (by kernel_rfl) (by kernel_rfl) (by intro _ _ _ h; exact h) (Or.inl ⟨by rfl, ?teq23⟩) (by assumption) ?trest23
      case teq23 => (intro w0 _; go_simp; with_reducible rfl)
      try simp only [put_laws]
      refine wpAnyH_take (i := 7) (v := ?tval24) (by simp only [get_laws]; rfl) (by kernel_rfl) (by kernel_rfl) (by kernel_rfl) (by intro _ _ _ h; exact h) (Or.inl ⟨by rfl, ?teq24⟩) (by assumption) ?trest24
      case teq24 => (intro w0 q; have h0 := row68 q; go_simp; with_reducible rfl)
      try simp only [put_laws]
      refine wpAnyH_ready (rs := [8]) (by kernel_rfl) (by simp) ?_
      refine AllReadyH.cons rfl (fun K hK => ?_) AllReadyH.nil
      refine step31 rfl (.tmp 4) (.tmp 70) rfl _ (tAdm s k) r12 rfl rfl _ HD.out.2.res ?_
      have hRB : w.heap.size + 1 ≠ B := by have := HD.out.1.hlo; have := HD.out.2.lo; omega
      refine hK.out _ _ (by rw [setRow_other wd _ B _ (fun e => hRB e.symm)]; exact HD.out.1.box) (fun hHeld => ?_)
      clear hK K
      try simp only [put_laws]
      refine wpAnyH_ready (rs := [9]) (by kernel_rfl) (by simp) ?_
      refine AllReadyH.cons rfl (fun K hK => ?_) AllReadyH.nil
      go_simp
      refine hK.out _ _ hHeld (fun hHeld => ?_)
      clear hK K
      try simp only [put_laws]
      refine wpAnyH_ready (rs := [10]) (by kernel_rfl) (by simp) ?_
      refine AllReadyH.cons rfl (fun K hK => ?_) AllReadyH.nil
      go_simp
      refine hK.out _ _ hHeld (fun hHeld => ?_)
      clear hK K hHeld
      refine wpAnyH_done (by kernel_rfl) ?_ _
      go_wp2_with fail
      refine bodyPost_ret (results_s3 rfl _ _ _ _ rfl (HD.out.2.res.rowSet (sA_len _ _))) rfl ?_
      show S3Post w r (tAdm s k) (adm s k).2 true _ _
      rw [← HOUT.out]
      exact HD.out.2.ret3 HD.out.1 r true
theorem padmit_at (s : St) (r : R3) (k : Int) (h : Rg s) (hl : Lim s 10000) (hk : Kw s) (w : World) (hr : SR w s r) : Calls Try.prog 12 #[sV s r, .int .u64 k] w (S3Post w r (admit s k) (admOut s k) (!decide (Kpt s k))) := by
  by_cases hkp : Kpt s k
  · rw [decide_eq_true hkp]
    have e1 : admit s k = s := by unfold admit; rw [if_pos hkp]
    have e2 : admOut s k = [] := by unfold admOut; rw [if_pos hkp]
    rw [e1, e2]
    exact padmit_no s r k h hl hk w hr hkp
  · rw [decide_eq_false hkp]
    have e1 : admit s k = tAdm s k := by unfold admit tAdm; rw [if_neg hkp]
    have e2 : admOut s k = (adm s k).2 := by unfold admOut; rw [if_neg hkp]
    rw [e1, e2]
    exact padmit_yes s r k h hl hk w hr hkp
end Go.Proofs.Ytifenpmkbnohhaa
namespace Go.Proofs.Ytifenpmkbnohhaa
open Go.RowKit
open Go.Proofs.StackM
set_option linter.unusedVariables false
/-- what Resize tells -/
def Ss3Post (w : World) (r : R3) (s' : St) (out : List Int) (n : Int) (e : Ending) (w' : World) : Prop :=
  ∃ r' A nn cc, e = .returned (.tuple #[sV s' r', .slice A nn cc, .int .i64 n]) ∧ nn = out.length ∧ SR w' s' r' ∧ UR w' A cc out ∧ (∀ a, A = some a → w.heap.size ≤ a.block) ∧ Frm w.heap.size r r' ∧ Below w.heap.size w w'
/-- the frame of Resize -/
structure T4 (c : Cf) (w : World) (s : St) (r : R3) (lo : Nat) (w1 : World) : Prop where
  res : Box w1 (w.heap.size + 2) (sA S0 R0)
  cfg : w1.heap[w.heap.size + 1]? = some (.cells (cA c) 24 (0, 0))
  st : Box w1 w.heap.size (sA s r)
  rows : SR w s r
  bel : Below w.heap.size w w1
  lo : w.heap.size + 3 ≤ lo
section
variable {lo B cc : Nat} {w w1 w2 : World} {s s1 : St} {r r1 : R3} {A : Option Addr} {ev : List Int} {c : Cf}
theorem T4.keep (x : T4 c w s r lo w1) (hb : Below lo w1 w2) : T4 c w s r lo w2 :=
  ⟨x.res.kept hb (by have := x.lo; omega), by rw [hb.block _ (by have := x.lo; omega)]; exact x.cfg, x.st.kept hb (by have := x.lo; omega), x.rows, x.bel.trans (hb.mono (by have := x.lo; omega)), x.lo⟩
theorem T4.ret (x : T4 c w s r lo w1) (h : WK lo w1 B s1 r1 A cc ev) (r0 : R3) (n : Int) : Ss3Post w r0 s1 ev n (.returned (.tuple #[sV s1 r1, .slice A ev.length cc, .int .i64 n])) (w1.setRow (w.heap.size + 2) (sA s1 r1)) :=
  ⟨r1, A, _, cc, rfl, rfl, sr_row3 h.sr h.up (by have := x.lo; omega) _, ⟨vrow_row h.erow (fun a e => by have := (h.rows.ev.lt a.block (by rw [e]; rfl)).1; have := x.lo; omega), fun a e => by rw [size_setRow]; exact (h.rows.ev.lt a.block (by rw [e]; rfl)).2, owns_cap h.rows.ev⟩, fun a e => by have := (h.rows.ev.lt a.block (by rw [e]; rfl)).1; have := x.lo; omega, h.frm _ (by have := x.lo; omega) r0, below_setRow x.bel (by omega)⟩
theorem T4.retn (x : T4 c w s r lo w1) (h : WK lo w1 B s1 r1 A cc ev) (r0 : R3) (n : Int) : Ss3Post w r0 s1 [] n (.returned (.tuple #[sV s1 r1, .slice none 0 0, .int .i64 n])) (w1.setRow (w.heap.size + 2) (sA s1 r1)) :=
  ⟨r1, none, 0, 0, rfl, rfl, sr_row3 h.sr h.up (by have := x.lo; omega) _, ur_nil _, fun a e => (by cases e), h.frm _ (by have := x.lo; omega) r0, below_setRow x.bel (by omega)⟩
theorem WK.cfTo (h : WK lo w B s r A cc ev) (d : Cf) : WK lo ((((w.setCell ⟨B, 0, none⟩ (.int .i64 d.p)).setCell ⟨B, 1, none⟩ (.int .i64 d.c)).setCell ⟨B, 2, none⟩ (.int .i64 d.q)).setCell ⟨B, 3, none⟩ (.int .i64 d.g)) B { s with cf := d } r A cc ev := by
  have h0 := h.numTo 0 (.int .i64 d.p) { s with cf := { s.cf with p := d.p } } rfl rfl rfl rfl
  have h1 := h0.numTo 1 (.int .i64 d.c) { s with cf := { s.cf with p := d.p, c := d.c } } rfl rfl rfl rfl
  have h2 := h1.numTo 2 (.int .i64 d.q) { s with cf := { s.cf with p := d.p, c := d.c, q := d.q } } rfl rfl rfl rfl
  exact h2.numTo 3 (.int .i64 d.g) { s with cf := d } rfl rfl rfl rfl
end
theorem lower_lsm {s : St} (h : Lsm s) : Lsm (lower s) := lower_ind (P := Lsm) (fun t p _ hp ht => loS_lsm hp ht) s h
set_option maxHeartbeats 2000000 in
set_option maxRecDepth 100000 in
theorem presize_bad (s : St) (r : R3) (c : Cf) (h : ¬ Rg s) (hl : Lim s 10000) (hk : Kw s) (w : World) (hr : SR w s r) : Calls Try.prog 14 #[sV s r, cV c] w (Ss3Post w r s [] 12) := by
  have x : F4 c w r _ s r := F4.start hr
  obtain ⟨w1, hw1⟩ : ∃ w1, w1 = ((w.alloc (.cells (sA s r) 31)).alloc (.cells (cA c) 24)).alloc (.cells (sA S0 R0) 31) := ⟨_, rfl⟩
  rw [← hw1] at x
  have hA : ((w.alloc (.cells (sA s r) 31)).alloc (.cells #[.int .i64 c.p, .int .i64 c.c, .int .i64 c.q, .int .i64 c.g] 24)).alloc (.cells #[.int .i64 0, .int .i64 0, .int .i64 0, .int .i64 0, .int .i64 0, .slice none 0 0, .slice none 0 0, .slice none 0 0, .int .i64 0, .int .i64 0, .int .u64 0, .int .u64 0, .int .u64 0, .int .u64 0, .int .u64 0, .int .u64 0, .int .u64 0, .int .u64 0, .int .u64 0, .int .u64 0] 31) = w1 := hw1.symm
  have HA := Lib.hid hA
  have HX := Lib.hid (And.intro x hr)
  have HL := Lib.hid (And.intro h (And.intro hl hk))
  clear x hw1 hA hl hr h hk
  show Calls Try.prog 14 #[sV s r, cV c] w fun e w' => Ss3Post w r s [] 12 e w'
  go_enter Try.func14, Try.ntmps14
  go_wp2_with (first | fail | (rw [HA.out]; refine ld31 rfl (.tmp 2) rfl _ rfl _ HX.out.1.fr.box ?_))
  refine (begin_at s r (HL.out.2.1.up (by omega)) w1 HX.out.1.fr.rows).mono ?_
  rintro e w2 ⟨B, r3, A3, c3, rfl, hwk, hb2⟩
  have x2 := HX.out.1.keep hb2
  obtain ⟨lo, hlo⟩ : ∃ lo, lo = w1.heap.size := ⟨_, rfl⟩
  rw [← hlo] at hwk hb2
  have H2 : Hid (WK lo w2 B s r3 A3 c3 [] ∧ T4 c w s r lo w2) := Lib.hid ⟨hwk, x2.res, x2.cfg, x2.fr.box, HX.out.2, x2.fr.bel, by rw [hlo]; exact HX.out.1.fr.hi⟩
  clear hwk hb2 x2 hlo HX HA
  go_wp2_with (first | fail | refine ld31 rfl (.tmp 2) rfl _ rfl _ H2.out.2.st ?_)
  refine (right_no s r HL.out.1 (HL.out.2.1.up (by omega)) HL.out.2.2 w2 (H2.out.2.rows.kept H2.out.2.bel)).mono ?_
  rintro e w3 ⟨rfl, hb3⟩
  have H3 : Hid (WK lo w3 B s r3 A3 c3 [] ∧ T4 c w s r lo w3) := Lib.hid ⟨H2.out.1.kept hb3, H2.out.2.keep (hb3.mono H2.out.1.low)⟩
  clear hb3 H2
  go_wp2_with (first | fail | refine ldW rfl (.tmp 15) rfl rfl H3.out.1 ?_ | refine st31 rfl (.tmp 4) (.tmp 16) rfl _ s r3 rfl rfl _ H3.out.2.res ?_)
  refine bodyPost_ret (results_s3 rfl _ _ _ _ rfl (H3.out.2.res.rowSet (sA_len _ _))) rfl ?_
  exact H3.out.2.retn H3.out.1 r 12
set_option maxHeartbeats 2000000 in
set_option maxRecDepth 100000 in
theorem presize_cfg (s : St) (r : R3) (c : Cf) (h : Rg s) (hl : Lim s 10000) (hk : Kw s) (w : World) (hr : SR w s r) (hcl : ¬ Cl c) : Calls Try.prog 14 #[sV s r, cV c] w (Ss3Post w r s [] 2) := by
  have HCL := Lib.hid (decide_eq_false hcl)
  clear hcl
  have x : F4 c w r _ s r := F4.start hr
  obtain ⟨w1, hw1⟩ : ∃ w1, w1 = ((w.alloc (.cells (sA s r) 31)).alloc (.cells (cA c) 24)).alloc (.cells (sA S0 R0) 31) := ⟨_, rfl⟩
  rw [← hw1] at x
  have hA : ((w.alloc (.cells (sA s r) 31)).alloc (.cells #[.int .i64 c.p, .int .i64 c.c, .int .i64 c.q, .int .i64 c.g] 24)).alloc (.cells #[.int .i64 0, .int .i64 0, .int .i64 0, .int .i64 0, .int .i64 0, .slice none 0 0, .slice none 0 0, .slice none 0 0, .int .i64 0, .int .i64 0, .int .u64 0, .int .u64 0, .int .u64 0, .int .u64 0, .int .u64 0, .int .u64 0, .int .u64 0, .int .u64 0, .int .u64 0, .int .u64 0] 31) = w1 := hw1.symm
  have HA := Lib.hid hA
  have HX := Lib.hid (And.intro x hr)
  have HL := Lib.hid (And.intro h (And.intro hl hk))
  clear x hw1 hA hl hr h hk
  show Calls Try.prog 14 #[sV s r, cV c] w fun e w' => Ss3Post w r s [] 2 e w'
  go_enter Try.func14, Try.ntmps14
  go_wp2_with (first | fail | (rw [HA.out]; refine ld31 rfl (.tmp 2) rfl _ rfl _ HX.out.1.fr.box ?_))
  refine (begin_at s r (HL.out.2.1.up (by omega)) w1 HX.out.1.fr.rows).mono ?_
  rintro e w2 ⟨B, r3, A3, c3, rfl, hwk, hb2⟩
  have x2 := HX.out.1.keep hb2
  obtain ⟨lo, hlo⟩ : ∃ lo, lo = w1.heap.size := ⟨_, rfl⟩
  rw [← hlo] at hwk hb2
  have H2 : Hid (WK lo w2 B s r3 A3 c3 [] ∧ T4 c w s r lo w2) := Lib.hid ⟨hwk, x2.res, x2.cfg, x2.fr.box, HX.out.2, x2.fr.bel, by rw [hlo]; exact HX.out.1.fr.hi⟩
  clear hwk hb2 x2 hlo HX HA
  go_wp2_with (first | fail | refine ld31 rfl (.tmp 2) rfl _ rfl _ H2.out.2.st ?_)
  refine (right_yes s r HL.out.1 (HL.out.2.1.up (by omega)) HL.out.2.2 w2 (H2.out.2.rows.kept H2.out.2.bel)).mono ?_
  rintro e w3 ⟨rfl, hb3⟩
  have H3 : Hid (WK lo w3 B s r3 A3 c3 [] ∧ T4 c w s r lo w3) := Lib.hid ⟨H2.out.1.kept hb3, H2.out.2.keep (hb3.mono H2.out.1.low)⟩
  clear hb3 H2
  go_wp2_with (first | fail | refine wpList_load_row rfl 24 (.tmp 3) rfl (w.heap.size + 1) rfl 24 (cA c) (0, 0) _ H3.out.2.cfg Try.underlying24 rfl info24 ?_)
  refine Calls.mono (lirs_at c.p c.c c.q c.g w3) ?_
  rintro e w4 ⟨rfl, hb4⟩
  rw [show decide (Cl ⟨c.p, c.c, c.q, c.g⟩) = false from HCL.out]
  have H4 : Hid (WK lo w4 B s r3 A3 c3 [] ∧ T4 c w s r lo w4) := Lib.hid ⟨H3.out.1.kept hb4, H3.out.2.keep (hb4.mono H3.out.1.low)⟩
  clear hb4 H3
  go_wp2_with (first | fail | refine ldW rfl (.tmp 22) rfl rfl H4.out.1 ?_ | refine st31 rfl (.tmp 4) (.tmp 23) rfl _ s r3 rfl rfl _ H4.out.2.res ?_)
  refine bodyPost_ret (results_s3 rfl _ _ _ _ rfl (H4.out.2.res.rowSet (sA_len _ _))) rfl ?_
  exact H4.out.2.retn H4.out.1 r 2
set_option maxHeartbeats 2000000 in
set_option maxRecDepth 100000 in
theorem presize_yes (s : St) (r : R3) (c : Cf) (h : Rg s) (hl : Lim s 10000) (hk : Kw s) (w : World) (hr : SR w s r) (hcl : Cl c) : Calls Try.prog 14 #[sV s r, cV c] w (Ss3Post w r (resize s c) (rsz s c).2 0) := by
  have HCL := Lib.hid (decide_eq_true hcl)
  have HC := Lib.hid hcl
  clear hcl
  have x : F4 c w r _ s r := F4.start hr
  obtain ⟨w1, hw1⟩ : ∃ w1, w1 = ((w.alloc (.cells (sA s r) 31)).alloc (.cells (cA c) 24)).alloc (.cells (sA S0 R0) 31) := ⟨_, rfl⟩
  rw [← hw1] at x
  have hA : ((w.alloc (.cells (sA s r) 31)).alloc (.cells #[.int .i64 c.p, .int .i64 c.c, .int .i64 c.q, .int .i64 c.g] 24)).alloc (.cells #[.int .i64 0, .int .i64 0, .int .i64 0, .int .i64 0, .int .i64 0, .slice none 0 0, .slice none 0 0, .slice none 0 0, .int .i64 0, .int .i64 0, .int .u64 0, .int .u64 0, .int .u64 0, .int .u64 0, .int .u64 0, .int .u64 0, .int .u64 0, .int .u64 0, .int .u64 0, .int .u64 0] 31) = w1 := hw1.symm
  have HA := Lib.hid hA
  have HX := Lib.hid (And.intro x hr)
  have HL := Lib.hid (And.intro h (And.intro hl hk))
  clear x hw1 hA hl hr h hk
  show Calls Try.prog 14 #[sV s r, cV c] w fun e w' => Ss3Post w r (resize s c) (rsz s c).2 0 e w'
  go_enter Try.func14, Try.ntmps14
  go_wp2_with (first | fail | (rw [HA.out]; refine ld31 rfl (.tmp 2) rfl _ rfl _ HX.out.1.fr.box ?_))
  refine (begin_at s r (HL.out.2.1.up (by omega)) w1 HX.out.1.fr.rows).mono ?_
  rintro e w2 ⟨B, r3, A3, c3, rfl, hwk, hb2⟩
  have x2 := HX.out.1.keep hb2
  obtain ⟨lo, hlo⟩ : ∃ lo, lo = w1.heap.size := ⟨_, rfl⟩
  rw [← hlo] at hwk hb2
  have H2 : Hid (WK lo w2 B s r3 A3 c3 [] ∧ T4 c w s r lo w2) := Lib.hid ⟨hwk, x2.res, x2.cfg, x2.fr.box, HX.out.2, x2.fr.bel, by rw [hlo]; exact HX.out.1.fr.hi⟩
  clear hwk hb2 x2 hlo HX HA
  go_wp2_with (first | fail | refine ld31 rfl (.tmp 2) rfl _ rfl _ H2.out.2.st ?_)
  refine (right_yes s r HL.out.1 (HL.out.2.1.up (by omega)) HL.out.2.2 w2 (H2.out.2.rows.kept H2.out.2.bel)).mono ?_
  rintro e w3 ⟨rfl, hb3⟩
  have H3 : Hid (WK lo w3 B s r3 A3 c3 [] ∧ T4 c w s r lo w3) := Lib.hid ⟨H2.out.1.kept hb3, H2.out.2.keep (hb3.mono H2.out.1.low)⟩
  clear hb3 H2
  go_wp2_with (first | fail | refine wpList_load_row rfl 24 (.tmp 3) rfl (w.heap.size + 1) rfl 24 (cA c) (0, 0) _ H3.out.2.cfg Try.underlying24 rfl info24 ?_)
  refine Calls.mono (lirs_at c.p c.c c.q c.g w3) ?_
  rintro e w4 ⟨rfl, hb4⟩
  rw [show decide (Cl ⟨c.p, c.c, c.q, c.g⟩) = true from HCL.out]
  have H4 : Hid (WK lo w4 B s r3 A3 c3 [] ∧ T4 c w s r lo w4) := Lib.hid ⟨H3.out.1.kept hb4, H3.out.2.keep (hb4.mono H3.out.1.low)⟩
  clear hb4 H3
  have g0 : w4.cell? ⟨w.heap.size + 1, 0, none⟩ = some (.int .i64 c.p) := by rw [cell_of_head H4.out.2.cfg]; rfl
  have g1 : w4.cell? ⟨w.heap.size + 1, 1, none⟩ = some (.int .i64 c.c) := by rw [cell_of_head H4.out.2.cfg]; rfl
  have g2 : w4.cell? ⟨w.heap.size + 1, 2, none⟩ = some (.int .i64 c.q) := by rw [cell_of_head H4.out.2.cfg]; rfl
  have g3 : w4.cell? ⟨w.heap.size + 1, 3, none⟩ = some (.int .i64 c.g) := by rw [cell_of_head H4.out.2.cfg]; rfl
  have d0 := H4.out.1.at0
  have d1 := H4.out.1.at1
  have d2 := H4.out.1.at2
  have d3 := H4.out.1.at3
  have f0 := H4.out.1.free 0
  have f1 := H4.out.1.free 1
  have f2 := H4.out.1.free 2
  have f3 := H4.out.1.free 3
  obtain ⟨w5, hw5⟩ : ∃ w5, w5 = (((w4.setCell ⟨B, 0, none⟩ (.int .i64 c.p)).setCell ⟨B, 1, none⟩ (.int .i64 c.c)).setCell ⟨B, 2, none⟩ (.int .i64 c.q)).setCell ⟨B, 3, none⟩ (.int .i64 c.g) := ⟨_, rfl⟩
  obtain ⟨s1, hs1⟩ : ∃ s1, s1 = { s with cf := c } := ⟨_, rfl⟩
  have H5 : Hid (WK lo w5 B s1 r3 A3 c3 [] ∧ T4 c w s r lo w5) := Lib.hid (by
    rw [hw5, hs1]
    exact ⟨H4.out.1.cfTo c, H4.out.2.keep (below_setCell (below_setCell (below_setCell (below_setCell (Below.refl _ _) H4.out.1.hlo) H4.out.1.hlo) H4.out.1.hlo) H4.out.1.hlo)⟩)
  have HS1 : Hid (StackM.Wk s1 ∧ Bt s1 ∧ s1.cf = c ∧ (s1.pg.length ≤ 768 ∧ s1.qu.length ≤ 768 ∧ s1.gh.length ≤ 768) ∧ rsz s c = spill c.c (lower s1) ∧ resize s c = trim (rsz s c).1) := Lib.hid (by
    rw [hs1]
    exact ⟨HL.out.1.wk.cf c, HL.out.1.bt, rfl, (by have h := lims HL.out.1; exact h), rfl, rfl⟩)
  have HW5 := Lib.hid hw5
  clear hw5 hs1
  go_wp2_with (first | fail | rw [← HW5.out])
  clear g0 g1 g2 g3 d0 d1 d2 d3 f0 f1 f2 f3 H4 HW5
  refine Calls.mono (plower_at H5.out.1 HS1.out.1 HS1.out.2.1 (by rw [HS1.out.2.2.1]; exact HC.out) (by have := HS1.out.2.2.2.1; exact ⟨by omega, by omega⟩)) ?_
  rintro e w6 ⟨rfl, r6, A6, c6, h6, hb6⟩
  obtain ⟨s2, hs2⟩ : ∃ s2, s2 = lower s1 := ⟨_, rfl⟩
  rw [← hs2] at h6
  have H6 : Hid (WK lo w6 B s2 r6 A6 c6 [] ∧ T4 c w s r lo w6) := Lib.hid ⟨h6, H5.out.2.keep hb6⟩
  have HS2 : Hid ((StackM.Wk s2 ∧ Bt s2) ∧ (many s2.pg 1 : Int) ≤ c.c ∧ Lsm s2 ∧ s2.cf = c ∧ rsz s c = spill c.c s2 ∧ resize s c = trim (rsz s c).1) := Lib.hid (by
    have h1 := lower_room s1 (by rw [HS1.out.2.2.1]; have := HC.out.2.2.1; omega)
    rw [HS1.out.2.2.1] at h1
    rw [hs2]
    exact ⟨HS1.out.1.lower HS1.out.2.1, by have := HC.out.2.2.1; omega, lower_lsm (by have := HS1.out.2.2.2.1; exact ⟨by omega, by omega⟩), by rw [lower_cf]; exact HS1.out.2.2.1, HS1.out.2.2.2.2.1, HS1.out.2.2.2.2.2⟩)
  have g1 : w6.cell? ⟨w.heap.size + 1, 1, none⟩ = some (.int .i64 c.c) := by rw [cell_of_head H6.out.2.cfg]; rfl
  obtain ⟨cc, hcc⟩ : ∃ cc, cc = c.c := ⟨_, rfl⟩
  rw [← hcc] at g1
  have HCC := Lib.hid hcc
  clear h6 hb6 H5 hs2 HS1 hcc
  go_wp2_with fail
  have C39 := pspill_at H6.out.1 cc (by rw [HCC.out]; exact HS2.out.2.1) HS2.out.1.1 HS2.out.1.2 (by have := HS2.out.2.2.1.1; have := HS2.out.2.2.1.2; exact ⟨by omega, by omega, by show s2.qu.length + 0 ≤ _; omega⟩)
  rw [List.nil_append] at C39
  have hsp : spill cc s2 = rsz s c := by rw [HCC.out]; exact HS2.out.2.2.2.2.1.symm
  rw [hsp] at C39
  clear hsp g1
  refine Calls.mono C39 ?_
  rintro e w7 ⟨rfl, r7, A7, c7, h7, hb7⟩
  obtain ⟨out, hout⟩ : ∃ out, out = (rsz s c).2 := ⟨_, rfl⟩
  rw [← hout] at h7
  have HOUT := Lib.hid hout
  obtain ⟨s3, hs3⟩ : ∃ s3, s3 = (rsz s c).1 := ⟨_, rfl⟩
  rw [← hs3] at h7
  have H7 : Hid (WK lo w7 B s3 r7 A7 c7 out ∧ T4 c w s r lo w7) := Lib.hid ⟨h7, H6.out.2.keep hb7⟩
  have HS3 : Hid ((StackM.Wk s3 ∧ Bt s3) ∧ s3.cf = c ∧ (s3.pg.length ≤ 60000 ∧ s3.gh.length ≤ 60000) ∧ trim s3 = resize s c) := Lib.hid (by
    have h1 := HS2.out.1.1.spill HS2.out.1.2 c.c
    have h2 : Lq 20000 30000 (spill c.c s2).1 := spill_lq (by have := HS2.out.2.2.1; exact ⟨by have := this.1; omega, by have h3 := this.1; have h4 := this.2; omega⟩)
    rw [hs3, HS2.out.2.2.2.2.2, HS2.out.2.2.2.2.1]
    exact ⟨h1, by rw [spill_cf]; exact HS2.out.2.2.2.1, ⟨by have := h2.1; omega, by have := h2.2; omega⟩, rfl⟩)
  clear h7 hb7 H6 hs3 hout C39 HS2
  go_wp2_with fail
  refine Calls.mono (ptrim_at H7.out.1 (by rw [HS3.out.2.1]; exact HC.out.2.2.2.1) HS3.out.1.1 HS3.out.2.2.1) ?_
  rintro e w8 ⟨rfl, r8, A8, c8, h8, hb8⟩
  have H8 : Hid (WK lo w8 B (resize s c) r8 A8 c8 out ∧ T4 c w s r lo w8) := Lib.hid ⟨by rw [← HS3.out.2.2.2]; exact h8, H7.out.2.keep hb8⟩
  clear h8 hb8 H7 HS3
  go_wp2_with fail
  have hbd : Below w8.heap.size w8 w8.drew := below_drew (Below.refl _ _) 1
  have HD : Hid (WK lo w8.drew B (resize s c) r8 A8 c8 out ∧ T4 c w s r lo w8.drew) := Lib.hid ⟨H8.out.1.kept hbd, H8.out.2.keep (hbd.mono H8.out.1.low)⟩
  clear hbd
  refine wp_region_held_drew (S := fun W' => W'.heap[B]? = some (.cells (spA (resize s c) r8 A8 out.length c8) 68 (0, 0))) (by kernel_rfl) HD.out.1.box (fun hHeld => ?_)
  generalize World.drew w8 = wd at hHeld HD ⊢
  refine wpAnyH_take (i := 0) (v := ?tval1) (by simp only [get_laws]; rfl) (by kernel_rfl) (by kernel_rfl) (by kernel_rfl) (by intro _ _ _ h; exact h) (Or.inl ⟨by rfl, ?teq1⟩) (by assumption) ?trest1
  case teq1 => (intro w0 _; go_simp; with_reducible rfl)
  try simp only [put_laws]
  refine wpAnyH_take (i := 1) (v := ?tval2) (by simp only [get_laws]; rfl) (by kernel_rfl) (by kernel_rfl) (by kernel_rfl) (by intro _ _ _ h; exact h) (Or.inl ⟨by rfl, ?teq2⟩) (by assumption) ?trest2
  case teq2 => (intro w0 _; go_simp; with_reducible rfl)
  try simp only [put_laws]
  refine wpAnyH_take (i := 2) (v := ?tval3) (by simp only [get_laws]; rfl) (by kernel_rfl) (by kernel_rfl) (by kernel_rfl) (by intro _ _ _ h; exact h) (Or.inl ⟨by rfl, ?teq3⟩) (by assumption) ?trest3
  case teq3 => (intro w0 _; go_simp; with_reducible rfl)
  try simp only [put_laws]
  refine wpAnyH_take (i := 3) (v := ?tval4) (by simp only [get_laws]; rfl) (by kernel_rfl) (by kernel_rfl) (by kernel_rfl) (by intro _ _ _ h; exact h) (Or.inl ⟨by rfl, ?teq4⟩) (by assumption) ?trest4
  case teq4 => (intro w0 q; refine execW (.tmp 39) ?_ ?_ q <;> rfl)
  try simp only [put_laws]
  refine wpAnyH_take (i := 4) (v := ?tval5) (by simp only [get_laws]; rfl) (by kernel_rfl) (by kernel_rfl) (by kernel_rfl) (by intro _ _ _ h; exact h) (Or.inl ⟨by rfl, ?teq5⟩) (by assumption) ?trest5
  case teq5 => (intro w0 _; go_simp; with_reducible rfl)
  try simp only [put_laws]
  refine wpAnyH_take (i := 5) (v := ?tval6) (by simp only [get_laws]; rfl) (by kernel_rfl) (by kernel_rfl) (by kernel_rfl) (by intro _ _ _ h; exact h) (Or.inl ⟨by rfl, ?teq6⟩) (by assumption) ?trest6
  case teq6 => (intro w0 _; go_simp; with_reducible rfl)
  try simp only [put_laws]
  refine wpAnyH_take (i := 6) (v := ?tval7) (by simp only [get_laws]; rfl) (by kernel_rfl) (by kernel_rfl) (by kernel_rfl) (by intro _ _ _ h; exact h) (Or.inl ⟨by rfl, ?teq7⟩) (by assumption) ?trest7
  case teq7 => (intro w0 _; go_simp; with_reducible rfl)
  try simp only [put_laws]
  refine wpAnyH_take (i := 7) (v := ?tval8) (by simp only [get_laws]; rfl) (by kernel_rfl) (by kernel_rfl) (by kernel_rfl) (by intro _ _ _ h; exact h) (Or.inl ⟨by rfl, ?teq8⟩) (by assumption) ?trest8
  case teq8 => (intro w0 q; have h0 := row68 q; go_simp; with_reducible rfl)
  try simp only [put_laws]
  refine wpAnyH_ready (rs := [8]) (by kernel_rfl) (by simp) ?_
  refine AllReadyH.cons rfl (fun K hK => ?_) AllReadyH.nil
  refine step31 rfl (.tmp 4) (.tmp 40) rfl _ (resize s c) r8 rfl rfl _ HD.out.2.res ?_
  have hRB : w.heap.size + 2 ≠ B := by have := HD.out.1.hlo; have := HD.out.2.lo; omega
  refine hK.out _ _ (by rw [setRow_other wd _ B _ (fun e => hRB e.symm)]; exact HD.out.1.box) (fun hHeld => ?_)
  clear hK K
  try simp only [put_laws]
  refine wpAnyH_ready (rs := [9]) (by kernel_rfl) (by simp) ?_
  refine AllReadyH.cons rfl (fun K hK => ?_) AllReadyH.nil
  go_simp
  refine hK.out _ _ hHeld (fun hHeld => ?_)
  clear hK K
  try simp only [put_laws]
  refine wpAnyH_ready (rs := [10]) (by kernel_rfl) (by simp) ?_
  refine AllReadyH.cons rfl (fun K hK => ?_) AllReadyH.nil
  go_simp
  refine hK.out _ _ hHeld (fun hHeld => ?_)
  clear hK K hHeld
  refine wpAnyH_done (by kernel_rfl) ?_ _
  go_wp2_with fail
  refine bodyPost_ret (results_s3 rfl _ _ _ _ rfl (HD.out.2.res.rowSet (sA_len _ _))) rfl ?_
  show Ss3Post w r (resize s c) (rsz s c).2 0 _ _
  rw [← HOUT.out]
  exact HD.out.2.ret HD.out.1 r 0
end Go.Proofs.Ytifenpmkbnohhaa
