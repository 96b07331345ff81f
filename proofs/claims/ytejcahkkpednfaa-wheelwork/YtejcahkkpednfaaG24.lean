/-
  The ring: Admit of any right state.
  Small helpers of the laws' walks.
  What the program tells: Drop, Touch, Kept.
-/
import Derived.Test.YtejcahkkpednfaaG20
import Derived.Test.YtejcahkkpednfaaG22
import Derived.Test.YtejcahkkpednfaaG23
import Derived.Test.YtejcahkkpednfaaG05
import Derived.Test.YtejcahkkpednfaaG21
namespace Go.Proofs.Ytejcahkkpednfaa
open Go.RowKit
open Go.Proofs.StackM (Pg Cf Ct St up many fnd fnd_at fnd_no)
open Go.Proofs.WheelM
set_option linter.unusedVariables false
/-- the document's Admit, of any right state -/
theorem admit_at (s : St) (r : R3) (k : Int) (hg : Rg s) (w : World) (hr : SR w s r) : Calls Try.prog 48 #[sV s r, .int .u64 k] w (S3Post w r (admitW s k) (admOutW s k) (!decide (KptW s k))) := by
  by_cases hk : KptW s k
  · have e1 : admitW s k = s := by unfold admitW; rw [if_pos hk]
    have e2 : admOutW s k = [] := by unfold admOutW; rw [if_pos hk]
    rw [e1, e2, decide_eq_true hk]
    exact admit_kept s r k hg hk w hr
  · rw [decide_eq_false hk]
    cases hf : fnd s.pg k with
    | none => exact admit_new s r k hg hk hf w hr
    | some i => exact admit_gone s r k hg hk i hf w hr
end Go.Proofs.Ytejcahkkpednfaa
namespace Go.Proofs.Ytejcahkkpednfaa
open Go.RowKit
open Go.Proofs.StackM (Pg Cf Ct St up many fnd fnd_at fnd_no)
open Go.Proofs.WheelM
set_option linter.unusedVariables false
theorem sr_zero (w : World) : SR w S0 R0 := ⟨⟨.inl ⟨rfl, rfl, rfl⟩, fun a e => (by cases e), Nat.le_refl _⟩, ⟨.inl ⟨rfl, rfl, rfl⟩, fun a e => (by cases e), Nat.le_refl _⟩, ⟨.inl ⟨rfl, rfl, rfl⟩, fun a e => (by cases e), Nat.le_refl _⟩⟩
theorem frm_zero (t : Nat) (r : R3) : Frm t r R0 := ⟨.inr fun a e => (by cases e), .inr fun a e => (by cases e), .inr fun a e => (by cases e)⟩
theorem bld31z (w : World) : (Instr.build 31 #[]).run Try.prog w = .ok (sV S0 R0) w := by
  kernel_rfl
theorem bld31zL {ops : Array Oper} {rest : List Oper} {o : Oper} {a : Act} {w : World} {Q : Exit → Act → World → Prop} (hg : o.guard = none) (ho : o.op = .build 31 #[])
    (hK : wpList Try.prog ops Q rest (a.put o.dst (sV S0 R0)) w) : wpList Try.prog ops Q (o :: rest) a w := by
  refine wpList_plain hg fun K k => ?_
  unfold Oper.wp
  have := bld31z w
  simp [execOp, ho, this]
  exact k _ _ hK
def Ss3Post (w : World) (r : R3) (s' : St) (out : List Int) (n : Int) (e : Ending) (w' : World) : Prop :=
  ∃ r' A nn cc, e = .returned (.tuple #[sV s' r', .slice A nn cc, .int .i64 n]) ∧ nn = out.length ∧ SR w' s' r' ∧ UR w' A cc out ∧ (∀ a, A = some a → w.heap.size ≤ a.block) ∧ Frm w.heap.size r r' ∧ Below w.heap.size w w'
/-- a box of a state, and its rows -/
structure BS (w0 : World) (w : World) (b : Nat) (s : St) (r : R3) : Prop where
  box : Box w b (sA s r)
  rows : SR w s r
  ap : Ap b r
  bel : Below w0.heap.size w0 w
  lo : w0.heap.size ≤ b
theorem BS.keep {w0 w w' : World} {b : Nat} {s : St} {r : R3} (x : BS w0 w b s r) (hb : Below w.heap.size w w') : BS w0 w' b s r := ⟨x.box.kept hb x.box.lt, x.rows.kept hb, x.ap, x.bel.trans (hb.mono x.bel.size), x.lo⟩
theorem BS.new {w0 w : World} {s : St} {r : R3} (hr : SR w s r) (hb : Below w0.heap.size w0 w) : BS w0 (w.alloc (.cells (sA s r) 31)) w.heap.size s r :=
  ⟨box_alloc w (sA s r) (sA_len _ _), hr.kept (alloc_below w _), hr.old.ap (Nat.le_refl _), hb.trans ((alloc_below w _).mono hb.size), hb.size⟩
theorem BS.put {w0 w w1 : World} {b : Nat} {s s1 : St} {r r1 : R3} (x : BS w0 w b s r) (hb : Below w.heap.size w w1) (hr : SR w1 s1 r1) (hf : Frm w.heap.size r r1) : BS w0 (w1.setRow b (sA s1 r1)) b s1 r1 :=
  ⟨(x.box.kept hb x.box.lt).rowSet (sA_len _ _), hr.apRow (x.ap.frm hf x.box.lt), x.ap.frm hf x.box.lt, below_setRow (x.bel.trans (hb.mono x.bel.size)) x.lo, x.lo⟩
theorem urow_lit (w : World) (k : Int) : URow (w.alloc (.cells #[.int .u64 k] 27)) (some ⟨w.heap.size, 0, none⟩) 1 [k] := alloc_vrow w (uvals [k]) 27 1
theorem mby_cl (c : Cf) : Mby c ↔ Cl c := by
  unfold Mby Mb Cl Clk
  constructor
  · rintro ⟨⟨h1, h2, h3, h4⟩, h5⟩; exact ⟨h5, h2, h3, h4⟩
  · rintro ⟨h5, h2, h3, h4⟩; exact ⟨⟨by omega, h2, h3, h4⟩, h5⟩
theorem lawMay_cl (c : Cf) (b : Bool) (hb : b = true ↔ Cl c) (w : World) : Calls Try.prog 20 #[cV c] w fun e w' => e = .returned (.bool b) ∧ Below w.heap.size w w' :=
  (lawMay_at c w).mono fun e w' ⟨h1, h2⟩ => ⟨by
    rw [h1]
    have : decide (Mby c) = b := by
      cases b with
      | true => exact decide_eq_true ((mby_cl c).2 (hb.1 rfl))
      | false => exact decide_eq_false fun h => by have := hb.2 ((mby_cl c).1 h); cases this
    rw [this], h2⟩
set_option maxHeartbeats 2000000 in
set_option maxRecDepth 100000 in
theorem new_at0 (c : Cf) (w : World) : Calls Try.prog 21 #[cV c] w fun e w' => e = .returned (sV (newW c) R0) ∧ Below w.heap.size w w' := by
  obtain ⟨w1, hw1⟩ : ∃ w1, w1 = (w.alloc (.cells (cA c) 24)).alloc (.cells (sA S0 R0) 31) := ⟨_, rfl⟩
  have hb1 := alloc_below w (.cells (cA c) 24)
  have hb2 := alloc_below (w.alloc (.cells (cA c) 24)) (.cells (sA S0 R0) 31)
  have hc : w1.heap[w.heap.size]? = some (.cells (cA c) 24 (0, 0)) := by
    rw [hw1, hb2.block _ (by simp)]
    exact heap_alloc_new _ _
  have hx : Box w1 (w.heap.size + 1) (sA S0 R0) := by
    have := box_alloc (w.alloc (.cells (cA c) 24)) (sA S0 R0) rfl
    rw [hw1]; simpa using this
  have hb : Below w.heap.size w w1 := by rw [hw1]; exact hb1.trans (hb2.mono hb1.size)
  have hA : (w.alloc (.cells #[.int .i64 c.p, .int .i64 c.c, .int .i64 c.q, .int .i64 c.g] 24)).alloc (.cells #[.int .i64 0, .int .i64 0, .int .i64 0, .int .i64 0, .int .i64 0, .slice none 0 0, .slice none 0 0, .slice none 0 0, .int .i64 0, .int .i64 0, .int .u64 0, .int .u64 0, .int .u64 0, .int .u64 0, .int .u64 0, .int .u64 0, .int .u64 0, .int .u64 0, .int .u64 0, .int .u64 0] 31) = w1 := hw1.symm
  have HA := Lib.hid hA
  have c2 : w1.cell? ⟨w.heap.size, 2, none⟩ = some (.int .i64 c.q) := by
    rw [cell_of_row (w := w1) w.heap.size 2 (cA c) 24 (0, 0) hc]
    rfl
  have c2b := c2
  rw [← hA] at c2
  have HC := Lib.hid hc
  have HX := Lib.hid hx
  have HB := Lib.hid hb
  clear hw1 hb1 hb2 hc hx hb hA
  go_enter Try.func21, Try.ntmps21
  go_wp2_with (first | fail | (rw [HA.out]; refine wpList_load_row rfl 24 (.tmp 1) rfl w.heap.size rfl 24 (cA c) (0, 0) _ HC.out Try.underlying24 rfl info24 ?_) | refine bld31w rfl (.tmp 3) (.tmp 5) rfl c rfl rfl ?_ | refine st31 rfl (.tmp 2) (.tmp 6) rfl _ (newW c) R0 rfl rfl _ HX.out ?_)
  refine bodyPost_ret (results_s rfl _ _ _ _ rfl (HX.out.rowSet (sA_len _ _))) rfl ?_
  exact ⟨rfl, below_setRow HB.out (Nat.le_succ _)⟩
/-- what the calls of a region need -/
theorem lim_new (c : Cf) : Lim (newW c) 100000 := ⟨Nat.zero_le _, Nat.zero_le _, Nat.zero_le _⟩
theorem lim_zero : Lim S0 100000 := ⟨Nat.zero_le _, Nat.zero_le _, Nat.zero_le _⟩
/-- a config's box -/
def CB (w : World) (g : Nat) (c : Cf) : Prop := w.heap[g]? = some (.cells (cA c) 24 (0, 0))
theorem CB.kept {w w' : World} {g B : Nat} {c : Cf} (h : CB w g c) (hb : Below B w w') (hB : g < B) : CB w' g c := by unfold CB at *; rw [hb.block g hB]; exact h
theorem CB.lt {w : World} {g : Nat} {c : Cf} (h : CB w g c) : g < w.heap.size := (Array.getElem?_eq_some_iff.1 h).1
theorem CB.load {ops : Array Oper} {rest : List Oper} {o : Oper} {a : Act} {w : World} {Q : Exit → Act → World → Prop} (hgd : o.guard = none) (x : Operand) (ho : o.op = .load 24 x) (g : Nat) (hx : a.eval x = .pointer (some ⟨g, 0, none⟩)) (c : Cf) (h : CB w g c)
    (hK : wpList Try.prog ops Q rest (a.put o.dst (cV c)) w) : wpList Try.prog ops Q (o :: rest) a w :=
  wpList_load_row hgd 24 x ho g hx 24 (cA c) (0, 0) _ h Try.underlying24 rfl info24 hK
theorem CB.loadI {w : World} {g : Nat} {c : Cf} (h : CB w g c) : (Instr.loadAt 24 (.pointer (some ⟨g, 0, none⟩))).run Try.prog w = .ok (cV c) w := by
  have h2 : (loadVar 24 ⟨g, 0, none⟩).run Try.prog w = .ok (cV c) w := run_loadVar_row (P := Try.prog) w g 24 24 (cA c) (0, 0) _ h Try.underlying24 rfl (by kernel_rfl)
  simp [Instr.loadAt, Instr.sureAddr, h2]
theorem qld24 {ops : Array Oper} {rest : List Oper} {o : Oper} {a : Act} {C : World → Prop} {Q : Act → Prop} (x : Operand) (ho : o.op = .load 24 x) (hw : Region.wanted o (yielded ops a.tmps) = true) (g : Nat) (hx : a.eval x = .pointer (some ⟨g, 0, none⟩)) (c : Cf) (h : ∀ w, C w → CB w g c)
    (hK : wpQuiet Try.prog ops C Q rest (a.put o.dst (cV c))) : wpQuiet Try.prog ops C Q (o :: rest) a := by
  refine wpQuiet_step fun K hK2 => ?_
  rw [if_pos hw]
  refine ⟨cV c, fun w hC => ?_, hK2 _ hK⟩
  unfold Oper.quietAt
  have hb := h w hC
  simp [execOp, ho, hx, hb.loadI, Oper.quietUpon]
theorem qbld31z {ops : Array Oper} {rest : List Oper} {o : Oper} {a : Act} {C : World → Prop} {Q : Act → Prop} (ho : o.op = .build 31 #[]) (hw : Region.wanted o (yielded ops a.tmps) = true)
    (hK : wpQuiet Try.prog ops C Q rest (a.put o.dst (sV S0 R0))) : wpQuiet Try.prog ops C Q (o :: rest) a := by
  refine wpQuiet_step fun K hK2 => ?_
  rw [if_pos hw]
  refine ⟨sV S0 R0, fun w hC => ?_, hK2 _ hK⟩
  unfold Oper.quietAt
  have := bld31z w
  simp [execOp, ho, this, Oper.quietUpon]
end Go.Proofs.Ytejcahkkpednfaa
namespace Go.Proofs.Ytejcahkkpednfaa
open Go.RowKit
open Go.Proofs.StackM (Pg Cf Ct St up many fnd fnd_at fnd_no)
open Go.Proofs.WheelM
set_option linter.unusedVariables false
section
variable {lo B c : Nat} {w w1 w2 : World} {s s0 : St} {r r0 : R3} {A : Option Addr} {ev : List Int}
theorem ldW {ops : Array Oper} {rest : List Oper} {o : Oper} {a : Act} {Q : Exit → Act → World → Prop} (hgd : o.guard = none) (x : Operand) (ho : o.op = .load 31 x) (hx : a.eval x = .pointer (some ⟨B, 0, none⟩)) (h : WK lo w B s r A c ev)
    (hK : wpList Try.prog ops Q rest (a.put o.dst (sV s r)) w) : wpList Try.prog ops Q (o :: rest) a w :=
  wpList_load_mid hgd 31 x ho B 0 hx (sA s r).toList _ (fun j v hv => by
    rw [cell_of_row (w := w) B (0 + j) _ 72 (0, 0) h.box, Nat.zero_add, spA]
    have hj : j < (sA s r).size := by
      have := (List.getElem?_eq_some_iff.1 hv).1
      simpa using this
    rw [Array.getElem?_push_lt hj]
    have hv' : (sA s r)[j]? = some v := by simpa using hv
    rw [← hv', Array.getElem?_eq_getElem hj]) Try.underlying31 rfl (by rw [info31]; rfl) hK
theorem WK.sr (h : WK lo w B s r A c ev) : SR w s r :=
  ⟨⟨h.prow, fun a e => (h.rows.pg.lt a.block (by rw [e]; rfl)).2, owns_cap h.rows.pg⟩, ⟨h.qrow, fun a e => (h.rows.qu.lt a.block (by rw [e]; rfl)).2, owns_cap h.rows.qu⟩, ⟨h.grow, fun a e => (h.rows.gh.lt a.block (by rw [e]; rfl)).2, owns_cap h.rows.gh⟩⟩
theorem WK.up (h : WK lo w B s r A c ev) : (∀ a, r.a1 = some a → lo ≤ a.block) ∧ (∀ a, r.a2 = some a → lo ≤ a.block) ∧ (∀ a, r.a3 = some a → lo ≤ a.block) :=
  ⟨fun a e => (h.rows.pg.lt a.block (by rw [e]; rfl)).1, fun a e => (h.rows.qu.lt a.block (by rw [e]; rfl)).1, fun a e => (h.rows.gh.lt a.block (by rw [e]; rfl)).1⟩
theorem WK.frm (h : WK lo w B s r A c ev) (t : Nat) (ht : t ≤ lo) (r0 : R3) : Frm t r0 r :=
  ⟨.inr fun a e => Nat.le_trans ht (h.up.1 a e), .inr fun a e => Nat.le_trans ht (h.up.2.1 a e), .inr fun a e => Nat.le_trans ht (h.up.2.2 a e)⟩
/-- the frame of a function that works on a state: the result's box, all below a mark stays -/
structure TF (w : World) (lo : Nat) (w1 : World) : Prop where
  res : Box w1 (w.heap.size + 1) (sA S0 R0)
  bel : Below w.heap.size w w1
  lo : w.heap.size + 2 ≤ lo
theorem TF.keep (x : TF w lo w1) (hb : Below lo w1 w2) : TF w lo w2 := ⟨x.res.kept hb (by have := x.lo; omega), x.bel.trans (hb.mono (by have := x.lo; omega)), x.lo⟩
theorem sr_row3 {w : World} {s : St} {r : R3} {t b : Nat} (hr : SR w s r) (hu : (∀ a, r.a1 = some a → t ≤ a.block) ∧ (∀ a, r.a2 = some a → t ≤ a.block) ∧ (∀ a, r.a3 = some a → t ≤ a.block)) (hb : b < t) (cs : Array Value) : SR (w.setRow b cs) s r := by
  refine ⟨⟨vrow_row hr.pg.row (fun a e => by have := hu.1 a e; omega), fun a e => by rw [size_setRow]; exact hr.pg.lt a e, hr.pg.le⟩, ⟨vrow_row hr.qu.row (fun a e => by have := hu.2.1 a e; omega), fun a e => by rw [size_setRow]; exact hr.qu.lt a e, hr.qu.le⟩, ⟨vrow_row hr.gh.row (fun a e => by have := hu.2.2 a e; omega), fun a e => by rw [size_setRow]; exact hr.gh.lt a e, hr.gh.le⟩⟩
theorem TF.ret2 (x : TF w lo w1) (h : WK lo w1 B s r A c ev) (r0 : R3) (b : Bool) : S2Post w r0 s b (.returned (.tuple #[sV s r, .bool b])) (w1.setRow (w.heap.size + 1) (sA s r)) :=
  ⟨r, rfl, sr_row3 h.sr h.up (by have := x.lo; omega) _, h.frm _ (by have := x.lo; omega) r0, below_setRow x.bel (Nat.le_succ _)⟩
end
set_option maxHeartbeats 2000000 in
set_option maxRecDepth 100000 in
theorem pdrop_bad (s : St) (r : R3) (k : Int) (h : ¬ Rg s) (hl : Lim s 10000) (hk : Kw s) (w : World) (hr : SR w s r) : Calls Try.prog 13 #[sV s r, .int .u64 k] w (S2Post w r S0 false) := by
  have x := F2.start hr
  obtain ⟨w1, hw1⟩ : ∃ w1, w1 = (w.alloc (.cells (sA s r) 31)).alloc (.cells (sA S0 R0) 31) := ⟨_, rfl⟩
  rw [← hw1] at x
  have hA : (w.alloc (.cells (sA s r) 31)).alloc (.cells #[.int .i64 0, .int .i64 0, .int .i64 0, .int .i64 0, .int .i64 0, .slice none 0 0, .slice none 0 0, .slice none 0 0, .int .i64 0, .int .i64 0, .int .u64 0, .int .u64 0, .int .u64 0, .int .u64 0, .int .u64 0, .int .u64 0, .int .u64 0, .int .u64 0, .int .u64 0, .int .u64 0] 31) = w1 := hw1.symm
  have HA := Lib.hid hA
  have HX := Lib.hid x
  have HL := Lib.hid (And.intro h (And.intro hl hk))
  clear x hw1 hA hl hr h hk
  show Calls Try.prog 13 #[sV s r, .int .u64 k] w fun e w' => S2Post w r S0 false e w'
  go_enter Try.func13, Try.ntmps13
  go_wp2_with (first | fail | (rw [HA.out]; refine ld31 rfl (.tmp 2) rfl _ rfl _ HX.out.fr.box ?_))
  refine (right_no s r HL.out.1 (HL.out.2.1.up (by omega)) HL.out.2.2 w1 HX.out.fr.rows).mono ?_
  rintro e w2 ⟨rfl, hb2⟩
  have H2 := Lib.hid (HX.out.keep hb2)
  clear hb2 HX HA
  go_wp2_with (first | fail | refine bld31zL rfl rfl ?_ | refine st31 rfl (.tmp 4) (.tmp 11) rfl _ S0 R0 rfl rfl _ H2.out.res ?_)
  refine bodyPost_ret (results_s2 rfl _ _ _ _ rfl (H2.out.res.rowSet (sA_len _ _))) rfl ?_
  exact ⟨R0, rfl, sr_zero _, frm_zero _ _, below_setRow H2.out.fr.bel (Nat.le_succ _)⟩
set_option maxHeartbeats 2000000 in
set_option maxRecDepth 100000 in
theorem ptouch_bad (s : St) (r : R3) (k : Int) (h : ¬ Rg s) (hl : Lim s 10000) (hk : Kw s) (w : World) (hr : SR w s r) : Calls Try.prog 11 #[sV s r, .int .u64 k] w (S2Post w r S0 false) := by
  have x := F2.start hr
  obtain ⟨w1, hw1⟩ : ∃ w1, w1 = (w.alloc (.cells (sA s r) 31)).alloc (.cells (sA S0 R0) 31) := ⟨_, rfl⟩
  rw [← hw1] at x
  have hA : (w.alloc (.cells (sA s r) 31)).alloc (.cells #[.int .i64 0, .int .i64 0, .int .i64 0, .int .i64 0, .int .i64 0, .slice none 0 0, .slice none 0 0, .slice none 0 0, .int .i64 0, .int .i64 0, .int .u64 0, .int .u64 0, .int .u64 0, .int .u64 0, .int .u64 0, .int .u64 0, .int .u64 0, .int .u64 0, .int .u64 0, .int .u64 0] 31) = w1 := hw1.symm
  have HA := Lib.hid hA
  have HX := Lib.hid x
  have HL := Lib.hid (And.intro h (And.intro hl hk))
  clear x hw1 hA hl hr h hk
  show Calls Try.prog 11 #[sV s r, .int .u64 k] w fun e w' => S2Post w r S0 false e w'
  go_enter Try.func11, Try.ntmps11
  go_wp2_with (first | fail | (rw [HA.out]; refine ld31 rfl (.tmp 2) rfl _ rfl _ HX.out.fr.box ?_))
  refine (right_no s r HL.out.1 (HL.out.2.1.up (by omega)) HL.out.2.2 w1 HX.out.fr.rows).mono ?_
  rintro e w2 ⟨rfl, hb2⟩
  have H2 := Lib.hid (HX.out.keep hb2)
  clear hb2 HX HA
  go_wp2_with (first | fail | refine bld31zL rfl rfl ?_ | refine st31 rfl (.tmp 4) (.tmp 10) rfl _ S0 R0 rfl rfl _ H2.out.res ?_)
  refine bodyPost_ret (results_s2 rfl _ _ _ _ rfl (H2.out.res.rowSet (sA_len _ _))) rfl ?_
  exact ⟨R0, rfl, sr_zero _, frm_zero _ _, below_setRow H2.out.fr.bel (Nat.le_succ _)⟩
end Go.Proofs.Ytejcahkkpednfaa
