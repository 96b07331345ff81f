/-
  What the program tells: Touch.
  What the program tells: Drop, Kept, New.
-/
import Derived.Test.YtejcahkkpednfaaG24
import Derived.Deep.RegionHeld3
namespace Go.Proofs.Ytejcahkkpednfaa
open Go.RowKit
open Go.Proofs.StackM (Pg Cf Ct St up many fnd fnd_at fnd_no)
open Go.Proofs.WheelM
set_option linter.unusedVariables false
theorem kpt_kdl {s : St} {k z : Int} (hz : z = kdl s.pg k) : decide (z = 1 ∨ z = 2) = decide (KptW s k) := by
  rw [hz, kdl_is]; rfl
set_option maxHeartbeats 2000000 in
set_option maxRecDepth 100000 in
theorem ptouch_no (s : St) (r : R3) (k : Int) (h : Rg s) (hl : Lim s 10000) (hk : Kw s) (w : World) (hr : SR w s r) (hkp : ¬ KptW s k) : Calls Try.prog 11 #[sV s r, .int .u64 k] w (S2Post w r s false) := by
  have x := F2.start hr
  obtain ⟨w1, hw1⟩ : ∃ w1, w1 = (w.alloc (.cells (sA s r) 31)).alloc (.cells (sA S0 R0) 31) := ⟨_, rfl⟩
  rw [← hw1] at x
  have hA : (w.alloc (.cells (sA s r) 31)).alloc (.cells #[.int .i64 0, .int .i64 0, .int .i64 0, .int .i64 0, .int .i64 0, .slice none 0 0, .slice none 0 0, .slice none 0 0, .int .i64 0, .int .i64 0, .int .u64 0, .int .u64 0, .int .u64 0, .int .u64 0, .int .u64 0, .int .u64 0, .int .u64 0, .int .u64 0, .int .u64 0, .int .u64 0] 31) = w1 := hw1.symm
  have HA := Lib.hid hA
  have HX := Lib.hid x
  have HL := Lib.hid (And.intro h (And.intro hl (And.intro hk hkp)))
  clear hkp
  clear x hw1 hA hl hr h hk
  show Calls Try.prog 11 #[sV s r, .int .u64 k] w fun e w' => S2Post w r s false e w'
  go_enter Try.func11, Try.ntmps11
  go_wp2_with (first | fail | (rw [HA.out]; refine ld31 rfl (.tmp 2) rfl _ rfl _ HX.out.fr.box ?_))
  refine (right_yes s r HL.out.1 (HL.out.2.1.up (by omega)) HL.out.2.2.1 w1 HX.out.fr.rows).mono ?_
  rintro e w2 ⟨rfl, hb2⟩
  have H2 := Lib.hid (HX.out.keep hb2)
  clear hb2 HX HA
  go_wp2_with (first | fail | refine ld31 rfl (.tmp 2) rfl _ rfl _ H2.out.fr.box ?_)
  refine (begin_at s r (HL.out.2.1.up (by omega)) w2 H2.out.fr.rows).mono ?_
  rintro e w3 ⟨B, r3, A3, c3, rfl, hwk, hb3⟩
  have x3 := H2.out.keep hb3
  obtain ⟨lo, hlo⟩ : ∃ lo, lo = w2.heap.size := ⟨_, rfl⟩
  rw [← hlo] at hwk hb3
  have H3 : Hid (WK lo w3 B s r3 A3 c3 [] ∧ TF w lo w3) := Lib.hid ⟨hwk, x3.res, x3.fr.bel, by rw [hlo]; exact H2.out.fr.hi⟩
  have d5 := hwk.at5
  have C34 := kindOf_at s.pg k r3.a1 s.pg.length r3.c1 rfl (by have := (rg_lim HL.out.1).1; omega) w3 hwk.prow
  obtain ⟨z, hz⟩ : ∃ z, z = kdl s.pg k := ⟨_, rfl⟩
  rw [← hz] at C34
  have CK := Lib.hid C34
  have HZ := Lib.hid hz
  clear hwk hb3 x3 hlo H2 C34 hz
  go_wp2_with fail
  refine CK.out.mono ?_
  rintro e w4 ⟨rfl, hb4⟩
  have H4 : Hid (WK lo w4 B s r3 A3 c3 [] ∧ TF w lo w4) := Lib.hid ⟨H3.out.1.kept hb4, H3.out.2.keep (hb4.mono H3.out.1.low)⟩
  clear hb4 H3 d5 CK
  go_wp2_with fail
  have CI := iskept_at z w4
  rw [kpt_kdl HZ.out, decide_eq_false HL.out.2.2.2] at CI
  have CII := Lib.hid CI
  clear CI
  refine CII.out.mono ?_
  rintro e w5 ⟨rfl, rfl⟩
  go_wp2_with (first | fail | refine ldK rfl (.tmp 24) rfl rfl H4.out.1 ?_ | refine st31 rfl (.tmp 4) (.tmp 25) rfl _ s r3 rfl rfl _ H4.out.2.res ?_)
  refine bodyPost_ret (results_s2 rfl _ _ _ _ rfl (H4.out.2.res.rowSet (sA_len _ _))) rfl ?_
  exact H4.out.2.ret2 H4.out.1 r false
theorem touch_is {s : St} {k : Int} (hkp : KptW s k) : ∃ i p, fnd s.pg k = some i ∧ s.pg[i]? = some p ∧ touchW s k = { hitW s with pg := s.pg.set i { p with mark := true } } := by
  unfold KptW isW at hkp
  cases hf : fnd s.pg k with
  | none => rw [hf] at hkp; exact hkp.elim (fun h => absurd (show (0 : Int) = 1 from h) (by decide)) (fun h => absurd (show (0 : Int) = 2 from h) (by decide))
  | some i =>
    obtain ⟨p, hp, _⟩ := fnd_page hf
    refine ⟨i, p, rfl, hp, ?_⟩
    have hk2 : KptW s k := by unfold KptW isW; exact hkp
    unfold touchW
    rw [if_pos hk2, hf]
    dsimp only
    rw [hp]
set_option maxHeartbeats 4000000 in
set_option maxRecDepth 100000 in
theorem ptouch_yes (s : St) (r : R3) (k : Int) (h : Rg s) (hl : Lim s 10000) (hk : Kw s) (w : World) (hr : SR w s r) (hkp : KptW s k) : Calls Try.prog 11 #[sV s r, .int .u64 k] w (S2Post w r (touchW s k) true) := by
  have x := F2.start hr
  obtain ⟨w1, hw1⟩ : ∃ w1, w1 = (w.alloc (.cells (sA s r) 31)).alloc (.cells (sA S0 R0) 31) := ⟨_, rfl⟩
  rw [← hw1] at x
  have hA : (w.alloc (.cells (sA s r) 31)).alloc (.cells #[.int .i64 0, .int .i64 0, .int .i64 0, .int .i64 0, .int .i64 0, .slice none 0 0, .slice none 0 0, .slice none 0 0, .int .i64 0, .int .i64 0, .int .u64 0, .int .u64 0, .int .u64 0, .int .u64 0, .int .u64 0, .int .u64 0, .int .u64 0, .int .u64 0, .int .u64 0, .int .u64 0] 31) = w1 := hw1.symm
  have HA := Lib.hid hA
  have HX := Lib.hid x
  have HL := Lib.hid (And.intro h (And.intro hl (And.intro hk hkp)))
  clear hkp
  clear x hw1 hA hl hr h hk
  show Calls Try.prog 11 #[sV s r, .int .u64 k] w fun e w' => S2Post w r (touchW s k) true e w'
  go_enter Try.func11, Try.ntmps11
  go_wp2_with (first | fail | (rw [HA.out]; refine ld31 rfl (.tmp 2) rfl _ rfl _ HX.out.fr.box ?_))
  refine (right_yes s r HL.out.1 (HL.out.2.1.up (by omega)) HL.out.2.2.1 w1 HX.out.fr.rows).mono ?_
  rintro e w2 ⟨rfl, hb2⟩
  have H2 := Lib.hid (HX.out.keep hb2)
  clear hb2 HX HA
  go_wp2_with (first | fail | refine ld31 rfl (.tmp 2) rfl _ rfl _ H2.out.fr.box ?_)
  refine (begin_at s r (HL.out.2.1.up (by omega)) w2 H2.out.fr.rows).mono ?_
  rintro e w3 ⟨B, r3, A3, c3, rfl, hwk, hb3⟩
  have x3 := H2.out.keep hb3
  obtain ⟨lo, hlo⟩ : ∃ lo, lo = w2.heap.size := ⟨_, rfl⟩
  rw [← hlo] at hwk hb3
  have H3 : Hid (WK lo w3 B s r3 A3 c3 [] ∧ TF w lo w3) := Lib.hid ⟨hwk, x3.res, x3.fr.bel, by rw [hlo]; exact H2.out.fr.hi⟩
  have d5 := hwk.at5
  have C34 := kindOf_at s.pg k r3.a1 s.pg.length r3.c1 rfl (by have := (rg_lim HL.out.1).1; omega) w3 hwk.prow
  obtain ⟨z, hz⟩ : ∃ z, z = kdl s.pg k := ⟨_, rfl⟩
  rw [← hz] at C34
  have CK := Lib.hid C34
  have HZ := Lib.hid hz
  clear hwk hb3 x3 hlo H2 C34 hz
  go_wp2_with fail
  refine CK.out.mono ?_
  rintro e w4 ⟨rfl, hb4⟩
  have H4 : Hid (WK lo w4 B s r3 A3 c3 [] ∧ TF w lo w4) := Lib.hid ⟨H3.out.1.kept hb4, H3.out.2.keep (hb4.mono H3.out.1.low)⟩
  clear hb4 H3 d5 CK
  go_wp2_with fail
  have CI := iskept_at z w4
  rw [kpt_kdl HZ.out, decide_eq_true HL.out.2.2.2] at CI
  have CII := Lib.hid CI
  clear CI
  refine CII.out.mono ?_
  rintro e w5 ⟨rfl, hw5⟩
  subst hw5
  have d10 := H4.out.1.at10
  have f10 := H4.out.1.free 10
  have hup := wrap_up s.ct.hi
  have h5 := H4.out.1.ct10 (up s.ct.hi)
  obtain ⟨w6, hw6⟩ : ∃ w6, w6 = w5.setCell ⟨B, 10, none⟩ (.int .u64 (up s.ct.hi)) := ⟨_, rfl⟩
  rw [← hw6] at h5
  have hb6 : Below lo w5 w6 := by rw [hw6]; exact H4.out.1.set1 10 _
  obtain ⟨i, p, hf, hp, hE⟩ := touch_is HL.out.2.2.2
  obtain ⟨hlt, hpi⟩ := List.getElem?_eq_some_iff.1 hp
  obtain ⟨g, ha, hx1⟩ := h5.page (i := i) hlt
  clear hx1
  have H6 : Hid (WK lo w6 B (hitW s) r3 A3 c3 [] ∧ TF w lo w6) := Lib.hid ⟨h5, H4.out.2.keep hb6⟩
  have HW := Lib.hid hw6
  have HP := Lib.hid (And.intro hf (And.intro hp (And.intro hE (And.intro hlt ha))))
  have e5 : ∀ V, Below w6.heap.size w6 V → V.cell? ⟨B, 5, none⟩ = some (.slice (some ⟨g, 0, none⟩) s.pg.length r3.c1) := fun V hV => by have := (H6.out.1.kept hV).at5; rw [ha] at this; exact this
  have emk : ∀ V, Below w6.heap.size w6 V → V.cell? ⟨g, i * 4 + 3, none⟩ = some (.bool p.mark) ∧ V.frozen? ⟨g, i * 4 + 3, none⟩ = false := fun V hV => by
    obtain ⟨g9, ha9, _, _, _, _, q3, fz⟩ := (H6.out.1.kept hV).page (i := i) HP.out.2.2.2.1
    obtain rfl : g = g9 := by have h9 := HP.out.2.2.2.2; rw [h9] at ha9; injection ha9 with h; injection h
    have e9 : s.pg[i]'HP.out.2.2.2.1 = p := (List.getElem?_eq_some_iff.1 HP.out.2.1).2
    refine ⟨?_, fz _⟩
    rw [q3]
    exact congrArg (fun x : Pg => some (Value.bool x.mark)) e9
  have C35 : Hid (∀ V, Below w6.heap.size w6 V → Calls Try.prog 35 #[.slice (some ⟨g, 0, none⟩) s.pg.length r3.c1, .int .u64 k] V fun e w' => e = .returned (.int .i64 (i : Int)) ∧ Below V.heap.size V w') := Lib.hid (fun V hV => by
    have h9 := place_at s.pg k r3.a1 s.pg.length r3.c1 rfl (by have := (rg_lim HL.out.1).1; omega) V (H6.out.1.kept hV).prow
    unfold fi at h9
    rw [HP.out.1, HP.out.2.2.2.2] at h9
    exact h9)
  have HEE := Lib.hid (And.intro e5 emk)
  have HY : Hid (∀ h9 : i < s.pg.length, (penc (s.pg[i]'h9)).set 3 (.bool true) = penc { p with mark := true }) := Lib.hid (fun h9 => by rw [hpi]; rfl)
  have x5 := e5 w6 (Below.refl _ _)
  have hn := hlt
  obtain ⟨n, hnn⟩ : ∃ n, n = s.pg.length := ⟨_, rfl⟩
  rw [← hnn] at C35 hn x5 HEE
  have z0 : (0 : Int) ≤ (i : Int) := by omega
  have z1 : (i : Int) < (n : Int) := by omega
  clear h5 hw6 hb6 hf hp hE hlt hpi ha H4 CII e5 emk hnn
  go_wp2_with fail
  rw [← HW.out]
  go_region_with (go_at_call 35; refine (C35.out _ (below_drew (Below.refl _ _) 1)).mono ?_; rintro e w7 ⟨rfl, hb7⟩; have hb7' : Below w6.heap.size w6 w7 := (below_drew (Below.refl _ _) 1).trans (hb7.mono (Nat.le_refl _)); have y5 := HEE.out.1 w7 hb7'; have ym := HEE.out.2 w7 hb7'; obtain ⟨ym1, ym2⟩ := ym)
  all_goals
    have h7 := (H6.out.1.kept hb7').pageSet (i := i) (j := 3) HP.out.2.2.2.1 HP.out.2.2.2.2 (by omega) (.bool true) { p with mark := true } (HY.out HP.out.2.2.2.1)
    obtain ⟨w8, hw8⟩ : ∃ w8, w8 = w7.setCell ⟨g, i * 4 + 3, none⟩ (.bool true) := ⟨_, rfl⟩
    rw [← hw8] at h7
    have H8 : Hid (WK lo w8 B (touchW s k) r3 A3 c3 [] ∧ TF w lo w8) := Lib.hid ⟨by rw [HP.out.2.2.1]; exact h7.1, H6.out.2.keep ((hb7'.mono H6.out.1.low).trans h7.2)⟩
    have HW8 := Lib.hid hw8
    clear h7 hw8 hb7 hb7' y5 ym1 ym2
    rw [← HW8.out]
    go_wp2_with (first | fail | refine ldK rfl (.tmp 53) rfl rfl H8.out.1 ?_ | refine st31 rfl (.tmp 4) (.tmp 54) rfl _ (touchW s k) r3 rfl rfl _ H8.out.2.res ?_)
    refine bodyPost_ret (results_s2 rfl _ _ _ _ rfl (H8.out.2.res.rowSet (sA_len _ _))) rfl ?_
    exact H8.out.2.ret2 H8.out.1 r true
theorem ptouch_at (s : St) (r : R3) (k : Int) (h : Rg s) (hl : Lim s 10000) (hk : Kw s) (w : World) (hr : SR w s r) : Calls Try.prog 11 #[sV s r, .int .u64 k] w (S2Post w r (touchW s k) (decide (KptW s k))) := by
  by_cases hkp : KptW s k
  · rw [decide_eq_true hkp]; exact ptouch_yes s r k h hl hk w hr hkp
  · rw [decide_eq_false hkp, show touchW s k = s by unfold touchW; rw [if_neg hkp]]; exact ptouch_no s r k h hl hk w hr hkp
end Go.Proofs.Ytejcahkkpednfaa
namespace Go.Proofs.Ytejcahkkpednfaa
open Go.RowKit
open Go.Proofs.StackM (Pg Cf Ct St up many fnd fnd_at fnd_no)
open Go.Proofs.WheelM
set_option linter.unusedVariables false
section
variable {lo B c : Nat} {w w1 w2 : World} {s s0 : St} {r r0 : R3} {A : Option Addr} {ev : List Int}
theorem get_laws : (∀ (l : List Oper) (i : Nat), l.toArray[i]? = l[i]?) ∧ (∀ (x : Oper) (l : List Oper), (x :: l)[0]? = some x) ∧ (∀ (x : Oper) (l : List Oper) (i : Nat), (x :: l)[i + 1]? = l[i]?) := ⟨fun _ _ => by simp, fun _ _ => rfl, fun _ _ _ => rfl⟩
theorem execW {o : Oper} {a : Act} {w : World} {B n c : Nat} {s : St} {r : R3} {A : Option Addr} (x : Operand) (ho : o.op = .load 31 x) (hx : a.eval x = .pointer (some ⟨B, 0, none⟩)) (h : w.heap[B]? = some (.cells (spA s r A n c) 72 (0, 0))) : (execOp a.eval o).run Try.prog w = .ok (.value (sV s r)) w := by
  have hr : w.rangeAt B 0 (sA s r).toList := fun j v hv => by
    rw [cell_of_row (w := w) B (0 + j) _ 72 (0, 0) h, Nat.zero_add, spA]
    have hj : j < (sA s r).size := by
      have := (List.getElem?_eq_some_iff.1 hv).1
      simpa using this
    rw [Array.getElem?_push_lt hj]
    have hv' : (sA s r)[j]? = some v := by simpa using hv
    rw [← hv', Array.getElem?_eq_getElem hj]
  have := run_loadAt_mid (P := Try.prog) w B 0 31 (sA s r).toList _ hr Try.underlying31 rfl (by rw [info31]; rfl)
  simp only [Array.toArray_toList] at this
  simp [execOp, ho, hx, this]
theorem row68 {w : World} {B n c : Nat} {s : St} {r : R3} {A : Option Addr} (h : w.heap[B]? = some (.cells (spA s r A n c) 72 (0, 0))) : w.cell? ⟨B, 20, none⟩ = some (.slice A n c) := by
  rw [cell_of_head h]; rfl
theorem TF.ret3 (x : TF w lo w1) (h : WK lo w1 B s r A c ev) (r0 : R3) (b : Bool) : S3Post w r0 s ev b (.returned (.tuple #[sV s r, .slice A ev.length c, .bool b])) (w1.setRow (w.heap.size + 1) (sA s r)) :=
  ⟨r, A, _, c, rfl, rfl, sr_row3 h.sr h.up (by have := x.lo; omega) _, ⟨vrow_row h.erow (fun a e => by have := (h.rows.ev.lt a.block (by rw [e]; rfl)).1; have := x.lo; omega), fun a e => by rw [size_setRow]; exact (h.rows.ev.lt a.block (by rw [e]; rfl)).2, owns_cap h.rows.ev⟩, fun a e => by have := (h.rows.ev.lt a.block (by rw [e]; rfl)).1; have := x.lo; omega, h.frm _ (by have := x.lo; omega) r0, below_setRow x.bel (Nat.le_succ _)⟩
theorem ur_nil (w : World) : UR w none 0 [] := ⟨.inl ⟨rfl, rfl, rfl⟩, fun a e => (by cases e), Nat.le_refl _⟩
theorem TF.ret3n (x : TF w lo w1) (h : WK lo w1 B s r A c ev) (r0 : R3) (b : Bool) : S3Post w r0 s [] b (.returned (.tuple #[sV s r, .slice none 0 0, .bool b])) (w1.setRow (w.heap.size + 1) (sA s r)) :=
  ⟨r, none, 0, 0, rfl, rfl, sr_row3 h.sr h.up (by have := x.lo; omega) _, ur_nil _, fun a e => (by cases e), h.frm _ (by have := x.lo; omega) r0, below_setRow x.bel (Nat.le_succ _)⟩
end
set_option maxHeartbeats 4000000 in
set_option maxRecDepth 100000 in
theorem pdrop_at (s : St) (r : R3) (k : Int) (h : Rg s) (hl : Lim s 10000) (hk : Kw s) (w : World) (hr : SR w s r) : Calls Try.prog 13 #[sV s r, .int .u64 k] w (S2Post w r (dropW s k) (decide (KptW s k))) := by
  have x := F2.start hr
  obtain ⟨w1, hw1⟩ : ∃ w1, w1 = (w.alloc (.cells (sA s r) 31)).alloc (.cells (sA S0 R0) 31) := ⟨_, rfl⟩
  rw [← hw1] at x
  have hA : (w.alloc (.cells (sA s r) 31)).alloc (.cells #[.int .i64 0, .int .i64 0, .int .i64 0, .int .i64 0, .int .i64 0, .slice none 0 0, .slice none 0 0, .slice none 0 0, .int .i64 0, .int .i64 0, .int .u64 0, .int .u64 0, .int .u64 0, .int .u64 0, .int .u64 0, .int .u64 0, .int .u64 0, .int .u64 0, .int .u64 0, .int .u64 0] 31) = w1 := hw1.symm
  have HA := Lib.hid hA
  have HX := Lib.hid x
  have HL := Lib.hid (And.intro h (And.intro hl (And.intro hk hk)))
  clear x hw1 hA hl hr h hk
  show Calls Try.prog 13 #[sV s r, .int .u64 k] w fun e w' => S2Post w r (dropW s k) (decide (KptW s k)) e w'
  go_enter Try.func13, Try.ntmps13
  go_wp2_with (first | fail | (rw [HA.out]; refine ld31 rfl (.tmp 2) rfl _ rfl _ HX.out.fr.box ?_))
  refine (right_yes s r HL.out.1 (HL.out.2.1.up (by omega)) HL.out.2.2.1 w1 HX.out.fr.rows).mono ?_
  rintro e w2 ⟨rfl, hb2⟩
  have H2 := Lib.hid (HX.out.keep hb2)
  clear hb2 HX HA
  go_wp2_with (first | fail | refine ld31 rfl (.tmp 2) rfl _ rfl _ H2.out.fr.box ?_)
  refine (begin_at s r (HL.out.2.1.up (by omega)) w2 H2.out.fr.rows).mono ?_
  rintro e w3 ⟨B, r3, A3, c3, rfl, hwk, hb3⟩
  have x3 := H2.out.keep hb3
  obtain ⟨lo, hlo⟩ : ∃ lo, lo = w2.heap.size := ⟨_, rfl⟩
  rw [← hlo] at hwk hb3
  have H3 : Hid (WK lo w3 B s r3 A3 c3 [] ∧ TF w lo w3) := Lib.hid ⟨hwk, x3.res, x3.fr.bel, by rw [hlo]; exact H2.out.fr.hi⟩
  have d5 := hwk.at5
  have C34 := kindOf_at s.pg k r3.a1 s.pg.length r3.c1 rfl (by have := (rg_lim HL.out.1).1; omega) w3 hwk.prow
  obtain ⟨z, hz⟩ : ∃ z, z = kdl s.pg k := ⟨_, rfl⟩
  rw [← hz] at C34
  have CK := Lib.hid C34
  have HZ := Lib.hid hz
  clear hwk hb3 x3 hlo H2 C34 hz
  have C35 := place_at s.pg k r3.a1 s.pg.length r3.c1 rfl (by have := (rg_lim HL.out.1).1; omega)
  go_wp2_with fail
  refine CK.out.mono ?_
  rintro e w4 ⟨rfl, hb4⟩
  have H4 : Hid (WK lo w4 B s r3 A3 c3 [] ∧ TF w lo w4) := Lib.hid ⟨H3.out.1.kept hb4, H3.out.2.keep (hb4.mono H3.out.1.low)⟩
  have CP := C35 w4 H4.out.1.prow
  have CPP := Lib.hid CP
  have u5 := H4.out.1.at5
  clear hb4 H3 d5 CK C35 CP
  obtain ⟨b, hb⟩ : ∃ b, b = decide (KptW s k) := ⟨_, rfl⟩
  have HBB := Lib.hid hb
  clear hb
  cases hf : fnd s.pg k with
  | none =>
    have hz0 : z = 0 := by rw [HZ.out]; unfold kdl; rw [hf]
    have hdr : dropW s k = s := by unfold dropW; rw [hf]
    subst hz0
    have CI := fun W => iskept_at 0 W
    rw [kpt_kdl HZ.out, ← HBB.out] at CI
    have HDR := Lib.hid hdr
    clear hf hdr CPP u5
    go_wp2_with fail
    have CII := Lib.hid (CI w4.drew)
    clear CI
    have hbd : Below w4.heap.size w4 w4.drew := below_drew (Below.refl _ _) 1
    have HD : Hid (WK lo w4.drew B s r3 A3 c3 [] ∧ TF w lo w4.drew) := Lib.hid ⟨H4.out.1.kept hbd, H4.out.2.keep (hbd.mono H4.out.1.low)⟩
    clear hbd
    refine wp_region_held_drew (S := fun W' => W'.heap[B]? = some (.cells (spA s r3 A3 0 c3) 72 (0, 0))) (by kernel_rfl) HD.out.1.box (fun hHeld => ?_)
    generalize World.drew w4 = wd at hHeld HD CII ⊢
    refine wpAnyH_take (i := 0) (v := ?tv1) (by simp only [get_laws]; rfl) (by kernel_rfl) (by kernel_rfl) (by kernel_rfl) (by intro _ _ _ h; exact h) (Or.inl ⟨by rfl, ?te1⟩) (by assumption) ?tr1
    case te1 => (intro w0 _; go_simp; with_reducible rfl)
    try simp only [put_laws]
    refine wpAnyH_take (i := 1) (v := ?tv2) (by simp only [get_laws]; rfl) (by kernel_rfl) (by kernel_rfl) (by kernel_rfl) (by intro _ _ _ h; exact h) (Or.inl ⟨by rfl, ?te2⟩) (by assumption) ?tr2
    case te2 => (intro w0 _; go_simp; with_reducible rfl)
    try simp only [put_laws]
    refine wpAnyH_take (i := 2) (v := ?tv3) (by simp only [get_laws]; rfl) (by kernel_rfl) (by kernel_rfl) (by kernel_rfl) (by intro _ _ _ h; exact h) (Or.inl ⟨by rfl, ?te3⟩) (by assumption) ?tr3
    case te3 => (intro w0 _; go_simp; with_reducible rfl)
    try simp only [put_laws]
    refine wpAnyH_take (i := 3) (v := ?tv4) (by simp only [get_laws]; rfl) (by kernel_rfl) (by kernel_rfl) (by kernel_rfl) (by intro _ _ _ h; exact h) (Or.inl ⟨by rfl, ?te4⟩) (by assumption) ?tr4
    case te4 => (intro w0 q; refine execW (.tmp 34) ?_ ?_ q <;> rfl)
    try simp only [put_laws]
    refine wpAnyH_take (i := 4) (v := ?tv5) (by simp only [get_laws]; rfl) (by kernel_rfl) (by kernel_rfl) (by kernel_rfl) (by intro _ _ _ h; exact h) (Or.inl ⟨by rfl, ?te5⟩) (by assumption) ?tr5
    case te5 => (intro w0 _; go_simp; with_reducible rfl)
    try simp only [put_laws]
    refine wpAnyH_ready (rs := [5]) (by kernel_rfl) (by simp) ?_
    refine AllReadyH.cons rfl (fun K hK => ?_) AllReadyH.nil
    go_simp
    go_at_call 33
    refine CII.out.mono ?_
    rintro e w9 ⟨rfl, hw9⟩
    subst hw9
    refine hK.out _ _ hHeld (fun hHeld => ?_)
    clear hK K
    try simp only [put_laws]
    refine wpAnyH_ready (rs := [6]) (by kernel_rfl) (by simp) ?_
    refine AllReadyH.cons rfl (fun K hK => ?_) AllReadyH.nil
    refine step31 rfl (.tmp 4) (.tmp 35) rfl _ s r3 rfl rfl _ HD.out.2.res ?_
    have hRB : w.heap.size + 1 ≠ B := by have := HD.out.1.hlo; have := HD.out.2.lo; omega
    refine hK.out _ _ (by rw [setRow_other _ _ B _ (fun e => hRB e.symm)]; exact HD.out.1.box) (fun hHeld => ?_)
    clear hK K
    try simp only [put_laws]
    refine wpAnyH_ready (rs := [7]) (by kernel_rfl) (by simp) ?_
    refine AllReadyH.cons rfl (fun K hK => ?_) AllReadyH.nil
    go_simp
    refine hK.out _ _ hHeld (fun hHeld => ?_)
    clear hK K
    try simp only [put_laws]
    clear hHeld
    refine wpAnyH_done (by kernel_rfl) ?_ _
    go_wp2_with fail
    refine bodyPost_ret (results_s2 rfl _ _ _ _ rfl (HD.out.2.res.rowSet (sA_len _ _))) rfl ?_
    show S2Post w r (dropW s k) (decide (KptW s k)) _ _
    rw [← HBB.out, HDR.out]
    exact HD.out.2.ret2 HD.out.1 r b
  | some i =>
    obtain ⟨p, hp, hpk, hpm⟩ := fnd_page hf
    have hzk : z = p.kind := by rw [HZ.out, kdl_is]; exact isW_at hf hp
    have hz0 : ¬ z = 0 := by
      rw [hzk]; have := HL.out.1.w.pk p hpm; unfold Pok at this; omega
    have hz0' : (z == 0) = false := by simpa using hz0
    have hdr : dropW s k = leave s i := by unfold dropW; rw [hf]
    have hlt := fnd_lt hf
    have C9 : Calls Try.prog 35 #[.slice r3.a1 s.pg.length r3.c1, .int .u64 k] w4 fun e w' => e = .returned (.int .i64 (i : Int)) ∧ Below w4.heap.size w4 w' := by
      have h9 := CPP.out
      unfold fi at h9
      rw [hf] at h9
      exact h9
    have C35 := Lib.hid C9
    have HI := Lib.hid hlt
    have CI := fun W => iskept_at z W
    rw [kpt_kdl HZ.out, ← HBB.out] at CI
    have CIJ := Lib.hid CI
    have HDR := Lib.hid hdr
    clear hf hdr CPP hp hpk hpm hzk hz0 C9 hlt CI
    go_wp2_with fail
    refine C35.out.mono ?_
    rintro e w5 ⟨rfl, hb5⟩
    have H5 : Hid (WK lo w5 B s r3 A3 c3 [] ∧ TF w lo w5) := Lib.hid ⟨H4.out.1.kept hb5, H4.out.2.keep (hb5.mono H4.out.1.low)⟩
    have CL := Lib.hid (pleave_at H5.out.1 i HI.out (by have := (rg_lim HL.out.1).1; omega) HL.out.1.w.hc HL.out.1.w.ht)
    clear hb5 H4 C35 u5
    go_wp2_with fail
    refine CL.out.mono ?_
    rintro e w6 ⟨rfl, r6, A6, c6, h6, hb6⟩
    have H6 : Hid (WK lo w6 B (leave s i) r6 A6 c6 [] ∧ TF w lo w6) := Lib.hid ⟨h6, H5.out.2.keep hb6⟩
    clear h6 hb6 H5 CL
    go_wp2_with fail
    have CII := Lib.hid (CIJ.out w6.drew)
    have hbd : Below w6.heap.size w6 w6.drew := below_drew (Below.refl _ _) 1
    have HD : Hid (WK lo w6.drew B (leave s i) r6 A6 c6 [] ∧ TF w lo w6.drew) := Lib.hid ⟨H6.out.1.kept hbd, H6.out.2.keep (hbd.mono H6.out.1.low)⟩
    clear hbd
    refine wp_region_held_drew (S := fun W' => W'.heap[B]? = some (.cells (spA (leave s i) r6 A6 0 c6) 72 (0, 0))) (by kernel_rfl) HD.out.1.box (fun hHeld => ?_)
    generalize World.drew w6 = wd at hHeld HD CII ⊢
    refine wpAnyH_take (i := 0) (v := ?tv6) (by simp only [get_laws]; rfl) (by kernel_rfl) (by kernel_rfl) (by kernel_rfl) (by intro _ _ _ h; exact h) (Or.inl ⟨by rfl, ?te6⟩) (by assumption) ?tr6
    case te6 => (intro w0 _; go_simp; with_reducible rfl)
    try simp only [put_laws]
    refine wpAnyH_take (i := 1) (v := ?tv7) (by simp only [get_laws]; rfl) (by kernel_rfl) (by kernel_rfl) (by kernel_rfl) (by intro _ _ _ h; exact h) (Or.inl ⟨by rfl, ?te7⟩) (by assumption) ?tr7
    case te7 => (intro w0 _; go_simp; with_reducible rfl)
    try simp only [put_laws]
    refine wpAnyH_take (i := 2) (v := ?tv8) (by simp only [get_laws]; rfl) (by kernel_rfl) (by kernel_rfl) (by kernel_rfl) (by intro _ _ _ h; exact h) (Or.inl ⟨by rfl, ?te8⟩) (by assumption) ?tr8
    case te8 => (intro w0 _; go_simp; with_reducible rfl)
    try simp only [put_laws]
    refine wpAnyH_take (i := 3) (v := ?tv9) (by simp only [get_laws]; rfl) (by kernel_rfl) (by kernel_rfl) (by kernel_rfl) (by intro _ _ _ h; exact h) (Or.inl ⟨by rfl, ?te9⟩) (by assumption) ?tr9
    case te9 => (intro w0 q; refine execW (.tmp 34) ?_ ?_ q <;> rfl)
    try simp only [put_laws]
    refine wpAnyH_take (i := 4) (v := ?tv10) (by simp only [get_laws]; rfl) (by kernel_rfl) (by kernel_rfl) (by kernel_rfl) (by intro _ _ _ h; exact h) (Or.inl ⟨by rfl, ?te10⟩) (by assumption) ?tr10
    case te10 => (intro w0 _; go_simp; with_reducible rfl)
    try simp only [put_laws]
    refine wpAnyH_ready (rs := [5]) (by kernel_rfl) (by simp) ?_
    refine AllReadyH.cons rfl (fun K hK => ?_) AllReadyH.nil
    go_simp
    go_at_call 33
    refine CII.out.mono ?_
    rintro e w9 ⟨rfl, hw9⟩
    subst hw9
    refine hK.out _ _ hHeld (fun hHeld => ?_)
    clear hK K
    try simp only [put_laws]
    refine wpAnyH_ready (rs := [6]) (by kernel_rfl) (by simp) ?_
    refine AllReadyH.cons rfl (fun K hK => ?_) AllReadyH.nil
    refine step31 rfl (.tmp 4) (.tmp 35) rfl _ (leave s i) r6 rfl rfl _ HD.out.2.res ?_
    have hRB : w.heap.size + 1 ≠ B := by have := HD.out.1.hlo; have := HD.out.2.lo; omega
    refine hK.out _ _ (by rw [setRow_other _ _ B _ (fun e => hRB e.symm)]; exact HD.out.1.box) (fun hHeld => ?_)
    clear hK K
    try simp only [put_laws]
    refine wpAnyH_ready (rs := [7]) (by kernel_rfl) (by simp) ?_
    refine AllReadyH.cons rfl (fun K hK => ?_) AllReadyH.nil
    go_simp
    refine hK.out _ _ hHeld (fun hHeld => ?_)
    clear hK K
    try simp only [put_laws]
    clear hHeld
    refine wpAnyH_done (by kernel_rfl) ?_ _
    go_wp2_with fail
    refine bodyPost_ret (results_s2 rfl _ _ _ _ rfl (HD.out.2.res.rowSet (sA_len _ _))) rfl ?_
    show S2Post w r (dropW s k) (decide (KptW s k)) _ _
    rw [← HBB.out, HDR.out]
    exact HD.out.2.ret2 HD.out.1 r b
end Go.Proofs.Ytejcahkkpednfaa
