/-
  Law StackScan: the walk.
-/
import Derived.Test.YtifenpmkbnohhaaG20
namespace Go.Proofs.Ytifenpmkbnohhaa
open Go.RowKit
open Go.Proofs.StackM
set_option linter.unusedVariables false
/-- two states' boxes: the one that was handed in, the one that the scan goes on with -/
structure B2 (w0 w : World) (b b7 : Nat) (s : St) (r : R3) (x : St) (rx : R3) : Prop where
  one : BS w0 w b s r
  two : BS w0 w b7 x rx
  ap : Ap b7 r
  ne : b ≠ b7
theorem B2.keep {w0 w w' : World} {b b7 : Nat} {s x : St} {r rx : R3} (h : B2 w0 w b b7 s r x rx) (hb : Below w.heap.size w w') : B2 w0 w' b b7 s r x rx := ⟨h.one.keep hb, h.two.keep hb, h.ap, h.ne⟩
theorem BS.other {w0 w w1 : World} {b b7 : Nat} {s : St} {r : R3} (x : BS w0 w b s r) (hb : Below w.heap.size w w1) (hap : Ap b7 r) (hne : b ≠ b7) (hlo : w0.heap.size ≤ b7) (cs : Array Value) : BS w0 (w1.setRow b7 cs) b s r :=
  ⟨(x.box.kept hb x.box.lt).other (Ne.symm hne) _, (x.rows.kept hb).apRow hap, x.ap, below_setRow (x.bel.trans (hb.mono x.bel.size)) hlo, x.lo⟩
theorem B2.put {w0 w w1 : World} {b b7 : Nat} {s x y : St} {r rx ry : R3} (h : B2 w0 w b b7 s r x rx) (hb : Below w.heap.size w w1) (hr : SR w1 y ry) (hf : Frm w.heap.size rx ry) : B2 w0 (w1.setRow b7 (sA y ry)) b b7 s r y ry :=
  ⟨h.one.other hb h.ap h.ne h.two.lo _, h.two.put hb hr hf, h.ap, h.ne⟩
/-- what the scan leaves -/
structure Sc (s x : St) : Prop where
  rg : Rg x
  kw : Kw x
  h : H x = H s
  cf : x.cf = s.cf
  ra : x.ct.ra = s.ct.ra
  lo : x.ct.lo = s.ct.lo
  hot : ∀ k, Hot s k → Hot x k
theorem Sc.step {s x : St} (h : Sc s x) (hfull : ¬ Rm s) {k : Int} (hk : K64 k) (h0 : kOf x k = 0) : Sc s (admit x k) ∧ kOf (admit x k) k = 2 ∧ ¬ Kpt x k := by
  have hf : ¬ Rm x := by
    have hh := h.h
    unfold Rm at *
    rw [h.cf, show many x.pg 1 = many s.pg 1 from hh]
    exact hfull
  obtain ⟨a1, a2, a3, a4, a5, a6, a7⟩ := scan_step h.rg hf h0
  exact ⟨⟨a1, kw_admit h.kw hk, a3.trans h.h, a4.trans h.cf, a5.trans h.ra, a6.trans h.lo, fun x hx => a7 x (h.hot x hx)⟩, a2, fun hc => by unfold Kpt at hc; rw [h0] at hc; omega⟩
theorem hot_kof {s : St} (h : Rg s) {k : Int} (hh : Hot s k) : kOf s k = 1 := by
  obtain ⟨p, hp, e1, e2⟩ := hh
  rw [kOf_page h.wk hp e1, e2]
theorem k64_wrap (z : Int) : K64 (IntKind.u64.wrap z) := by
  have h : IntKind.u64.wrap z = z % 18446744073709551616 := by simp [IntKind.wrap, IntKind.signed, IntKind.bits]
  rw [h]; unfold K64; omega
set_option maxHeartbeats 2000000 in
set_option maxRecDepth 100000 in
theorem stackScan_law (s : St) (r : R3) (f m8 : Int) (hk : Kw s) (hf : (Lit.int .u64 f).wf = true) (hm8 : (Lit.int .u8 m8).wf = true) (w : World) (hr : SR w s r) : Calls Try.prog 6 #[sV s r, .int .u64 f, .int .u8 m8] w fun e w' => e = .returned (.bool true) ∧ Below w.heap.size w w' := by
  have hf2 : 0 ≤ f ∧ f < 18446744073709551616 := by have := Go.bounds_u64 hf; omega
  have hm2 : 0 ≤ m8 ∧ m8 < 256 := by have := Go.bounds_u8 hm8; omega
  obtain ⟨w1, hw1⟩ : ∃ w1, w1 = w.alloc (.cells (sA s r) 31) := ⟨_, rfl⟩
  obtain ⟨b, hbe⟩ : ∃ b, b = w.heap.size := ⟨_, rfl⟩
  have H1 : Hid (BS w w1 b s r) := Lib.hid (by rw [hw1, hbe]; exact BS.new hr (Below.refl _ _))
  have HW := Lib.hid (And.intro hw1 hbe)
  have HK := Lib.hid hk
  have HF := Lib.hid hf2
  clear hw1 hbe hr hk hf hm8 hf2
  have QB : Hid (∀ V, (∃ p : GrB w1, V = p.v) → Box V b (sA s r)) := Lib.hid (fun V ⟨p, hp⟩ => by rw [hp]; exact (H1.out.keep p.h).box)
  have x1 : ∀ W : GrB w1, W.v.cell? ⟨b, 1, none⟩ = some (.int .i64 s.cf.c) := fun W => at1 (H1.out.keep W.h).box
  have x2 : ∀ W : GrB w1, W.v.cell? ⟨b, 2, none⟩ = some (.int .i64 s.cf.q) := fun W => at2 (H1.out.keep W.h).box
  have x5 : ∀ W : GrB w1, W.v.cell? ⟨b, 5, none⟩ = some (.slice r.a1 s.pg.length r.c1) := fun W => at5 (H1.out.keep W.h).box
  have E9 : Hid (∀ V, Below w.heap.size w V → Calls Try.prog 9 #[] V fun e w' => e = .returned (.bool true) ∧ Below w.heap.size w w') := Lib.hid (fun V hV => (alive_at V).mono fun e w' ⟨h1, h2⟩ => ⟨h1, hV.trans (h2.mono hV.size)⟩)
  go_enter Try.func6, Try.ntmps6
  by_cases hl : Lim s 60
  case neg =>
    have D8 : Hid (∀ W : GrB w1, Calls Try.prog 8 #[sV s r, .int .i64 60] W.v fun e w' => e = .returned (.bool false) ∧ ∃ W' : GrB w1, w' = W'.v) := Lib.hid (grown_call (w := w1) fun V hV => (small_at s r 60 (by omega) V).mono fun e w' ⟨e1, e2⟩ => ⟨by rw [e1, decide_eq_false hl], e2⟩)
    go_wp2_with (first | fail | rw [← HW.out.1, ← HW.out.2])
    refine region_grown (by kernel_rfl) (by kernel_rfl) ?_
    repeat (first | go_big_quiet_skip | (refine qld31q (.tmp 3) rfl (by kernel_rfl) _ rfl _ QB.out ?_; simp only [Act.put, List.setIfInBounds_toArray, List.set_cons_succ, List.set_cons_zero]) | go_big_quiet_step (first | (go_at_call 8; exact D8.out _)))
    refine wpQuiet_nil ?_
    rintro w5 ⟨⟨wz, hg5⟩, rfl⟩
    have H5 := Lib.hid (H1.out.keep hg5)
    clear hg5 QB x1 x2 x5 D8 H1
    go_wp2_with fail
    refine (E9.out _ H5.out.bel).mono ?_
    rintro e w3 ⟨rfl, hb3⟩
    go_wp2_with fail
    go_ret
    exact ⟨rfl, hb3⟩
  case pos =>
    have D8 : Hid (∀ W : GrB w1, Calls Try.prog 8 #[sV s r, .int .i64 60] W.v fun e w' => e = .returned (.bool true) ∧ ∃ W' : GrB w1, w' = W'.v) := Lib.hid (grown_call (w := w1) fun V hV => (small_at s r 60 (by omega) V).mono fun e w' ⟨e1, e2⟩ => ⟨by rw [e1, decide_eq_true hl], e2⟩)
    have HL := Lib.hid hl
    clear hl
    by_cases hrg : Rg s
    case neg =>
      have D10 : Hid (∀ W : GrB w1, Calls Try.prog 10 #[sV s r] W.v fun e w' => e = .returned (.bool false) ∧ ∃ W' : GrB w1, w' = W'.v) := Lib.hid (grown_call (w := w1) fun V hV => (right_at s r (HL.out.up (by omega)) V (H1.out.keep hV).rows).mono fun e w' ⟨e1, e2⟩ => ⟨by rw [e1, rB_false (fun h => hrg ((rt_rg s).1 h))], e2⟩)
      go_wp2_with (first | fail | rw [← HW.out.1, ← HW.out.2])
      refine region_grown (by kernel_rfl) (by kernel_rfl) ?_
      repeat (first | go_big_quiet_skip | (refine qld31q (.tmp 3) rfl (by kernel_rfl) _ rfl _ QB.out ?_; simp only [Act.put, List.setIfInBounds_toArray, List.set_cons_succ, List.set_cons_zero]) | go_big_quiet_step (first | (go_at_call 8; exact D8.out _) | (go_at_call 10; exact D10.out _)))
      refine wpQuiet_nil ?_
      rintro w5 ⟨⟨wz, hg5⟩, rfl⟩
      have H5 := Lib.hid (H1.out.keep hg5)
      clear hg5 QB x1 x2 x5 D8 D10 H1
      go_wp2_with fail
      refine (E9.out _ H5.out.bel).mono ?_
      rintro e w3 ⟨rfl, hb3⟩
      go_wp2_with fail
      go_ret
      exact ⟨rfl, hb3⟩
    case pos =>
      have D10 : Hid (∀ W : GrB w1, Calls Try.prog 10 #[sV s r] W.v fun e w' => e = .returned (.bool true) ∧ ∃ W' : GrB w1, w' = W'.v) := Lib.hid (grown_call (w := w1) fun V hV => (right_at s r (HL.out.up (by omega)) V (H1.out.keep hV).rows).mono fun e w' ⟨e1, e2⟩ => ⟨by rw [e1, rB_true ((rt_rg s).2 hrg)], e2⟩)
      obtain ⟨nh, hnh⟩ : ∃ n : Nat, n = many s.pg 1 := ⟨_, rfl⟩
      have D23 : Hid (∀ W : GrB w1, Calls Try.prog 23 #[.slice r.a1 s.pg.length r.c1, .int .i64 1] W.v fun e w' => e = .returned (.int .i64 (nh : Int)) ∧ ∃ W' : GrB w1, w' = W'.v) := Lib.hid (grown_call (w := w1) fun V hV => (many_at s.pg 1 r.a1 s.pg.length r.c1 rfl (by have := HL.out.1; omega) V (H1.out.keep hV).rows.pg.row).mono fun e w' ⟨e1, e2⟩ => ⟨by rw [e1, hnh], e2 ▸ Below.refl _ _⟩)
      obtain ⟨_, ⟨k1, k2⟩, ⟨k3, k4⟩, _⟩ := hrg.cl
      have hn6 : nh ≤ 60 := by have := many_le s.pg 1; have := HL.out.1; omega
      obtain ⟨cc, hcc⟩ : ∃ z, z = s.cf.c := ⟨_, rfl⟩
      obtain ⟨cq, hcq⟩ : ∃ z, z = s.cf.q := ⟨_, rfl⟩
      rw [← hcc] at x1 k1 k2 k4
      rw [← hcq] at x2 k3 k4
      have HRG := Lib.hid hrg
      have HC := Lib.hid (And.intro hnh (And.intro hcc hcq))
      clear hrg hnh hcc hcq
      by_cases hroom : (nh : Int) < cc - cq
      case pos =>
        go_wp2_with (first | fail | rw [← HW.out.1, ← HW.out.2])
        refine region_grown (by kernel_rfl) (by kernel_rfl) ?_
        repeat (first | go_big_quiet_skip | (refine qld31q (.tmp 3) rfl (by kernel_rfl) _ rfl _ QB.out ?_; simp only [Act.put, List.setIfInBounds_toArray, List.set_cons_succ, List.set_cons_zero]) | go_big_quiet_step (first | (go_at_call 8; exact D8.out _) | (go_at_call 10; exact D10.out _) | (go_at_call 23; exact D23.out _)))
        refine wpQuiet_nil ?_
        rintro w5 ⟨⟨wz, hg5⟩, rfl⟩
        have H5 := Lib.hid (H1.out.keep hg5)
        clear hg5 QB x1 x2 x5 D8 D10 D23 H1
        go_wp2_with fail
        refine (E9.out _ H5.out.bel).mono ?_
        rintro e w3 ⟨rfl, hb3⟩
        go_wp2_with fail
        go_ret
        exact ⟨rfl, hb3⟩
      case neg =>
        have HFULL : Hid (¬ Rm s) := Lib.hid (by unfold Rm; rw [← HC.out.1, ← HC.out.2.1, ← HC.out.2.2]; exact hroom)
        go_wp2_with (first | fail | rw [← HW.out.1, ← HW.out.2])
        refine region_grown (by kernel_rfl) (by kernel_rfl) ?_
        repeat (first | go_big_quiet_skip | (refine qld31q (.tmp 3) rfl (by kernel_rfl) _ rfl _ QB.out ?_; simp only [Act.put, List.setIfInBounds_toArray, List.set_cons_succ, List.set_cons_zero]) | go_big_quiet_step (first | (go_at_call 8; exact D8.out _) | (go_at_call 10; exact D10.out _) | (go_at_call 23; exact D23.out _)))
        refine wpQuiet_nil ?_
        rintro w5 ⟨⟨wz, hg5⟩, rfl⟩
        have H5 := Lib.hid (H1.out.keep hg5)
        clear hg5 QB x1 x2 x5 D8 D10 D23 H1 HW
        obtain ⟨w6, hw6⟩ : ∃ w6, w6 = w5.alloc (.cells (sA s r) 31) := ⟨_, rfl⟩
        obtain ⟨b7, hb7⟩ : ∃ b, b = w5.heap.size := ⟨_, rfl⟩
        have H6 : Hid (B2 w w6 b b7 s r s r ∧ Sc s s) := Lib.hid (by
          have hlt := H5.out.box.lt
          rw [hw6, hb7]
          exact ⟨⟨H5.out.keep (alloc_below _ _), BS.new H5.out.rows H5.out.bel, H5.out.rows.old.ap (Nat.le_refl _), by omega⟩, ⟨HRG.out, HK.out, rfl, rfl, rfl, rfl, fun k h => h⟩⟩)
        have HW6 := Lib.hid (And.intro hw6 hb7)
        clear hw6 hb7
        obtain ⟨m40, hm40⟩ : ∃ z : Int, z = m8 % 40 := ⟨_, rfl⟩
        have hm41 : 0 ≤ m40 ∧ m40 < 40 := by rw [hm40]; omega
        go_wp2_with (first | fail | refine ld31 rfl (.tmp 3) rfl _ rfl _ H5.out.box ?_ | (refine st31n rfl (.tmp 7) (.tmp 37) rfl s r rfl rfl _ rfl ?_; rw [← HW6.out.1, ← HW6.out.2]))
        clear H5 HW6 hroom
        have HM := Lib.hid hm40
        clear hm40
        go_loopw [8] (fun i wr => ∃ (k : Nat) (x : St) (rx : R3), (k : Int) ≤ m40 ∧ i = .int .i64 (k : Int) ∧ Hid (B2 w wr b b7 s r x rx ∧ Sc s x)) (fun i _ => 40 - (intOf i).toNat)
        case atStart => exact ⟨0, s, r, by omega, by go_num, H6⟩
        case round =>
          clear H6
          obtain ⟨k, x, rx, hkm, rfl, HX⟩ := hrel
          by_cases hlt : (k : Int) < m40
          case pos =>
            have hlt2 : (k : Int) < m8 % 40 := by rw [← HM.out]; exact hlt
            obtain ⟨key, hkey⟩ : ∃ z, z = IntKind.u64.wrap (f + (k : Int)) := ⟨_, rfl⟩
            have hk64 : K64 key := by rw [hkey]; exact k64_wrap _
            have HKEY := Lib.hid (And.intro hkey hk64)
            clear hkey hk64
            go_wp2_with (first | fail | refine ld31 rfl (.tmp 7) rfl _ rfl _ HX.out.1.two.box ?_)
            rw [← HKEY.out.1]
            refine Calls.mono (is_at x rx key ((rg_lim HX.out.2.rg).up (by omega)) wr HX.out.1.two.rows) ?_
            rintro e w2 ⟨rfl, hb2⟩
            have H7 := Lib.hid (And.intro (HX.out.1.keep hb2) HX.out.2)
            clear hb2 HX
            by_cases h0 : kOf x key = 0
            case neg =>
              obtain ⟨kk, hkk⟩ : ∃ kk, kk = kOf x key := ⟨_, rfl⟩
              rw [← hkk] at h0
              rw [← hkk]
              clear hkk
              have hq : (kk == 0) = false := by simpa using h0
              go_wp2_with fail
              refine (E9.out _ H7.out.1.one.bel).mono ?_
              rintro e w3 ⟨rfl, hb3⟩
              go_wp2_with fail
              go_ret
              exact ⟨rfl, hb3⟩
            case pos =>
              rw [h0]
              have C12 := padmit_at x rx key H7.out.2.rg (rg_lim' H7.out.2.rg) H7.out.2.kw w2 H7.out.1.two.rows
              have hs := H7.out.2.step HFULL.out HKEY.out.2 h0
              rw [decide_eq_false hs.2.2] at C12
              go_wp2_with (first | fail | refine ld31 rfl (.tmp 7) rfl _ rfl _ H7.out.1.two.box ?_)
              refine C12.mono ?_
              rintro e w3 ⟨r3, A3, n3, cc3, rfl, hn3, hr3, hu3, hA3, hf3, hb3⟩
              obtain ⟨y, hy⟩ : ∃ y, y = admit x key := ⟨_, rfl⟩
              rw [← hy] at hr3 hs
              rw [← hy]
              obtain ⟨w4, hw4⟩ : ∃ w4, w4 = w3.alloc (.cells (sA y r3) 31) := ⟨_, rfl⟩
              obtain ⟨b10, hb10⟩ : ∃ b, b = w3.heap.size := ⟨_, rfl⟩
              have hb34 : Below w3.heap.size w3 w4 := by rw [hw4]; exact alloc_below _ _
              have hb24 := hb3.trans (hb34.mono hb3.size)
              have H8 : Hid (Box w4 b10 (sA y r3) ∧ SR w4 y r3 ∧ Frm w2.heap.size rx r3 ∧ Below w2.heap.size w2 w4) := Lib.hid ⟨by rw [hw4, hb10]; exact box_alloc w3 (sA y r3) (sA_len _ _), hr3.kept hb34, hf3, hb24⟩
              have HY := Lib.hid hs
              have HW4 := Lib.hid (And.intro hw4 hb10)
              clear hb3 hb34 hb24 hr3 hu3 hA3 hf3 hn3 hw4 hb10 hy hs C12
              go_wp2_with (first | fail | (refine st31n rfl (.tmp 10) (.tmp 58) rfl y r3 rfl rfl _ rfl ?_; rw [← HW4.out.1, ← HW4.out.2]))
              clear HW4
              have QB : Hid (∀ V, (∃ p : GrB w4, V = p.v) → Box V b10 (sA y r3)) := Lib.hid (fun V ⟨p, hp⟩ => by rw [hp]; exact H8.out.1.kept p.h H8.out.1.lt)
              have y5 : ∀ W : GrB w4, W.v.cell? ⟨b10, 5, none⟩ = some (.slice r3.a1 y.pg.length r3.c1) := fun W => at5 (H8.out.1.kept W.h H8.out.1.lt)
              have x5 : ∀ W : GrB w4, W.v.cell? ⟨b, 5, none⟩ = some (.slice r.a1 s.pg.length r.c1) := fun W => at5 ((H7.out.1.keep H8.out.2.2.2).keep W.h).one.box
              have D24 : Hid (∀ W : GrB w4, Calls Try.prog 24 #[sV y r3, .int .u64 key] W.v fun e w' => e = .returned (.int .i64 2) ∧ ∃ W' : GrB w4, w' = W'.v) := Lib.hid (grown_call (w := w4) fun V hV => (is_at y r3 key ((rg_lim HY.out.1.rg).up (by omega)) V (H8.out.2.1.kept hV)).mono fun e w' ⟨e1, e2⟩ => ⟨by rw [e1, HY.out.2.1], e2⟩)
              have D23 : Hid (∀ W : GrB w4, Calls Try.prog 23 #[.slice r3.a1 y.pg.length r3.c1, .int .i64 1] W.v fun e w' => e = .returned (.int .i64 (nh : Int)) ∧ ∃ W' : GrB w4, w' = W'.v) := Lib.hid (grown_call (w := w4) fun V hV => (many_at y.pg 1 r3.a1 y.pg.length r3.c1 rfl (by have := (rg_lim HY.out.1.rg).1; omega) V (H8.out.2.1.kept hV).pg.row).mono fun e w' ⟨e1, e2⟩ => ⟨by rw [e1, HC.out.1]; exact congrArg (fun z : Nat => Ending.returned (Value.int .i64 (z : Int))) HY.out.1.h, e2 ▸ Below.refl _ _⟩)
              have D23s : Hid (∀ W : GrB w4, Calls Try.prog 23 #[.slice r.a1 s.pg.length r.c1, .int .i64 1] W.v fun e w' => e = .returned (.int .i64 (nh : Int)) ∧ ∃ W' : GrB w4, w' = W'.v) := Lib.hid (grown_call (w := w4) fun V hV => (many_at s.pg 1 r.a1 s.pg.length r.c1 rfl (by have := HL.out.1; omega) V (((H7.out.1.keep H8.out.2.2.2).keep hV).one.rows).pg.row).mono fun e w' ⟨e1, e2⟩ => ⟨by rw [e1, HC.out.1], e2 ▸ Below.refl _ _⟩)
              go_wp2_with fail
              refine region_grown (by kernel_rfl) (by kernel_rfl) ?_
              repeat (first | go_big_quiet_skip | (refine qld31q (.tmp 10) rfl (by kernel_rfl) _ rfl _ QB.out ?_; simp only [Act.put, List.setIfInBounds_toArray, List.set_cons_succ, List.set_cons_zero]) | go_big_quiet_step (first | (go_at_call 24; exact D24.out _) | (go_at_call 23; first | with_reducible exact D23.out _ | with_reducible exact D23s.out _)))
              refine wpQuiet_nil ?_
              rintro w5 ⟨⟨wz, hg5⟩, rfl⟩
              have hb25 := H8.out.2.2.2.trans (hg5.mono H8.out.2.2.2.size)
              have H9 : Hid (Box w5 b10 (sA y r3) ∧ Box w5 b7 (sA x rx) ∧ B2 w (w5.setRow b7 (sA y r3)) b b7 s r y r3 ∧ Sc s y) := Lib.hid ⟨H8.out.1.kept hg5 H8.out.1.lt, H7.out.1.two.box.kept hb25 H7.out.1.two.box.lt, H7.out.1.put hb25 (H8.out.2.1.kept hg5) H8.out.2.2.1, HY.out.1⟩
              clear hb25 hg5 QB y5 x5 D24 D23 D23s H8 H7 HY
              go_wp2_with (first | fail | refine ld31 rfl (.tmp 10) rfl _ rfl _ H9.out.1 ?_ | refine st31 rfl (.tmp 7) (.tmp 78) rfl _ y r3 rfl rfl _ H9.out.2.1 ?_)
              have H10 := Lib.hid H9.out.2.2
              clear H9
              go_round
              case rel => exact ⟨k + 1, y, r3, by omega, by go_num, H10⟩
              case measure => simp only [intOf]; omega
          case neg =>
            have hlt2 : ¬ (k : Int) < m8 % 40 := by rw [← HM.out]; exact hlt
            obtain ⟨n, hn⟩ : ∃ n, n = s.pg.length := ⟨_, rfl⟩
            have d5 : wr.cell? ⟨b, 5, none⟩ = some (.slice r.a1 n r.c1) := by rw [hn]; exact at5 HX.out.1.one.box
            have hn60 : n ≤ 60 := by rw [hn]; exact HL.out.1
            have HN := Lib.hid hn
            clear hn
            go_wp2_with fail
            clear d5
            obtain ⟨wo, rfl⟩ : ∃ wo : World, wo = wr := ⟨_, rfl⟩
            go_loopw [82] (fun i wr => ∃ j : Nat, j ≤ n ∧ i = .int .i64 (j : Int) ∧ Hid (B2 w wr b b7 s r x rx ∧ Sc s x)) (fun i _ => n - (intOf i).toNat)
            case atStart => exact ⟨0, by omega, by go_num, HX⟩
            case round =>
              clear HX
              obtain ⟨j, hj, rfl, HX⟩ := hrel
              by_cases hjn : j < n
              case pos =>
                have hml : j < s.pg.length := by have := HN.out; omega
                obtain ⟨pb, off, hA, hc⟩ := HX.out.1.one.rows.pg.row.at hml
                rw [hA]
                obtain ⟨c0, c1, c2, c3⟩ := hc j hml
                obtain ⟨p, hp⟩ : ∃ p, p = s.pg[j] := ⟨_, rfl⟩
                have HPM : Hid (p ∈ s.pg) := Lib.hid (by rw [hp]; exact List.getElem_mem hml)
                rw [← hp] at c0 c1 c2 c3
                clear hp
                obtain ⟨p0, p1, p2, p3⟩ := p
                dsimp only at c0 c1 c2 c3
                have b2 := alloc_below wr (.cells #[.int .u64 p0, .int .i64 p1, .bool p2, .bool p3] 59)
                have hg := heap_alloc_new wr (.cells #[.int .u64 p0, .int .i64 p1, .bool p2, .bool p3] 59)
                obtain ⟨w2, hw2⟩ : ∃ w2, w2 = wr.alloc (.cells #[.int .u64 p0, .int .i64 p1, .bool p2, .bool p3] 59) := ⟨_, rfl⟩
                obtain ⟨g, hge⟩ : ∃ g, g = wr.heap.size := ⟨_, rfl⟩
                rw [← hw2, ← hge] at hg
                rw [← hw2] at b2
                have H5 := Lib.hid (And.intro (HX.out.1.keep b2) HX.out.2)
                have i0 : w2.cell? ⟨g, 0, none⟩ = some (.int .u64 p0) := by rw [cell_of_head hg]; rfl
                have i1 : w2.cell? ⟨g, 1, none⟩ = some (.int .i64 p1) := by rw [cell_of_head hg]; rfl
                have HW := Lib.hid (And.intro hw2 hge)
                clear hc b2 hg hw2 hge HX hA
                by_cases h1 : p1 = 1
                case pos =>
                  subst h1
                  have hko : kOf x p0 = 1 := hot_kof H5.out.2.rg (H5.out.2.hot p0 ⟨_, HPM.out, rfl, rfl⟩)
                  have HKO := Lib.hid hko
                  clear hko
                  go_wp2_with (first | fail | (refine st59n rfl (.tmp 14) (.tmp 85) rfl _ _ _ _ rfl rfl _ rfl ?_; rw [← HW.out.1, ← HW.out.2]) | refine ld31g rfl (.tmp 7) rfl _ rfl _ H5.out.1.two.box ?_)
                  refine Calls.mono (is_at x rx p0 ((rg_lim H5.out.2.rg).up (by omega)) w2 H5.out.1.two.rows) ?_
                  rintro e w3 ⟨rfl, hb3⟩
                  rw [HKO.out]
                  have H6 := Lib.hid (And.intro (H5.out.1.keep hb3) H5.out.2)
                  clear hb3 H5 HKO HPM c0 c1 c2 c3 i0 i1 HW
                  go_wp2_with fail
                  go_round
                  case rel => exact ⟨j + 1, by omega, by go_num, H6⟩
                  case measure => simp only [intOf]; omega
                case neg =>
                  have hq : (p1 == 1) = false := by simpa using h1
                  go_wp2_with (first | fail | (refine st59n rfl (.tmp 14) (.tmp 85) rfl _ _ _ _ rfl rfl _ rfl ?_; rw [← HW.out.1, ← HW.out.2]))
                  go_round
                  case rel => exact ⟨j + 1, by omega, by go_num, H5⟩
                  case measure => simp only [intOf]; omega
              case neg =>
                obtain ⟨ra, hra⟩ : ∃ z, z = s.ct.ra := ⟨_, rfl⟩
                obtain ⟨lo, hlo⟩ : ∃ z, z = s.ct.lo := ⟨_, rfl⟩
                have d12 : wr.cell? ⟨b, 12, none⟩ = some (.int .u64 ra) := by rw [hra]; exact at12 HX.out.1.one.box
                have d13 : wr.cell? ⟨b, 13, none⟩ = some (.int .u64 lo) := by rw [hlo]; exact at13 HX.out.1.one.box
                have e12 : wr.cell? ⟨b7, 12, none⟩ = some (.int .u64 ra) := by rw [hra, ← HX.out.2.ra]; exact at12 HX.out.1.two.box
                have e13 : wr.cell? ⟨b7, 13, none⟩ = some (.int .u64 lo) := by rw [hlo, ← HX.out.2.lo]; exact at13 HX.out.1.two.box
                clear hra hlo
                go_wp2_with fail
                refine (E9.out _ HX.out.1.one.bel).mono ?_
                rintro e w3 ⟨rfl, hb3⟩
                go_wp2_with fail
                go_ret
                exact ⟨rfl, hb3⟩
end Go.Proofs.Ytifenpmkbnohhaa
