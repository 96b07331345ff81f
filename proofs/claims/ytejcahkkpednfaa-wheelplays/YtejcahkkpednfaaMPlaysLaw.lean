/-
  Law WheelPlays: the walk.
-/
import Derived.Test.YtejcahkkpednfaaG29
namespace Go.Proofs.Ytejcahkkpednfaa
open Go.RowKit
open Go.Proofs.StackM (Pg Cf Ct St up many fnd fnd_at fnd_no)
open Go.Proofs.WheelM
set_option linter.unusedVariables false
theorem D2.born {w0 w : World} {b5 b7 : Nat} {s : St} {r : R3} {cs ds : Array Value} (hb : Below w0.heap.size w0 w) (hr : SR w s r) (x5 : Box w b5 cs) (x7 : Box w b7 ds) (hne : b5 ≠ b7) (l5 : w0.heap.size ≤ b5) (l7 : w0.heap.size ≤ b7) (a5 : Ap b5 r) (a7 : Ap b7 r) (hg : Rg s) (hk : Kw s) :
    D2 w0 ((w.setRow b5 (sA s r)).setRow b7 (sA s r)) b5 b7 s r r := by
  have hbel := below_setRow (below_setRow hb l5 (cs := sA s r)) l7 (cs := sA s r)
  exact ⟨⟨(x5.rowSet (sA_len _ _)).other (Ne.symm hne) _, (hr.apRow a5).apRow a7, a5, hbel, l5⟩, ⟨(x7.other hne _).rowSet (sA_len _ _), (hr.apRow a5).apRow a7, a7, hbel, l7⟩, a5, a7, hne, hg, hk⟩
/-- a box of a state, and its rows -/
structure Bx (w : World) (b : Nat) (s : St) (r : R3) : Prop where
  box : Box w b (sA s r)
  rows : SR w s r
theorem Bx.keep {w w' : World} {b : Nat} {s : St} {r : R3} (x : Bx w b s r) (hb : Below w.heap.size w w') : Bx w' b s r := ⟨x.box.kept hb x.box.lt, x.rows.kept hb⟩
theorem Bx.new {w : World} {s : St} {r : R3} (hr : SR w s r) : Bx (w.alloc (.cells (sA s r) 31)) w.heap.size s r := ⟨box_alloc w (sA s r) (sA_len _ _), hr.kept (alloc_below w _)⟩
set_option maxHeartbeats 2000000 in
set_option maxRecDepth 100000 in
theorem wheelPlays_law (s : St) (r : R3) (A : Option Addr) (cap : Nat) (l : List Ac) (hk : Kw s) (w : World) (hr : SR w s r) (ha : ActsAt w A cap l) : Calls Try.prog 3 #[sV s r, .slice A l.length cap] w fun e w' => e = .returned (.bool true) ∧ Below w.heap.size w w' := by
  obtain ⟨n, hn⟩ : ∃ n, n = l.length := ⟨_, rfl⟩
  rw [← hn]
  obtain ⟨w1, hw1⟩ : ∃ w1, w1 = w.alloc (.cells (sA s r) 31) := ⟨_, rfl⟩
  obtain ⟨b, hbe⟩ : ∃ b, b = w.heap.size := ⟨_, rfl⟩
  have H1 : Hid (BS w w1 b s r) := Lib.hid (by rw [hw1, hbe]; exact BS.new hr (Below.refl _ _))
  have HW := Lib.hid (And.intro hw1 hbe)
  have HA := Lib.hid ha
  have HN := Lib.hid hn
  have HK := Lib.hid hk
  have E9 : Hid (∀ V, Below w.heap.size w V → Calls Try.prog 9 #[] V fun e w' => e = .returned (.bool true) ∧ Below w.heap.size w w') := Lib.hid (fun V hV => (alive_at V).mono fun e w' ⟨h1, h2⟩ => ⟨h1, hV.trans (h2.mono hV.size)⟩)
  clear hw1 hbe hr hk ha hn
  go_enter Try.func3, Try.ntmps3
  by_cases h60 : 60 < n
  case pos =>
    go_wp2_with (first | fail | rw [← HW.out.1, ← HW.out.2])
    refine (E9.out w1 H1.out.bel).mono ?_
    rintro e w3 ⟨rfl, hb3⟩
    go_wp2_with fail
    go_ret
    exact ⟨rfl, hb3⟩
  case neg =>
    have hd : decide ((60 : Int) < (n : Int)) = false := decide_eq_false (by omega)
    go_wp2_with (first | fail | rw [← HW.out.1, ← HW.out.2] | refine ld31g rfl (.tmp 2) rfl _ rfl _ H1.out.box ?_)
    refine (small_at s r 60 (by omega) w1).mono ?_
    rintro e w2 ⟨rfl, hb2⟩
    have H2 := Lib.hid (H1.out.keep hb2)
    clear hb2 H1 HW hd
    by_cases hl : Lim s 60
    case neg =>
      rw [decide_eq_false hl]
      go_wp2_with fail
      refine (E9.out w2 H2.out.bel).mono ?_
      rintro e w3 ⟨rfl, hb3⟩
      go_wp2_with fail
      go_ret
      exact ⟨rfl, hb3⟩
    case pos =>
      rw [decide_eq_true hl]
      have HL := Lib.hid hl
      clear hl
      go_wp2_with (first | fail | refine ld31 rfl (.tmp 2) rfl _ rfl _ H2.out.box ?_)
      refine (right_at s r (HL.out.up (by omega)) w2 H2.out.rows).mono ?_
      rintro e w3 ⟨rfl, hb3⟩
      have H3 := Lib.hid (H2.out.keep hb3)
      clear hb3 H2
      by_cases hrg : Rg s
      case neg =>
        rw [rBW_false (fun h => hrg ((rt_rg s).1 h))]
        have HNR := Lib.hid hrg
        clear hrg
        go_wp2_with (first | fail | refine ld31 rfl (.tmp 2) rfl _ rfl _ H3.out.box ?_)
        refine (ptouch_bad s r 1 HNR.out (HL.out.up (by omega)) HK.out w3 H3.out.rows).mono ?_
        rintro e v4 ⟨ra, rfl, hra, fa, kb4⟩
        have ka4 := alloc_below v4 (.cells (sA S0 ra) 31)
        obtain ⟨w5, hw5⟩ : ∃ x, x = v4.alloc (.cells (sA S0 ra) 31) := ⟨_, rfl⟩
        obtain ⟨b5, hb5⟩ : ∃ b, b = v4.heap.size := ⟨_, rfl⟩
        rw [← hw5] at ka4
        have H5 : Hid (BS w w5 b s r ∧ Bx w5 b5 S0 ra) := Lib.hid ⟨(H3.out.keep kb4).keep ka4, by rw [hw5, hb5]; exact Bx.new hra⟩
        have HW5 := Lib.hid (And.intro hw5 hb5)
        clear hw5 hb5 ka4 kb4 fa hra H3
        go_wp2_with (first | fail | (refine st31n rfl (.tmp 5) (.tmp 38) rfl S0 ra rfl rfl _ rfl ?_; rw [← HW5.out.1, ← HW5.out.2]) | refine ld31 rfl (.tmp 2) rfl _ rfl _ H5.out.1.box ?_)
        refine (padmit_bad s r 1 HNR.out (HL.out.up (by omega)) HK.out w5 H5.out.1.rows).mono ?_
        rintro e v6 ⟨rb, Ab, nb, cb, rfl, hnb, hrb, hub, hAb, fb, kb6⟩
        obtain rfl : nb = 0 := hnb
        have ka6 := alloc_below v6 (.cells (sA S0 rb) 31)
        obtain ⟨w7, hw7⟩ : ∃ x, x = v6.alloc (.cells (sA S0 rb) 31) := ⟨_, rfl⟩
        obtain ⟨b7, hb7⟩ : ∃ b, b = v6.heap.size := ⟨_, rfl⟩
        rw [← hw7] at ka6
        have H7 : Hid (BS w w7 b s r ∧ Bx w7 b5 S0 ra ∧ Bx w7 b7 S0 rb) := Lib.hid ⟨(H5.out.1.keep kb6).keep ka6, (H5.out.2.keep kb6).keep ka6, by rw [hw7, hb7]; exact Bx.new hrb⟩
        have HW7 := Lib.hid (And.intro hw7 hb7)
        clear hw7 hb7 ka6 kb6 fb hrb hub hAb H5 HW5
        go_wp2_with (first | fail | (refine st31n rfl (.tmp 7) (.tmp 43) rfl S0 rb rfl rfl _ rfl ?_; rw [← HW7.out.1, ← HW7.out.2]) | refine ld31 rfl (.tmp 2) rfl _ rfl _ H7.out.1.box ?_)
        refine (pdrop_bad s r 1 HNR.out (HL.out.up (by omega)) HK.out w7 H7.out.1.rows).mono ?_
        rintro e v8 ⟨rc, rfl, hrc, fc, kb8⟩
        have ka8 := alloc_below v8 (.cells (sA S0 rc) 31)
        obtain ⟨w9, hw9⟩ : ∃ x, x = v8.alloc (.cells (sA S0 rc) 31) := ⟨_, rfl⟩
        obtain ⟨b10, hb10⟩ : ∃ b, b = v8.heap.size := ⟨_, rfl⟩
        rw [← hw9] at ka8
        have H9 : Hid (BS w w9 b s r ∧ Bx w9 b5 S0 ra ∧ Bx w9 b7 S0 rb ∧ Bx w9 b10 S0 rc) := Lib.hid ⟨(H7.out.1.keep kb8).keep ka8, (H7.out.2.1.keep kb8).keep ka8, (H7.out.2.2.keep kb8).keep ka8, by rw [hw9, hb10]; exact Bx.new hrc⟩
        have HW9 := Lib.hid (And.intro hw9 hb10)
        have i0 := at0 H9.out.1.box
        have i1 := at1 H9.out.1.box
        have i2 := at2 H9.out.1.box
        have i3 := at3 H9.out.1.box
        clear hw9 hb10 ka8 kb8 fc hrc H7 HW7
        go_wp2_with (first | fail | (refine st31n rfl (.tmp 10) (.tmp 49) rfl S0 rc rfl rfl _ rfl ?_; rw [← HW9.out.1, ← HW9.out.2]) | refine ld31 rfl (.tmp 2) rfl _ rfl _ H9.out.1.box ?_)
        refine (show Calls Try.prog 14 #[sV s r, .agg #[.int .i64 s.cf.p, .int .i64 s.cf.c, .int .i64 s.cf.q, .int .i64 s.cf.g]] w9 _ from presize_bad s r s.cf HNR.out (HL.out.up (by omega)) HK.out w9 H9.out.1.rows).mono ?_
        rintro e v10 ⟨rd, Ad, nd, cd, rfl, hnd, hrd, hud, hAd, fd, kb10⟩
        obtain rfl : nd = 0 := hnd
        have ka10 := alloc_below v10 (.cells (sA s rd) 31)
        obtain ⟨w11, hw11⟩ : ∃ x, x = v10.alloc (.cells (sA s rd) 31) := ⟨_, rfl⟩
        obtain ⟨b12, hb12⟩ : ∃ b, b = v10.heap.size := ⟨_, rfl⟩
        rw [← hw11] at ka10
        have ka12 := alloc_below w11 (.cells (sA S0 R0) 31)
        obtain ⟨w12, hw12⟩ : ∃ x, x = w11.alloc (.cells (sA S0 R0) 31) := ⟨_, rfl⟩
        obtain ⟨b15, hb15⟩ : ∃ b, b = w11.heap.size := ⟨_, rfl⟩
        rw [← hw12] at ka12
        have q12 : Bx w11 b12 s rd := by rw [hw11, hb12]; exact Bx.new hrd
        have H12 : Hid (BS w w12 b s r ∧ Bx w12 b5 S0 ra ∧ Bx w12 b7 S0 rb ∧ Bx w12 b10 S0 rc ∧ Bx w12 b12 s rd ∧ Bx w12 b15 S0 R0) := Lib.hid ⟨((H9.out.1.keep kb10).keep ka10).keep ka12, ((H9.out.2.1.keep kb10).keep ka10).keep ka12, ((H9.out.2.2.1.keep kb10).keep ka10).keep ka12, ((H9.out.2.2.2.keep kb10).keep ka10).keep ka12, q12.keep ka12, by rw [hw12, hb15]; exact Bx.new (sr_zero w11)⟩
        have HW11 := Lib.hid (And.intro hw11 hb12)
        have HW12 := Lib.hid (And.intro hw12 hb15)
        clear hw11 hb12 ka10 kb10 fd hrd hud hAd hw12 hb15 ka12 q12 H9 HW9 i0 i1 i2 i3
        go_wp2_with (first | fail | (refine st31n rfl (.tmp 12) (.tmp 56) rfl s rd rfl rfl _ rfl ?_; rw [← HW11.out.1, ← HW11.out.2]) | refine bld31zL rfl rfl ?_ | (refine st31n rfl (.tmp 15) (.tmp 59) rfl S0 R0 rfl rfl _ rfl ?_; rw [← HW12.out.1, ← HW12.out.2]) | refine ld31 rfl (.tmp 5) rfl _ rfl _ H12.out.2.1.box ?_ | refine ld31 rfl (.tmp 15) rfl _ rfl _ H12.out.2.2.2.2.2.box ?_)
        clear HW11 HW12
        have KP : Hid (∀ V, Below w12.heap.size w12 V → BS w V b s r ∧ Bx V b5 S0 ra ∧ Bx V b7 S0 rb ∧ Bx V b10 S0 rc ∧ Bx V b12 s rd ∧ Bx V b15 S0 R0) := Lib.hid (fun V hV => ⟨H12.out.1.keep hV, H12.out.2.1.keep hV, H12.out.2.2.1.keep hV, H12.out.2.2.2.1.keep hV, H12.out.2.2.2.2.1.keep hV, H12.out.2.2.2.2.2.keep hV⟩)
        refine (state_same S0 ra R0 lim_zero w12 H12.out.2.1.rows H12.out.2.2.2.2.2.rows).mono ?_
        rintro e w13 ⟨rfl, hb13⟩
        have HB13 := Lib.hid hb13
        clear hb13 H12
        go_wp2_with (first | fail | refine ld31g rfl (.tmp 7) rfl _ rfl _ (KP.out _ HB13.out).2.2.1.box ?_ | refine ld31g rfl (.tmp 15) rfl _ rfl _ (KP.out _ HB13.out).2.2.2.2.2.box ?_)
        refine (state_same S0 rb R0 lim_zero w13 (KP.out _ HB13.out).2.2.1.rows (KP.out _ HB13.out).2.2.2.2.2.rows).mono ?_
        rintro e w14 ⟨rfl, hb14⟩
        have HB14 := Lib.hid (HB13.out.trans (hb14.mono HB13.out.size))
        clear hb14 HB13
        go_wp2_with (first | fail | refine ld31g rfl (.tmp 10) rfl _ rfl _ (KP.out _ HB14.out).2.2.2.1.box ?_ | refine ld31g rfl (.tmp 15) rfl _ rfl _ (KP.out _ HB14.out).2.2.2.2.2.box ?_)
        refine (state_same S0 rc R0 lim_zero w14 (KP.out _ HB14.out).2.2.2.1.rows (KP.out _ HB14.out).2.2.2.2.2.rows).mono ?_
        rintro e w15 ⟨rfl, hb15⟩
        have HB15 := Lib.hid (HB14.out.trans (hb15.mono HB14.out.size))
        clear hb15 HB14
        go_wp2_with (first | fail | refine ld31g rfl (.tmp 12) rfl _ rfl _ (KP.out _ HB15.out).2.2.2.2.1.box ?_ | refine ld31g rfl (.tmp 2) rfl _ rfl _ (KP.out _ HB15.out).1.box ?_)
        refine (state_same s rd r (HL.out.up (by omega)) w15 (KP.out _ HB15.out).2.2.2.2.1.rows (KP.out _ HB15.out).1.rows).mono ?_
        rintro e w16 ⟨rfl, hb16⟩
        have HB16 := Lib.hid (HB15.out.trans (hb16.mono HB15.out.size))
        clear hb16 HB15
        go_wp2_with fail
        refine (E9.out _ (KP.out _ HB16.out).1.bel).mono ?_
        rintro e w17 ⟨rfl, hb17⟩
        go_wp2_with fail
        go_ret
        exact ⟨rfl, hb17⟩
      case pos =>
        rw [rBW_true ((rt_rg s).2 hrg)]
        have HRG := Lib.hid hrg
        clear hrg
        go_wp2_with fail
        go_cut [16, 17] from 107 to 108 (fun v16 v17 wx => ∃ (b5 b7 : Nat), v16 = .pointer (some ⟨b5, 0, none⟩) ∧ v17 = .pointer (some ⟨b7, 0, none⟩) ∧ Hid (D2 w wx b5 b7 s r r))
        case first =>
          have hbd : Below w3.heap.size w3 w3.drew := below_drew (Below.refl _ _) 1
          have HD : Hid (BS w w3.drew b s r) := Lib.hid (H3.out.keep hbd)
          clear hbd H3
          refine wp_region_held_drew (S := fun V => Box V b (sA s r)) (by kernel_rfl) HD.out.box (fun hHeld => ?_)
          generalize World.drew w3 = wd at hHeld HD ⊢
          refine wpAnyH_take (i := 0) (v := ?tval501) (by simp only [get_laws]; rfl) (by kernel_rfl) (by kernel_rfl) (by kernel_rfl) (by intro _ _ _ h; exact h) (Or.inl ⟨by rfl, ?teq501⟩) (by assumption) ?trest501
          case teq501 => (intro w0 q; refine exec31 (.tmp 2) ?_ ?_ q <;> rfl)
          try simp only [put_laws]
          refine wpAnyH_take (i := 1) (v := ?tval502) (by simp only [get_laws]; rfl) (by kernel_rfl) (by kernel_rfl) (by kernel_rfl) (by intro _ _ _ h; exact h) (Or.inl ⟨by rfl, ?teq502⟩) (by assumption) ?trest502
          case teq502 => (intro w0 q; refine exec31 (.tmp 2) ?_ ?_ q <;> rfl)
          try simp only [put_laws]
          refine wpAnyH_ready (rs := [2, 3]) (by kernel_rfl) (by simp) ?_
          refine AllReadyH.cons rfl (fun K hK => ?_) ?_
          · go_simp
            obtain ⟨wa, hwa⟩ : ∃ x, x = wd.alloc (.cells (sA S0 R0) 31) := ⟨_, rfl⟩
            obtain ⟨n0, hn0⟩ : ∃ x, x = wd.heap.size := ⟨_, rfl⟩
            have ka : Below wd.heap.size wd wa := by rw [hwa]; exact alloc_below _ _
            have q0 : Box wa n0 (sA S0 R0) := by rw [hwa, hn0]; exact box_alloc wd _ (sA_len _ _)
            have hla : wd.alloc (.cells #[.int .i64 0, .int .i64 0, .int .i64 0, .int .i64 0, .int .i64 0, .slice none 0 0, .slice none 0 0, .slice none 0 0, .int .i64 0, .int .i64 0, .int .u64 0, .int .u64 0, .int .u64 0, .int .u64 0, .int .u64 0, .int .u64 0, .int .u64 0, .int .u64 0, .int .u64 0, .int .u64 0] 31) = wa := hwa.symm
            rw [hla]
            refine hK.out _ _ (hHeld.kept ka hHeld.lt) (fun hHeld => ?_)
            have HKA := Lib.hid (And.intro ka (And.intro q0 hn0))
            clear hK K hwa hla ka q0 hn0
            try simp only [put_laws]
            refine wpAnyH_ready (rs := [3]) (by kernel_rfl) (by simp) ?_
            refine AllReadyH.cons rfl (fun K hK => ?_) AllReadyH.nil
            go_simp
            obtain ⟨wb, hwb⟩ : ∃ x, x = wa.alloc (.cells (sA S0 R0) 31) := ⟨_, rfl⟩
            obtain ⟨n1, hn1⟩ : ∃ x, x = wa.heap.size := ⟨_, rfl⟩
            have kb : Below wa.heap.size wa wb := by rw [hwb]; exact alloc_below _ _
            have q1 : Box wb n1 (sA S0 R0) := by rw [hwb, hn1]; exact box_alloc wa _ (sA_len _ _)
            have hlb : wa.alloc (.cells #[.int .i64 0, .int .i64 0, .int .i64 0, .int .i64 0, .int .i64 0, .slice none 0 0, .slice none 0 0, .slice none 0 0, .int .i64 0, .int .i64 0, .int .u64 0, .int .u64 0, .int .u64 0, .int .u64 0, .int .u64 0, .int .u64 0, .int .u64 0, .int .u64 0, .int .u64 0, .int .u64 0] 31) = wb := hwb.symm
            rw [hlb]
            have ka := HKA.out.1
            have q0 := HKA.out.2.1
            have hn0 := HKA.out.2.2
            have hne : n0 ≠ n1 := by have := q0.lt; omega
            have q0b : Box wb n0 (sA S0 R0) := q0.kept kb q0.lt
            have hdb : Below wd.heap.size wd wb := ka.trans (kb.mono ka.size)
            have HQ : Hid (Box wb n0 (sA S0 R0) ∧ Box wb n1 (sA S0 R0) ∧ n0 ≠ n1 ∧ Box wb b (sA s r) ∧ b ≠ n0 ∧ b ≠ n1 ∧ D2 w ((wb.setRow n0 (sA s r)).setRow n1 (sA s r)) n0 n1 s r r) := Lib.hid (by
              have hlt := HD.out.box.lt
              have hs := ka.size
              have hbl := HD.out.bel.size
              have l0 : w.heap.size ≤ n0 := by omega
              have l1 : w.heap.size ≤ n1 := by omega
              have p0 : Ap n0 r := HD.out.rows.old.ap (by omega)
              have p1 : Ap n1 r := HD.out.rows.old.ap (by omega)
              exact ⟨q0b, q1, hne, HD.out.box.kept hdb hlt, by omega, by omega, D2.born (HD.out.bel.trans (hdb.mono HD.out.bel.size)) (HD.out.rows.kept hdb) q0b q1 hne l0 l1 p0 p1 HRG.out HK.out⟩)
            refine hK.out _ _ HQ.out.2.2.2.1 (fun hHeld => ?_)
            clear hK K hwb hlb ka kb q0 q1 hne q0b hdb HKA
            have e0 : (.pointer (some ⟨wd.heap.size, 0, none⟩) : Value) = .pointer (some ⟨n0, 0, none⟩) := by rw [hn0]
            have e1 : (.pointer (some ⟨wa.heap.size, 0, none⟩) : Value) = .pointer (some ⟨n1, 0, none⟩) := by rw [hn1]
            clear hn0 hn1
            try simp only [put_laws]
            rw [e0, e1]
            clear e0 e1
            refine wpAnyH_ready (rs := [4]) (by kernel_rfl) (by simp) ?_
            refine AllReadyH.cons rfl (fun K hK => ?_) AllReadyH.nil
            refine step31 rfl (.tmp 16) (.tmp 107) rfl _ s r rfl rfl _ HQ.out.1 ?_
            refine hK.out _ _ (HQ.out.2.2.2.1.other (Ne.symm HQ.out.2.2.2.2.1) _) (fun hHeld => ?_)
            clear hK K
            try simp only [put_laws]
            refine wpAnyH_ready (rs := [5]) (by kernel_rfl) (by simp) ?_
            refine AllReadyH.cons rfl (fun K hK => ?_) AllReadyH.nil
            refine step31 rfl (.tmp 17) (.tmp 108) rfl _ s r rfl rfl _ (HQ.out.2.1.other HQ.out.2.2.1 _) ?_
            refine hK.out _ _ ((HQ.out.2.2.2.1.other (Ne.symm HQ.out.2.2.2.2.1) _).other (Ne.symm HQ.out.2.2.2.2.2.1) _) (fun hHeld => ?_)
            clear hK K
            try simp only [put_laws]
            refine wpAnyH_done (by kernel_rfl) ?_ _
            go_wp2
            go_meet
            exact ⟨n0, n1, rfl, rfl, Lib.hid HQ.out.2.2.2.2.2.2⟩
          refine AllReadyH.cons rfl (fun K hK => ?_) AllReadyH.nil
          go_simp
          obtain ⟨wa, hwa⟩ : ∃ x, x = wd.alloc (.cells (sA S0 R0) 31) := ⟨_, rfl⟩
          obtain ⟨n0, hn0⟩ : ∃ x, x = wd.heap.size := ⟨_, rfl⟩
          have ka : Below wd.heap.size wd wa := by rw [hwa]; exact alloc_below _ _
          have q0 : Box wa n0 (sA S0 R0) := by rw [hwa, hn0]; exact box_alloc wd _ (sA_len _ _)
          have hla : wd.alloc (.cells #[.int .i64 0, .int .i64 0, .int .i64 0, .int .i64 0, .int .i64 0, .slice none 0 0, .slice none 0 0, .slice none 0 0, .int .i64 0, .int .i64 0, .int .u64 0, .int .u64 0, .int .u64 0, .int .u64 0, .int .u64 0, .int .u64 0, .int .u64 0, .int .u64 0, .int .u64 0, .int .u64 0] 31) = wa := hwa.symm
          rw [hla]
          refine hK.out _ _ (hHeld.kept ka hHeld.lt) (fun hHeld => ?_)
          have HKA := Lib.hid (And.intro ka (And.intro q0 hn0))
          clear hK K hwa hla ka q0 hn0
          try simp only [put_laws]
          refine wpAnyH_ready (rs := [2]) (by kernel_rfl) (by simp) ?_
          refine AllReadyH.cons rfl (fun K hK => ?_) AllReadyH.nil
          go_simp
          obtain ⟨wb, hwb⟩ : ∃ x, x = wa.alloc (.cells (sA S0 R0) 31) := ⟨_, rfl⟩
          obtain ⟨n1, hn1⟩ : ∃ x, x = wa.heap.size := ⟨_, rfl⟩
          have kb : Below wa.heap.size wa wb := by rw [hwb]; exact alloc_below _ _
          have q1 : Box wb n1 (sA S0 R0) := by rw [hwb, hn1]; exact box_alloc wa _ (sA_len _ _)
          have hlb : wa.alloc (.cells #[.int .i64 0, .int .i64 0, .int .i64 0, .int .i64 0, .int .i64 0, .slice none 0 0, .slice none 0 0, .slice none 0 0, .int .i64 0, .int .i64 0, .int .u64 0, .int .u64 0, .int .u64 0, .int .u64 0, .int .u64 0, .int .u64 0, .int .u64 0, .int .u64 0, .int .u64 0, .int .u64 0] 31) = wb := hwb.symm
          rw [hlb]
          have ka := HKA.out.1
          have q0 := HKA.out.2.1
          have hn0 := HKA.out.2.2
          have hne : n0 ≠ n1 := by have := q0.lt; omega
          have q0b : Box wb n0 (sA S0 R0) := q0.kept kb q0.lt
          have hdb : Below wd.heap.size wd wb := ka.trans (kb.mono ka.size)
          have HQ : Hid (Box wb n1 (sA S0 R0) ∧ Box wb n0 (sA S0 R0) ∧ n1 ≠ n0 ∧ Box wb b (sA s r) ∧ b ≠ n1 ∧ b ≠ n0 ∧ D2 w ((wb.setRow n1 (sA s r)).setRow n0 (sA s r)) n1 n0 s r r) := Lib.hid (by
            have hlt := HD.out.box.lt
            have hs := ka.size
            have hbl := HD.out.bel.size
            have l0 : w.heap.size ≤ n0 := by omega
            have l1 : w.heap.size ≤ n1 := by omega
            have p0 : Ap n0 r := HD.out.rows.old.ap (by omega)
            have p1 : Ap n1 r := HD.out.rows.old.ap (by omega)
            exact ⟨q1, q0b, Ne.symm hne, HD.out.box.kept hdb hlt, by omega, by omega, D2.born (HD.out.bel.trans (hdb.mono HD.out.bel.size)) (HD.out.rows.kept hdb) q1 q0b (Ne.symm hne) l1 l0 p1 p0 HRG.out HK.out⟩)
          refine hK.out _ _ HQ.out.2.2.2.1 (fun hHeld => ?_)
          clear hK K hwb hlb ka kb q0 q1 hne q0b hdb HKA
          have e0 : (.pointer (some ⟨wd.heap.size, 0, none⟩) : Value) = .pointer (some ⟨n0, 0, none⟩) := by rw [hn0]
          have e1 : (.pointer (some ⟨wa.heap.size, 0, none⟩) : Value) = .pointer (some ⟨n1, 0, none⟩) := by rw [hn1]
          clear hn0 hn1
          try simp only [put_laws]
          rw [e0, e1]
          clear e0 e1
          refine wpAnyH_ready (rs := [4]) (by kernel_rfl) (by simp) ?_
          refine AllReadyH.cons rfl (fun K hK => ?_) AllReadyH.nil
          refine step31 rfl (.tmp 16) (.tmp 107) rfl _ s r rfl rfl _ HQ.out.1 ?_
          refine hK.out _ _ (HQ.out.2.2.2.1.other (Ne.symm HQ.out.2.2.2.2.1) _) (fun hHeld => ?_)
          clear hK K
          try simp only [put_laws]
          refine wpAnyH_ready (rs := [5]) (by kernel_rfl) (by simp) ?_
          refine AllReadyH.cons rfl (fun K hK => ?_) AllReadyH.nil
          refine step31 rfl (.tmp 17) (.tmp 108) rfl _ s r rfl rfl _ (HQ.out.2.1.other HQ.out.2.2.1 _) ?_
          refine hK.out _ _ ((HQ.out.2.2.2.1.other (Ne.symm HQ.out.2.2.2.2.1) _).other (Ne.symm HQ.out.2.2.2.2.2.1) _) (fun hHeld => ?_)
          clear hK K
          try simp only [put_laws]
          refine wpAnyH_done (by kernel_rfl) ?_ _
          go_wp2
          go_meet
          exact ⟨n1, n0, rfl, rfl, Lib.hid HQ.out.2.2.2.2.2.2⟩
        case rest =>
          obtain ⟨b5, b7, rfl, rfl, H4⟩ := hcut
          clear H3
          go_wp2_with fail
          go_loopw [111] (fun i wr => ∃ (m : Nat) (s' : St) (r1 r2 : R3), m ≤ n ∧ i = .int .i64 (m : Int) ∧ Hid (D2 w wr b5 b7 s' r1 r2)) (fun i _ => n - (intOf i).toNat)
          case atStart => exact ⟨0, s, r, r, by omega, by go_num, H4⟩
          case round =>
            clear H4
            obtain ⟨m, s', r1, r2, hm, rfl, HX⟩ := hrel
            by_cases hlt : m < n
            case neg =>
              go_wp2_with fail
              refine (E9.out _ HX.out.one.bel).mono ?_
              rintro e w4 ⟨rfl, hb4⟩
              go_wp2_with fail
              go_ret
              exact ⟨rfl, hb4⟩
            case pos =>
              have hml : m < l.length := by have := HN.out; omega
              obtain ⟨ab, off, rfl, c0, c1, c2, c3, c4, c5⟩ := acts_get HA.out HX.out.one.bel hml
              obtain ⟨a, hae⟩ : ∃ a, a = l[m] := ⟨_, rfl⟩
              have HKY : Hid (K64 a.ky) := Lib.hid (by rw [hae]; exact HA.out.1 _ (List.getElem_mem hml))
              rw [← hae] at c0 c1 c2 c3 c4 c5
              clear hae
              obtain ⟨kd, ky, ⟨p, cc, q, gg⟩⟩ := a
              dsimp only at c0 c1 c2 c3 c4 c5 HKY
              have b2 := alloc_below wr (.cells (acL kd ky p cc q gg) 45)
              have hg := heap_alloc_new wr (.cells (acL kd ky p cc q gg) 45)
              obtain ⟨w2', hw2⟩ : ∃ w2, w2 = wr.alloc (.cells (acL kd ky p cc q gg) 45) := ⟨_, rfl⟩
              obtain ⟨g, hge⟩ : ∃ g, g = wr.heap.size := ⟨_, rfl⟩
              rw [← hw2, ← hge] at hg
              rw [← hw2] at b2
              have H5 : Hid (D2 w w2' b5 b7 s' r1 r2 ∧ True) := Lib.hid ⟨HX.out.keep b2, trivial⟩
              have HGG := Lib.hid (And.intro hg (And.intro (show g ≠ b5 by have := HX.out.one.box.lt; omega) (show g ≠ b7 by have := HX.out.two.box.lt; omega)))
              have HW := Lib.hid (And.intro hw2 hge)
              have i0 : w2'.cell? ⟨g, 0, none⟩ = some (.int .i64 kd) := by rw [cell_of_head hg]; rfl
              have i1 : w2'.cell? ⟨g, 1, none⟩ = some (.int .u64 ky) := by rw [cell_of_head hg]; rfl
              have i2 : w2'.cell? ⟨g, 2, none⟩ = some (.int .i64 p) := by rw [cell_of_head hg]; rfl
              have i3 : w2'.cell? ⟨g, 3, none⟩ = some (.int .i64 cc) := by rw [cell_of_head hg]; rfl
              have i4 : w2'.cell? ⟨g, 4, none⟩ = some (.int .i64 q) := by rw [cell_of_head hg]; rfl
              have i5 : w2'.cell? ⟨g, 5, none⟩ = some (.int .i64 gg) := by rw [cell_of_head hg]; rfl
              clear b2 hg hw2 hge HX
              go_wp2_with (first | fail | (refine st45n rfl (.tmp 19) (.tmp 114) rfl _ _ _ _ _ _ rfl rfl _ rfl ?_; rw [← HW.out.1, ← HW.out.2]) | refine ld31 rfl (.tmp 16) rfl _ rfl _ H5.out.1.one.box ?_ | refine ld31 rfl (.tmp 17) rfl _ rfl _ H5.out.1.two.box ?_)
              refine (step_at s' r1 r2 kd ky p cc q gg H5.out.1.rg H5.out.1.kw w2' H5.out.1.one.rows H5.out.1.two.rows).mono ?_
              rintro e w3 ⟨q1, q2, rfl, hq1, hq2, f1, f2, hb3⟩
              have hyr := stp_rg H5.out.1.rg ⟨kd, ky, ⟨p, cc, q, gg⟩⟩
              have hyk := stp_kw H5.out.1.rg H5.out.1.kw ⟨kd, ky, ⟨p, cc, q, gg⟩⟩ HKY.out
              obtain ⟨y, hy⟩ : ∃ y, y = stp s' ⟨kd, ky, ⟨p, cc, q, gg⟩⟩ := ⟨_, rfl⟩
              rw [← hy] at hq1 hq2 hyr hyk
              rw [← hy]
              obtain ⟨wz, hwz⟩ : ∃ wz, wz = (w3.alloc (.cells (sA S0 R0) 31)).alloc (.cells (sA S0 R0) 31) := ⟨_, rfl⟩
              obtain ⟨b10, hb10⟩ : ∃ b, b = w3.heap.size := ⟨_, rfl⟩
              obtain ⟨b11, hb11⟩ : ∃ b, b = w3.heap.size + 1 := ⟨_, rfl⟩
              have ka := alloc_below w3 (.cells (sA S0 R0) 31)
              have kb := alloc_below (w3.alloc (.cells (sA S0 R0) 31)) (.cells (sA S0 R0) 31)
              have hb3z : Below w3.heap.size w3 wz := by rw [hwz]; exact ka.trans (kb.mono ka.size)
              have z10 : Box wz b10 (sA S0 R0) := by rw [hwz, hb10]; exact (box_alloc w3 _ (sA_len _ _)).kept kb (by simp)
              have z11 : Box wz b11 (sA S0 R0) := by rw [hwz, hb11]; have := box_alloc (w3.alloc (.cells (sA S0 R0) 31)) (sA S0 R0) (sA_len _ _); simpa using this
              have hZ : (w3.alloc (.cells #[.int .i64 0, .int .i64 0, .int .i64 0, .int .i64 0, .int .i64 0, .slice none 0 0, .slice none 0 0, .slice none 0 0, .int .i64 0, .int .i64 0, .int .u64 0, .int .u64 0, .int .u64 0, .int .u64 0, .int .u64 0, .int .u64 0, .int .u64 0, .int .u64 0, .int .u64 0, .int .u64 0] 31)).alloc (.cells #[.int .i64 0, .int .i64 0, .int .i64 0, .int .i64 0, .int .i64 0, .slice none 0 0, .slice none 0 0, .slice none 0 0, .int .i64 0, .int .i64 0, .int .u64 0, .int .u64 0, .int .u64 0, .int .u64 0, .int .u64 0, .int .u64 0, .int .u64 0, .int .u64 0, .int .u64 0, .int .u64 0] 31) = wz := hwz.symm
              obtain ⟨w4, hw4⟩ : ∃ w4, w4 = (wz.setRow b10 (sA y q1)).setRow b11 (sA y q2) := ⟨_, rfl⟩
              have hne : b10 ≠ b11 := by omega
              have hlo : w2'.heap.size ≤ b10 ∧ w2'.heap.size ≤ b11 := by have := hb3.size; omega
              have a10 : Ap b10 q1 ∧ Ap b10 q2 ∧ Ap b11 q1 ∧ Ap b11 q2 := ⟨hq1.old.ap (by omega), hq2.old.ap (by omega), hq1.old.ap (by omega), hq2.old.ap (by omega)⟩
              have hb2z := hb3.trans (hb3z.mono hb3.size)
              have H6 : Hid (Below w2'.heap.size w2' w4 ∧ Box w4 b10 (sA y q1) ∧ Box w4 b11 (sA y q2) ∧ SR w4 y q1 ∧ SR w4 y q2) := Lib.hid (by
                rw [hw4]
                exact ⟨below_setRow (below_setRow hb2z hlo.1) hlo.2, (z10.rowSet (sA_len _ _)).other (Ne.symm hne) _, (z11.other hne _).rowSet (sA_len _ _), ((hq1.kept hb3z).apRow a10.1).apRow a10.2.2.1, ((hq2.kept hb3z).apRow a10.2.1).apRow a10.2.2.2⟩)
              have HZ := Lib.hid hZ
              have HZB := Lib.hid (And.intro z10 (z11.other hne (sA y q1)))
              have HW4 := Lib.hid hw4
              have HF := Lib.hid (And.intro f1 (And.intro f2 (And.intro hlo (And.intro hyr (And.intro hyk trivial)))))
              have e10 : (.pointer (some ⟨w3.heap.size, 0, none⟩) : Value) = .pointer (some ⟨b10, 0, none⟩) := by rw [hb10]
              have e11 : (.pointer (some ⟨w3.heap.size + 1, 0, none⟩) : Value) = .pointer (some ⟨b11, 0, none⟩) := by rw [hb11]
              have HE := Lib.hid (And.intro e10 e11)
              clear hwz hb10 hb11 ka kb hb3z z10 z11 hZ hw4 hne hlo a10 hb2z hq1 hq2 f1 f2 hb3 hyr hyk hy c0 c1 c2 c3 c4 c5 i0 i1 i2 i3 i4 i5 HW e10 e11
              go_wp2_with (first | fail | (rw [HZ.out, HE.out.1, HE.out.2]; refine st31 rfl (.tmp 20) (.tmp 120) rfl _ y q1 rfl rfl _ HZB.out.1 ?_) | (refine st31 rfl (.tmp 21) (.tmp 121) rfl _ y q2 rfl rfl _ HZB.out.2 ?_; rw [← HW4.out]))
              clear HZ HZB HW4 HE
              have hbd : Below w4.heap.size w4 w4.drew := below_drew (Below.refl _ _) 1
              have HD : Hid (Below w2'.heap.size w2' w4.drew ∧ Box w4.drew b10 (sA y q1) ∧ Box w4.drew b11 (sA y q2) ∧ SR w4.drew y q1 ∧ SR w4.drew y q2 ∧ Box w4.drew b5 (sA s' r1) ∧ Box w4.drew b7 (sA s' r2)) := Lib.hid (by
                have h0 := H6.out.1.trans (hbd.mono H6.out.1.size)
                exact ⟨h0, H6.out.2.1.kept hbd H6.out.2.1.lt, H6.out.2.2.1.kept hbd H6.out.2.2.1.lt, H6.out.2.2.2.1.kept hbd, H6.out.2.2.2.2.kept hbd, H5.out.1.one.box.kept h0 H5.out.1.one.box.lt, H5.out.1.two.box.kept h0 H5.out.1.two.box.lt⟩)
              have hn4 : b10 ≠ b5 ∧ b10 ≠ b7 ∧ b11 ≠ b5 ∧ b11 ≠ b7 := by
                have h1 := H5.out.1.one.box.lt
                have h2 := H5.out.1.two.box.lt
                have h3 := HF.out.2.2.1
                omega
              have HN4 := Lib.hid hn4
              clear hbd H6 hn4
              refine wp_region_held_drew (S := fun V => Box V b10 (sA y q1) ∧ Box V b11 (sA y q2)) (by kernel_rfl) ⟨HD.out.2.1, HD.out.2.2.1⟩ (fun hHeld => ?_)
              generalize World.drew w4 = wd at hHeld HD ⊢
              refine wpAnyH_take (i := 0) (v := ?tval401) (by simp only [get_laws]; rfl) (by kernel_rfl) (by kernel_rfl) (by kernel_rfl) (by intro _ _ _ h; exact h) (Or.inl ⟨by rfl, ?teq401⟩) (by assumption) ?trest401
              case teq401 => (intro w0 q; refine exec31 (.tmp 20) ?_ ?_ q.1 <;> rfl)
              try simp only [put_laws]
              refine wpAnyH_take (i := 1) (v := ?tval402) (by simp only [get_laws]; rfl) (by kernel_rfl) (by kernel_rfl) (by kernel_rfl) (by intro _ _ _ h; exact h) (Or.inl ⟨by rfl, ?teq402⟩) (by assumption) ?trest402
              case teq402 => (intro w0 q; refine exec31 (.tmp 21) ?_ ?_ q.2 <;> rfl)
              try simp only [put_laws]
              refine wpAnyH_ready (rs := [2]) (by kernel_rfl) (by simp) ?_
              refine AllReadyH.cons rfl (fun K hK => ?_) AllReadyH.nil
              refine step31 rfl (.tmp 16) (.tmp 123) rfl _ y q1 rfl rfl _ HD.out.2.2.2.2.2.1 ?_
              refine hK.out _ _ ⟨HD.out.2.1.other (Ne.symm HN4.out.1) _, HD.out.2.2.1.other (Ne.symm HN4.out.2.2.1) _⟩ (fun hHeld => ?_)
              clear hK K
              try simp only [put_laws]
              refine wpAnyH_ready (rs := [3]) (by kernel_rfl) (by simp) ?_
              refine AllReadyH.cons rfl (fun K hK => ?_) AllReadyH.nil
              refine step31 rfl (.tmp 17) (.tmp 124) rfl _ y q2 rfl rfl _ (HD.out.2.2.2.2.2.2.other H5.out.1.ne _) ?_
              refine hK.out _ _ ⟨(HD.out.2.1.other (Ne.symm HN4.out.1) _).other (Ne.symm HN4.out.2.1) _, (HD.out.2.2.1.other (Ne.symm HN4.out.2.2.1) _).other (Ne.symm HN4.out.2.2.2) _⟩ (fun hHeld => ?_)
              clear hK K
              try simp only [put_laws]
              refine wpAnyH_done (by kernel_rfl) ?_ _
              obtain ⟨w9, hw9⟩ : ∃ w9, w9 = (wd.setRow b5 (sA y q1)).setRow b7 (sA y q2) := ⟨_, rfl⟩
              have H9 : Hid (D2 w w9 b5 b7 y q1 q2 ∧ w9.heap[g]? = some (.cells (acL kd ky p cc q gg) 45 (0, 0))) := Lib.hid (by
                rw [hw9]
                exact ⟨ H5.out.1.put HD.out.1 HD.out.2.2.2.1 HD.out.2.2.2.2.1 HF.out.1 HF.out.2.1 HF.out.2.2.2.1 HF.out.2.2.2.2.1, by rw [setRow_other _ _ _ _ HGG.out.2.2, setRow_other _ _ _ _ HGG.out.2.1, HD.out.1.block g (Array.getElem?_eq_some_iff.1 HGG.out.1).1]; exact HGG.out.1⟩)
              have HW9 := Lib.hid hw9
              rw [← HW9.out]
              clear hHeld hw9 HGG HD HF H5 HN4 HW9
              have DS : Hid (∀ V, Below w9.heap.size w9 V → D2 w V b5 b7 y q1 q2) := Lib.hid (fun V hV => H9.out.1.keep hV)
              have xk : ∀ W : GrB w9, W.v.cell? ⟨g, 1, none⟩ = some (.int .u64 ky) := fun W => by
                have h : W.v.heap[g]? = some (.cells (acL kd ky p cc q gg) 45 (0, 0)) := by rw [W.h.block g (Array.getElem?_eq_some_iff.1 H9.out.2).1]; exact H9.out.2
                rw [cell_of_head h]; rfl
              obtain ⟨d, hd⟩ : ∃ d, d = decide (KptW y ky) := ⟨_, rfl⟩
              have QA : Hid (∀ V, (∃ p : GrB w9, V = p.v) → Box V b5 (sA y q1)) := Lib.hid (fun V ⟨p, hp⟩ => by rw [hp]; exact (DS.out _ p.h).one.box)
              have QC : Hid (∀ V, (∃ p : GrB w9, V = p.v) → Box V b7 (sA y q2)) := Lib.hid (fun V ⟨p, hp⟩ => by rw [hp]; exact (DS.out _ p.h).two.box)
              have D15 : Hid (∀ W : GrB w9, Calls Try.prog 15 #[sV y q1, sV y q2] W.v fun e w' => e = .returned (.bool true) ∧ ∃ W' : GrB w9, w' = W'.v) := Lib.hid (grown_call (w := w9) fun V hV => state_same y q1 q2 ((rg_lim H9.out.1.rg).up (by omega)) V (DS.out V hV).one.rows (DS.out V hV).two.rows)
              have D17 : Hid (∀ W : GrB w9, Calls Try.prog 17 #[sV y q1, .int .u64 ky] W.v fun e w' => e = .returned (.bool d) ∧ ∃ W' : GrB w9, w' = W'.v) := Lib.hid (grown_call (w := w9) fun V hV => (pkept_at y q1 ky H9.out.1.rg (rg_lim' H9.out.1.rg) H9.out.1.kw V (DS.out V hV).one.rows).mono fun e w' ⟨e1, e2⟩ => ⟨by rw [e1, hd], e2⟩)
              have D18 : Hid (∀ W : GrB w9, Calls Try.prog 18 #[sV y q2, .int .u64 ky] W.v fun e w' => e = .returned (.bool d) ∧ ∃ W' : GrB w9, w' = W'.v) := Lib.hid (grown_call (w := w9) fun V hV => (kept_at y q2 ky (by have := rg_len H9.out.1.rg; omega) V (DS.out V hV).two.rows).mono fun e w' ⟨e1, e2⟩ => ⟨by rw [e1, hd], e2⟩)
              clear hd
              cases d <;> {
                go_wp2_with fail
                refine region_grown (by kernel_rfl) (by kernel_rfl) ?_
                repeat (first | go_big_quiet_skip | (refine qld31q (.tmp 16) rfl (by kernel_rfl) _ rfl _ QA.out ?_; simp only [Act.put, List.setIfInBounds_toArray, List.set_cons_succ, List.set_cons_zero]) | (refine qld31q (.tmp 17) rfl (by kernel_rfl) _ rfl _ QC.out ?_; simp only [Act.put, List.setIfInBounds_toArray, List.set_cons_succ, List.set_cons_zero]) | go_big_quiet_step (first | (go_at_call 15; exact D15.out _) | (go_at_call 17; exact D17.out _) | (go_at_call 18; exact D18.out _)))
                refine wpQuiet_nil ?_
                rintro w10 ⟨⟨wz9, hg10⟩, rfl⟩
                have H10 := Lib.hid (DS.out _ hg10)
                clear hg10 xk QA QC D15 D17 D18 DS H9
                go_wp2_with fail
                go_round
                case rel => exact ⟨m + 1, y, q1, q2, by omega, by go_num, H10⟩
                case measure => simp only [intOf]; omega }
end Go.Proofs.Ytejcahkkpednfaa
