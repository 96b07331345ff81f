/-
  Law WheelHolds: the walk.
-/
import Derived.Test.YtejcahkkpednfaaG28
namespace Go.Proofs.Ytejcahkkpednfaa
open Go.RowKit
open Go.Proofs.StackM (Pg Cf Ct St up many fnd fnd_at fnd_no)
open Go.Proofs.WheelM
set_option linter.unusedVariables false
/-- a state in its box, right, its keys numbers -/
structure HS (w0 w : World) (b : Nat) (s : St) (r : R3) : Prop where
  bs : BS w0 w b s r
  rg : Rg s
  kw : Kw s
theorem HS.keep {w0 w w' : World} {b : Nat} {s : St} {r : R3} (x : HS w0 w b s r) (hb : Below w.heap.size w w') : HS w0 w' b s r := ⟨x.bs.keep hb, x.rg, x.kw⟩
theorem HS.put {w0 w w1 : World} {b : Nat} {s s1 : St} {r r1 : R3} (x : HS w0 w b s r) (hb : Below w.heap.size w w1) (hr : SR w1 s1 r1) (hf : Frm w.heap.size r r1) (h1 : Rg s1) (h2 : Kw s1) : HS w0 (w1.setRow b (sA s1 r1)) b s1 r1 :=
  ⟨x.bs.put hb hr hf, h1, h2⟩
theorem rBW_rg {s : St} (h : Rg s) : rBW s = true := rBW_true ((rt_rg s).2 h)
set_option maxHeartbeats 2000000 in
set_option maxRecDepth 100000 in
theorem wheelHolds_law (s : St) (r : R3) (A : Option Addr) (cap : Nat) (l : List Ac) (hk : Kw s) (w : World) (hr : SR w s r) (ha : ActsAt w A cap l) : Calls Try.prog 5 #[sV s r, .slice A l.length cap] w fun e w' => e = .returned (.bool true) ∧ Below w.heap.size w w' := by
  obtain ⟨n, hn⟩ : ∃ n, n = l.length := ⟨_, rfl⟩
  rw [← hn]
  obtain ⟨w1, hw1⟩ : ∃ w1, w1 = w.alloc (.cells (sA s r) 31) := ⟨_, rfl⟩
  obtain ⟨b, hbe⟩ : ∃ b, b = w.heap.size := ⟨_, rfl⟩
  have H1 : Hid (BS w w1 b s r) := Lib.hid (by rw [hw1, hbe]; exact BS.new hr (Below.refl _ _))
  have HW := Lib.hid (And.intro hw1 hbe)
  have HA := Lib.hid ha
  have HN := Lib.hid hn
  have HK := Lib.hid hk
  clear hw1 hbe hr hk ha hn
  go_enter Try.func5, Try.ntmps5
  by_cases h60 : 60 < n
  case pos =>
    go_wp2_with (first | fail | rw [← HW.out.1, ← HW.out.2])
    refine Calls.mono (alive_at w1) ?_
    rintro e w3 ⟨rfl, hb3⟩
    have H3 := Lib.hid (H1.out.keep hb3)
    clear hb3 H1
    go_wp2_with fail
    go_ret
    exact ⟨rfl, H3.out.bel⟩
  case neg =>
    have hd : decide ((60 : Int) < (n : Int)) = false := decide_eq_false (by omega)
    go_wp2_with (first | fail | rw [← HW.out.1, ← HW.out.2] | refine ld31g rfl (.tmp 2) rfl _ rfl _ H1.out.box ?_)
    refine Calls.mono (small_at s r 60 (by omega) w1) ?_
    rintro e w2 ⟨rfl, hb2⟩
    have H2 := Lib.hid (H1.out.keep hb2)
    clear hb2 H1 HW hd
    by_cases hl : Lim s 60
    case neg =>
      rw [decide_eq_false hl]
      go_wp2_with fail
      refine Calls.mono (alive_at w2) ?_
      rintro e w3 ⟨rfl, hb3⟩
      have H3 := Lib.hid (H2.out.keep hb3)
      clear hb3 H2
      go_wp2_with fail
      go_ret
      exact ⟨rfl, H3.out.bel⟩
    case pos =>
      rw [decide_eq_true hl]
      have HL := Lib.hid hl
      clear hl
      go_wp2_with (first | fail | refine ld31g rfl (.tmp 2) rfl _ rfl _ H2.out.box ?_)
      refine Calls.mono (right_at s r (HL.out.up (by omega)) w2 H2.out.rows) ?_
      rintro e w3 ⟨rfl, hb3⟩
      have H3 := Lib.hid (H2.out.keep hb3)
      clear hb3 H2
      by_cases hrg : Rg s
      case neg =>
        rw [rBW_false (fun h => hrg ((rt_rg s).1 h))]
        go_wp2_with fail
        refine Calls.mono (alive_at w3) ?_
        rintro e w4 ⟨rfl, hb4⟩
        have H4 := Lib.hid (H3.out.keep hb4)
        clear hb4 H3
        go_wp2_with fail
        go_ret
        exact ⟨rfl, H4.out.bel⟩
      case pos =>
        rw [rBW_rg hrg]
        have H4 : Hid (HS w w3 b s r) := Lib.hid ⟨H3.out, hrg, HK.out⟩
        clear hrg H3 HL HK
        go_wp2_with fail
        go_loopw [6, 7, 8, 9, 26] (fun _ _ _ _ i wr => ∃ (m : Nat) (s' : St) (r' : R3), m ≤ n ∧ i = .int .i64 (m : Int) ∧ Hid (HS w wr b s' r')) (fun _ _ _ _ i _ => n - (intOf i).toNat)
        case atStart => exact ⟨0, s, r, by omega, by go_num, H4⟩
        case round =>
          clear H4
          obtain ⟨m, s', r', hm, rfl, HS1⟩ := hrel
          by_cases hlt : m < n
          case neg =>
            go_wp2_with fail
            refine Calls.mono (alive_at wr) ?_
            rintro e w4 ⟨rfl, hb4⟩
            have H4 := Lib.hid (HS1.out.keep hb4)
            clear hb4 HS1
            go_wp2_with fail
            go_ret
            exact ⟨rfl, H4.out.bs.bel⟩
          case pos =>
            have hml : m < l.length := by have := HN.out; omega
            obtain ⟨ab, off, rfl, c0, c1, c2, c3, c4, c5⟩ := acts_get HA.out HS1.out.bs.bel hml
            obtain ⟨a, hae⟩ : ∃ a, a = l[m] := ⟨_, rfl⟩
            have HKY : Hid (K64 a.ky) := Lib.hid (by rw [hae]; exact HA.out.1 _ (List.getElem_mem hml))
            rw [← hae] at c0 c1 c2 c3 c4 c5
            clear hae
            obtain ⟨kd, ky, ⟨p, c, q, gg⟩⟩ := a
            dsimp only at c0 c1 c2 c3 c4 c5 HKY
            have b2 := alloc_below wr (.cells #[.int .i64 kd, .int .u64 ky, .int .i64 p, .int .i64 c, .int .i64 q, .int .i64 gg] 45)
            have hg := heap_alloc_new wr (.cells #[.int .i64 kd, .int .u64 ky, .int .i64 p, .int .i64 c, .int .i64 q, .int .i64 gg] 45)
            obtain ⟨w2', hw2⟩ : ∃ w2, w2 = wr.alloc (.cells #[.int .i64 kd, .int .u64 ky, .int .i64 p, .int .i64 c, .int .i64 q, .int .i64 gg] 45) := ⟨_, rfl⟩
            obtain ⟨g, hge⟩ : ∃ g, g = wr.heap.size := ⟨_, rfl⟩
            rw [← hw2, ← hge] at hg
            rw [← hw2] at b2
            have H5 := Lib.hid (HS1.out.keep b2)
            have HW := Lib.hid (And.intro hw2 hge)
            have HG : Hid (∀ V, Below w2'.heap.size w2' V → V.heap[g]? = some (.cells #[.int .i64 kd, .int .u64 ky, .int .i64 p, .int .i64 c, .int .i64 q, .int .i64 gg] 45 (0, 0))) := Lib.hid (fun V hV => by rw [hV.block g (Array.getElem?_eq_some_iff.1 hg).1]; exact hg)
            have i0 : w2'.cell? ⟨g, 0, none⟩ = some (.int .i64 kd) := by rw [cell_of_head hg]; rfl
            have i1 : w2'.cell? ⟨g, 1, none⟩ = some (.int .u64 ky) := by rw [cell_of_head hg]; rfl
            have i2 : w2'.cell? ⟨g, 2, none⟩ = some (.int .i64 p) := by rw [cell_of_head hg]; rfl
            have i3 : w2'.cell? ⟨g, 3, none⟩ = some (.int .i64 c) := by rw [cell_of_head hg]; rfl
            have i4 : w2'.cell? ⟨g, 4, none⟩ = some (.int .i64 q) := by rw [cell_of_head hg]; rfl
            have i5 : w2'.cell? ⟨g, 5, none⟩ = some (.int .i64 gg) := by rw [cell_of_head hg]; rfl
            clear b2 hg hw2 hge HS1
            by_cases k2 : kd = 2
            · subst k2
              go_wp2_with (first | fail | (refine st45n rfl (.tmp 6) (.tmp 29) rfl _ _ _ _ _ _ rfl rfl _ rfl ?_; rw [← HW.out.1, ← HW.out.2]) | refine ld31 rfl (.tmp 2) rfl _ rfl _ H5.out.bs.box ?_)
              refine (ptouch_at s' r' ky H5.out.rg (rg_lim' H5.out.rg) H5.out.kw w2' H5.out.bs.rows).mono ?_
              rintro e w3 ⟨r3, rfl, hr3, hf3, hb3⟩
              have H6 : Hid (HS w (w3.setRow b (sA (touchW s' ky) r3)) b (touchW s' ky) r3) := Lib.hid (H5.out.put hb3 hr3 hf3 (touch_rg H5.out.rg ky) (kw_touch H5.out.rg H5.out.kw _))
              have HB := Lib.hid (H5.out.bs.box.kept hb3 H5.out.bs.box.lt)
              obtain ⟨s1, hs1⟩ : ∃ s1, s1 = touchW s' ky := ⟨_, rfl⟩
              rw [← hs1] at H6
              rw [← hs1]
              clear hb3 hr3 hf3 H5 hs1 c0 c1 c2 c3 c4 c5 i0 i1 i2 i3 i4 i5 HG HW
              go_wp2_with (first | fail | refine st31 rfl (.tmp 2) (.tmp 57) rfl _ s1 r3 rfl rfl _ HB.out ?_ | refine ld31 rfl (.tmp 2) rfl _ rfl _ H6.out.bs.box ?_)
              clear HB
              refine Calls.mono (right_at s1 r3 (rg_lim H6.out.rg |>.up (by omega)) _ H6.out.bs.rows) ?_
              rintro e w8 ⟨rfl, hb8⟩
              rw [rBW_rg H6.out.rg]
              have H8 := Lib.hid (H6.out.keep hb8)
              clear hb8 H6
              go_wp2_with (first | fail | refine ld31g rfl (.tmp 2) rfl _ rfl _ H8.out.bs.box ?_)
              refine Calls.mono (right_yes s1 r3 H8.out.rg (rg_lim H8.out.rg |>.up (by omega)) H8.out.kw w8 H8.out.bs.rows) ?_
              rintro e w9 ⟨rfl, hb9⟩
              have H9 := Lib.hid (H8.out.keep hb9)
              clear hb9 H8
              go_wp2_with fail
              go_round
              case rel => exact ⟨m + 1, s1, r3, by omega, by go_num, H9⟩
              case measure => simp only [intOf]; omega
            · by_cases k4 : kd = 4
              · subst k4
                go_wp2_with (first | fail | (refine st45n rfl (.tmp 6) (.tmp 29) rfl _ _ _ _ _ _ rfl rfl _ rfl ?_; rw [← HW.out.1, ← HW.out.2]) | refine ld31 rfl (.tmp 2) rfl _ rfl _ H5.out.bs.box ?_)
                refine (pdrop_at s' r' ky H5.out.rg (rg_lim' H5.out.rg) H5.out.kw w2' H5.out.bs.rows).mono ?_
                rintro e w3 ⟨r3, rfl, hr3, hf3, hb3⟩
                have H6 : Hid (HS w (w3.setRow b (sA (dropW s' ky) r3)) b (dropW s' ky) r3) := Lib.hid (H5.out.put hb3 hr3 hf3 (drop_rg H5.out.rg ky) (kw_drop H5.out.rg H5.out.kw ky))
                have HB := Lib.hid (H5.out.bs.box.kept hb3 H5.out.bs.box.lt)
                obtain ⟨s1, hs1⟩ : ∃ s1, s1 = dropW s' ky := ⟨_, rfl⟩
                rw [← hs1] at H6
                rw [← hs1]
                clear hb3 hr3 hf3 H5 hs1 c0 c1 c2 c3 c4 c5 i0 i1 i2 i3 i4 i5 HG HW
                go_wp2_with (first | fail | refine st31 rfl (.tmp 2) (.tmp 66) rfl _ s1 r3 rfl rfl _ HB.out ?_ | refine ld31 rfl (.tmp 2) rfl _ rfl _ H6.out.bs.box ?_)
                clear HB
                refine Calls.mono (right_at s1 r3 (rg_lim H6.out.rg |>.up (by omega)) _ H6.out.bs.rows) ?_
                rintro e w8 ⟨rfl, hb8⟩
                rw [rBW_rg H6.out.rg]
                have H8 := Lib.hid (H6.out.keep hb8)
                clear hb8 H6
                go_wp2_with (first | fail | refine ld31g rfl (.tmp 2) rfl _ rfl _ H8.out.bs.box ?_)
                refine Calls.mono (right_yes s1 r3 H8.out.rg (rg_lim H8.out.rg |>.up (by omega)) H8.out.kw w8 H8.out.bs.rows) ?_
                rintro e w9 ⟨rfl, hb9⟩
                have H9 := Lib.hid (H8.out.keep hb9)
                clear hb9 H8
                go_wp2_with fail
                go_round
                case rel => exact ⟨m + 1, s1, r3, by omega, by go_num, H9⟩
                case measure => simp only [intOf]; omega
              · by_cases k5 : kd = 5
                · subst k5
                  by_cases hcl : Cl ⟨p, c, q, gg⟩
                  · go_wp2_with (first | fail | (refine st45n rfl (.tmp 6) (.tmp 29) rfl _ _ _ _ _ _ rfl rfl _ rfl ?_; rw [← HW.out.1, ← HW.out.2]) | refine ld31 rfl (.tmp 2) rfl _ rfl _ H5.out.bs.box ?_)
                    refine (show Calls Try.prog 14 #[sV s' r', .agg #[.int .i64 p, .int .i64 c, .int .i64 q, .int .i64 gg]] w2' _ from presize_yes s' r' ⟨p, c, q, gg⟩ H5.out.rg (rg_lim' H5.out.rg) H5.out.kw w2' H5.out.bs.rows hcl).mono ?_
                    rintro e w3 ⟨r3, A3, n3, cc3, rfl, hn3, hr3, hu3, hA3, hf3, hb3⟩
                    have H6 : Hid (HS w (w3.setRow b (sA (resizeW s' ⟨p, c, q, gg⟩) r3)) b (resizeW s' ⟨p, c, q, gg⟩) r3) := Lib.hid (H5.out.put hb3 hr3 hf3 (resize_rg H5.out.rg _ hcl) (kw_resize H5.out.rg H5.out.kw _ hcl))
                    have HB := Lib.hid (H5.out.bs.box.kept hb3 H5.out.bs.box.lt)
                    obtain ⟨s1, hs1⟩ : ∃ s1, s1 = resizeW s' ⟨p, c, q, gg⟩ := ⟨_, rfl⟩
                    rw [← hs1] at H6
                    rw [← hs1]
                    clear hb3 hr3 hf3 hn3 hu3 hA3 H5 hs1 c0 c1 c2 c3 c4 c5 i0 i1 i2 i3 i4 i5 HG HW hcl
                    go_wp2_with (first | fail | refine st31 rfl (.tmp 2) (.tmp 75) rfl _ s1 r3 rfl rfl _ HB.out ?_ | refine ld31 rfl (.tmp 2) rfl _ rfl _ H6.out.bs.box ?_)
                    clear HB
                    refine Calls.mono (right_at s1 r3 (rg_lim H6.out.rg |>.up (by omega)) _ H6.out.bs.rows) ?_
                    rintro e w8 ⟨rfl, hb8⟩
                    rw [rBW_rg H6.out.rg]
                    have H8 := Lib.hid (H6.out.keep hb8)
                    clear hb8 H6
                    go_wp2_with (first | fail | refine ld31g rfl (.tmp 2) rfl _ rfl _ H8.out.bs.box ?_)
                    refine Calls.mono (right_yes s1 r3 H8.out.rg (rg_lim H8.out.rg |>.up (by omega)) H8.out.kw w8 H8.out.bs.rows) ?_
                    rintro e w9 ⟨rfl, hb9⟩
                    have H9 := Lib.hid (H8.out.keep hb9)
                    clear hb9 H8
                    go_wp2_with fail
                    go_round
                    case rel => exact ⟨m + 1, s1, r3, by omega, by go_num, H9⟩
                    case measure => simp only [intOf]; omega
                  · go_wp2_with (first | fail | (refine st45n rfl (.tmp 6) (.tmp 29) rfl _ _ _ _ _ _ rfl rfl _ rfl ?_; rw [← HW.out.1, ← HW.out.2]) | refine ld31 rfl (.tmp 2) rfl _ rfl _ H5.out.bs.box ?_)
                    refine (show Calls Try.prog 14 #[sV s' r', .agg #[.int .i64 p, .int .i64 c, .int .i64 q, .int .i64 gg]] w2' _ from presize_cfg s' r' ⟨p, c, q, gg⟩ H5.out.rg (rg_lim' H5.out.rg) H5.out.kw w2' H5.out.bs.rows hcl).mono ?_
                    rintro e w3 ⟨r3, A3, n3, cc3, rfl, hn3, hr3, hu3, hA3, hf3, hb3⟩
                    have H6 : Hid (HS w (w3.setRow b (sA (s') r3)) b (s') r3) := Lib.hid (H5.out.put hb3 hr3 hf3 (H5.out.rg) (H5.out.kw))
                    have HB := Lib.hid (H5.out.bs.box.kept hb3 H5.out.bs.box.lt)
                    obtain ⟨s1, hs1⟩ : ∃ s1, s1 = s' := ⟨_, rfl⟩
                    rw [← hs1] at H6
                    rw [← hs1]
                    clear hb3 hr3 hf3 hn3 hu3 hA3 H5 hs1 c0 c1 c2 c3 c4 c5 i0 i1 i2 i3 i4 i5 HG HW hcl
                    go_wp2_with (first | fail | refine st31 rfl (.tmp 2) (.tmp 75) rfl _ s1 r3 rfl rfl _ HB.out ?_ | refine ld31 rfl (.tmp 2) rfl _ rfl _ H6.out.bs.box ?_)
                    clear HB
                    refine Calls.mono (right_at s1 r3 (rg_lim H6.out.rg |>.up (by omega)) _ H6.out.bs.rows) ?_
                    rintro e w8 ⟨rfl, hb8⟩
                    rw [rBW_rg H6.out.rg]
                    have H8 := Lib.hid (H6.out.keep hb8)
                    clear hb8 H6
                    go_wp2_with (first | fail | refine ld31g rfl (.tmp 2) rfl _ rfl _ H8.out.bs.box ?_)
                    refine Calls.mono (right_yes s1 r3 H8.out.rg (rg_lim H8.out.rg |>.up (by omega)) H8.out.kw w8 H8.out.bs.rows) ?_
                    rintro e w9 ⟨rfl, hb9⟩
                    have H9 := Lib.hid (H8.out.keep hb9)
                    clear hb9 H8
                    go_wp2_with fail
                    go_round
                    case rel => exact ⟨m + 1, s1, r3, by omega, by go_num, H9⟩
                    case measure => simp only [intOf]; omega
                · go_wp2_with (first | fail | (refine st45n rfl (.tmp 6) (.tmp 29) rfl _ _ _ _ _ _ rfl rfl _ rfl ?_; rw [← HW.out.1, ← HW.out.2]) | refine ld31 rfl (.tmp 2) rfl _ rfl _ H5.out.bs.box ?_)
                  have C12 := padmit_at s' r' ky H5.out.rg (rg_lim' H5.out.rg) H5.out.kw w2' H5.out.bs.rows
                  by_cases hkp : KptW s' ky
                  · rw [decide_eq_true hkp] at C12
                    refine C12.mono ?_
                    rintro e w3 ⟨r3, A3, n3, cc3, rfl, hn3, hr3, hu3, hA3, hf3, hb3⟩
                    obtain ⟨s1, hs1⟩ : ∃ s1, s1 = admitW s' ky := ⟨_, rfl⟩
                    rw [← hs1] at hr3
                    rw [← hs1]
                    obtain ⟨w4, hw4⟩ : ∃ w4, w4 = w3.alloc (.cells (sA s1 r3) 31) := ⟨_, rfl⟩
                    obtain ⟨b4, hb4⟩ : ∃ b, b = w3.heap.size := ⟨_, rfl⟩
                    have hb34 : Below w3.heap.size w3 w4 := by rw [hw4]; exact alloc_below _ _
                    have hb24 := hb3.trans (hb34.mono hb3.size)
                    have H6 : Hid (HS w w4 b s' r' ∧ Box w4 b4 (sA s1 r3) ∧ w2'.heap.size ≤ b4 ∧ Below w2'.heap.size w2' w4) := Lib.hid ⟨H5.out.keep hb24, by rw [hw4, hb4]; exact box_alloc w3 (sA s1 r3) (sA_len _ _), by rw [hb4]; exact hb3.size, hb24⟩
                    have HW4 := Lib.hid (And.intro hw4 hb4)
                    have i1 : w4.cell? ⟨g, 1, none⟩ = some (.int .u64 ky) := by rw [cell_of_head (HG.out _ hb24)]; rfl
                    clear hb3 hb34 hb24 hr3 hu3 hA3 hf3 hn3 hw4 hb4 hs1 c0 c1 c2 c3 c4 c5 i0 i2 i3 i4 i5 HG HW C12
                    go_wp2_with (first | fail | (refine st31n rfl (.tmp 7) (.tmp 37) rfl s1 r3 rfl rfl _ rfl ?_; rw [← HW4.out.1, ← HW4.out.2]) | refine ld31 rfl (.tmp 2) rfl _ rfl _ H6.out.1.bs.box ?_)
                    refine (ptouch_at s' r' ky H6.out.1.rg (rg_lim' H6.out.1.rg) H6.out.1.kw w4 H6.out.1.bs.rows).mono ?_
                    rintro e w5 ⟨r5, rfl, hr5, hf5, hb5⟩
                    have hB4 := H6.out.2.1.kept hb5 H6.out.2.1.lt
                    have ap4 : Ap b4 r5 := (H5.out.bs.rows.old.ap H6.out.2.2.1).frm hf5 H6.out.2.1.lt
                    have hsr : SR (w5.setRow b4 (sA (touchW s' ky) r5)) (touchW s' ky) r5 := hr5.apRow ap4
                    have hbel : Below w2'.heap.size w2' (w5.setRow b4 (sA (touchW s' ky) r5)) := below_setRow (H6.out.2.2.2.trans (hb5.mono H6.out.2.2.2.size)) H6.out.2.2.1
                    obtain ⟨s1', hs1⟩ : ∃ s1, s1 = touchW s' ky := ⟨_, rfl⟩
                    have hput := H5.out.put hbel hsr (hf5.weak H6.out.2.2.2.size) (touch_rg H5.out.rg ky) (kw_touch H5.out.rg H5.out.kw _)
                    have hbx := hB4.rowSet (cs := sA s1 r3) (ds := sA s1' r5) (sA_len _ _)
                    have hne : b ≠ b4 := by have := H5.out.bs.box.lt; have := H6.out.2.2.1; omega
                    have hb6 : Box (w5.setRow b4 (sA s1' r5)) b (sA s' r') := (H6.out.1.bs.box.kept hb5 H6.out.1.bs.box.lt).other (Ne.symm hne) _
                    rw [← hs1] at hput
                    obtain ⟨w6, hw6⟩ : ∃ w6, w6 = w5.setRow b4 (sA s1' r5) := ⟨_, rfl⟩
                    rw [← hw6] at hput hbx hb6
                    have H7 := Lib.hid (And.intro hput (And.intro hbx (And.intro hB4 hb6)))
                    have HW6 := Lib.hid hw6
                    rw [← hs1]
                    clear hput hbx hB4 hb6 hw6 hs1 hne hbel hsr ap4 hr5 hf5 hb5 H5 HW4 i1
                    go_wp2_with (first | fail | (refine st31 rfl (.tmp 7) (.tmp 47) rfl _ s1' r5 rfl rfl _ H7.out.2.2.1 ?_; rw [← HW6.out]) | refine ld31 rfl (.tmp 7) rfl _ rfl _ H7.out.2.1 ?_ | refine st31 rfl (.tmp 2) (.tmp 49) rfl _ s1' r5 rfl rfl _ H7.out.2.2.2 ?_ | refine ld31 rfl (.tmp 2) rfl _ rfl _ H7.out.1.bs.box ?_)
                    have H10 : Hid (HS w (w6.setRow b (sA s1' r5)) b s1' r5) := Lib.hid H7.out.1
                    clear H7 HW6 H6
                    refine Calls.mono (right_at s1' r5 (rg_lim H10.out.rg |>.up (by omega)) _ H10.out.bs.rows) ?_
                    rintro e w8 ⟨rfl, hb8⟩
                    rw [rBW_rg H10.out.rg]
                    have H8 := Lib.hid (H10.out.keep hb8)
                    clear hb8 H10
                    go_wp2_with (first | fail | refine ld31g rfl (.tmp 2) rfl _ rfl _ H8.out.bs.box ?_)
                    refine Calls.mono (right_yes s1' r5 H8.out.rg (rg_lim H8.out.rg |>.up (by omega)) H8.out.kw w8 H8.out.bs.rows) ?_
                    rintro e w9 ⟨rfl, hb9⟩
                    have H9 := Lib.hid (H8.out.keep hb9)
                    clear hb9 H8
                    go_wp2_with fail
                    go_round
                    case rel => exact ⟨m + 1, s1', r5, by omega, by go_num, H9⟩
                    case measure => simp only [intOf]; omega
                  · rw [decide_eq_false hkp] at C12
                    refine C12.mono ?_
                    rintro e w3 ⟨r3, A3, n3, cc3, rfl, hn3, hr3, hu3, hA3, hf3, hb3⟩
                    have hrg := admit_rg H5.out.rg ky
                    have hkw := kw_admit H5.out.rg H5.out.kw HKY.out
                    obtain ⟨s1, hs1⟩ : ∃ s1, s1 = admitW s' ky := ⟨_, rfl⟩
                    rw [← hs1] at hr3 hrg hkw
                    rw [← hs1]
                    obtain ⟨w4, hw4⟩ : ∃ w4, w4 = w3.alloc (.cells (sA s1 r3) 31) := ⟨_, rfl⟩
                    obtain ⟨b4, hb4⟩ : ∃ b, b = w3.heap.size := ⟨_, rfl⟩
                    have hb34 : Below w3.heap.size w3 w4 := by rw [hw4]; exact alloc_below _ _
                    have hb24 := hb3.trans (hb34.mono hb3.size)
                    have H6 : Hid (HS w (w4.setRow b (sA s1 r3)) b s1 r3 ∧ Box w4 b4 (sA s1 r3) ∧ Box w4 b (sA s' r')) := Lib.hid ⟨H5.out.put hb24 (hr3.kept hb34) hf3 hrg hkw, by rw [hw4, hb4]; exact box_alloc w3 (sA s1 r3) (sA_len _ _), H5.out.bs.box.kept hb24 H5.out.bs.box.lt⟩
                    have HW4 := Lib.hid (And.intro hw4 hb4)
                    clear hb3 hb34 hb24 hr3 hu3 hA3 hf3 hn3 hw4 hb4 hs1 hrg hkw c0 c1 c2 c3 c4 c5 i0 i1 i2 i3 i4 i5 HG HW C12 H5
                    go_wp2_with (first | fail | (refine st31n rfl (.tmp 7) (.tmp 37) rfl s1 r3 rfl rfl _ rfl ?_; rw [← HW4.out.1, ← HW4.out.2]) | refine ld31 rfl (.tmp 7) rfl _ rfl _ H6.out.2.1 ?_ | refine st31 rfl (.tmp 2) (.tmp 49) rfl _ s1 r3 rfl rfl _ H6.out.2.2 ?_ | refine ld31 rfl (.tmp 2) rfl _ rfl _ H6.out.1.bs.box ?_)
                    have H10 : Hid (HS w (w4.setRow b (sA s1 r3)) b s1 r3) := Lib.hid H6.out.1
                    clear H6 HW4
                    refine Calls.mono (right_at s1 r3 (rg_lim H10.out.rg |>.up (by omega)) _ H10.out.bs.rows) ?_
                    rintro e w8 ⟨rfl, hb8⟩
                    rw [rBW_rg H10.out.rg]
                    have H8 := Lib.hid (H10.out.keep hb8)
                    clear hb8 H10
                    go_wp2_with (first | fail | refine ld31g rfl (.tmp 2) rfl _ rfl _ H8.out.bs.box ?_)
                    refine Calls.mono (right_yes s1 r3 H8.out.rg (rg_lim H8.out.rg |>.up (by omega)) H8.out.kw w8 H8.out.bs.rows) ?_
                    rintro e w9 ⟨rfl, hb9⟩
                    have H9 := Lib.hid (H8.out.keep hb9)
                    clear hb9 H8
                    go_wp2_with fail
                    go_round
                    case rel => exact ⟨m + 1, s1, r3, by omega, by go_num, H9⟩
                    case measure => simp only [intOf]; omega
end Go.Proofs.Ytejcahkkpednfaa
