/-
  The law on configs' texts: its walk.
-/
import Derived.Test.YtdchmpbmaeoeoaaDoorLive
import Derived.Test.YtdchmpbmaeoeoaaDoorRPrs
import Derived.Test.YtdchmpbmaeoeoaaDoorBack
namespace Go.Proofs.YtdchmpbmaeoeoaaDoor
open Go.Shelf Go.RowKit Go.Sort
open Go.Lib hiding intOf
set_option linter.unusedVariables false
theorem pt_some {p c q g : Int} (h : Mb p c q g) : pt p c q g = mkS (tx p c q g) := if_pos h
theorem pt_none {p c q g : Int} (h : ¬ Mb p c q g) : pt p c q g = ⟨#[]⟩ := if_neg h
theorem parse_back {p c q g : Int} (h : Mb p c q g) (T : ByteArray) (hT : T = mkS (tx p c q g)) (w : World) (he : Env w) : Calls Tryd.prog 14 #[.string T] w fun e w' => e = .returned (.tuple #[.agg #[.int .i64 p, .int .i64 c, .int .i64 q, .int .i64 g], .int .i64 0]) ∧ Below w.heap.size w w' := by
  obtain ⟨h1, h2, h3⟩ := h.is64
  have hl := tx_len p c q g h1 h2 h3
  have hk := parse_at T (by rw [hT, mkS_size]; omega) w he
  obtain ⟨e1, e2⟩ := tx_back h
  rw [show T.data.toList = tx p c q g from by rw [hT, mkS_list], e1, e2] at hk
  exact hk
set_option maxHeartbeats 2000000 in
set_option maxRecDepth 100000 in
theorem reads_law (p c q g : Int) (hc : Is64 c) (hq : Is64 q) (hg : Is64 g) (s : ByteArray) (w : World) (he : Env w) : Calls Tryd.prog 4 #[.agg #[.int .i64 p, .int .i64 c, .int .i64 q, .int .i64 g], .string s] w fun e w' => e = .returned (.bool true) ∧ Below w.heap.size w w' := by
  have z1 := at4_alloc w p c q g
  have q1 := alloc_below w (.cells #[.int .i64 p, .int .i64 c, .int .i64 q, .int .i64 g] 24)
  obtain ⟨w1, hw1⟩ : ∃ w1, w1 = w.alloc (.cells #[.int .i64 p, .int .i64 c, .int .i64 q, .int .i64 g] 24) := ⟨_, rfl⟩
  rw [← hw1] at z1 q1
  have hE1 := he.kept q1
  have HW := Lib.hid hw1
  have H1 := Lib.hid (And.intro z1 (And.intro q1 hE1))
  have H64 := Lib.hid (And.intro hc (And.intro hq hg))
  clear z1 q1 hE1 he hw1 hc hq hg
  by_cases hx : 200 < s.size
  · have hx' : (200 : Int) < (s.size : Int) := by omega
    go_enter Tryd.func4, Tryd.ntmps4
    go_wp2_with fail
    rw [← HW.out]
    refine (alive_at _ H1.out.2.2).mono ?_
    rintro e w2 ⟨rfl, hb2⟩
    go_wp2
    go_ret
    exact ⟨rfl, H1.out.2.1.trans (hb2.mono H1.out.2.1.size)⟩
  · have hx' : ¬ (200 : Int) < (s.size : Int) := by omega
    obtain ⟨E, hE⟩ : ∃ E, E = pe (wds s.data.toList) := ⟨_, rfl⟩
    obtain ⟨e0, e1, e2, e3, hd⟩ := four_ints (pd_len (wds s.data.toList))
    have C14 : Hid (∀ V, Env V → Calls Tryd.prog 14 #[.string s] V fun e w' => e = .returned (.tuple #[.agg #[.int .i64 e0, .int .i64 e1, .int .i64 e2, .int .i64 e3], .int .i64 E]) ∧ Below V.heap.size V w') := Lib.hid (fun V hV => by
      have h := parse_at s (by omega) V hV
      rw [hd, ← hE] at h
      exact h)
    have C15 : Hid (∀ V, Calls Tryd.prog 15 #[.string s] V fun e w' => e = .returned (.tuple #[.agg #[.int .i64 e0, .int .i64 e1, .int .i64 e2, .int .i64 e3], .int .i64 E]) ∧ Below V.heap.size V w') := Lib.hid (fun V => by
      have h := rparse_at s (by omega) V
      rw [hd, ← hE] at h
      exact h)
    have hcase : (E = 0 ∧ Mb e0 e1 e2 e3 ∧ s = mkS (tx e0 e1 e2 e3)) ∨ E ≠ 0 := by
      rcases pe_cases (wds s.data.toList) with ⟨h0, a, b, c', d, h1, h2, h3⟩ | ⟨h0, _⟩
      · left
        rw [hd] at h1
        injection h1 with i1 h1
        injection h1 with i2 h1
        injection h1 with i3 h1
        injection h1 with i4 h1
        subst i1 i2 i3 i4
        refine ⟨hE.trans h0, h2, ?_⟩
        rw [← h3, wds_join, mkS_of]
      · right
        rw [hE]
        exact h0
    have CP : Hid (∀ V, Env V → Calls Tryd.prog 16 #[.agg #[.int .i64 p, .int .i64 c, .int .i64 q, .int .i64 g]] V fun e w' => e = .returned (.tuple #[.string (pt p c q g), .int .i64 (ck p c q g)]) ∧ Below V.heap.size V w') := Lib.hid (fun V hV => prn_at p c q g H64.out.1 H64.out.2.1 H64.out.2.2 V hV.toEnvT)
    have CM := Lib.hid (fun V => may_at p c q g V)
    clear hE hd hx
    go_enter Tryd.func4, Tryd.ntmps4
    go_wp2_with fail
    rw [← HW.out]
    refine (C14.out _ H1.out.2.2).mono ?_
    rintro e w2 ⟨rfl, hb2⟩
    have z2 := H1.out.1.kept hb2 H1.out.1.lt
    have q2 := H1.out.2.1.trans (hb2.mono H1.out.2.1.size)
    have hE2 := H1.out.2.2.kept hb2
    have hb3 := alloc_below w2 (.cells (ca [e0, e1, e2, e3]) 24)
    have x3 := (row_alloc w2 [e0, e1, e2, e3]).at4
    have z3 := z2.kept hb3 z2.lt
    have q3 := q2.trans (hb3.mono q2.size)
    have hE3 := hE2.kept hb3
    obtain ⟨w3, hw3⟩ : ∃ w3, w3 = w2.alloc (.cells (ca [e0, e1, e2, e3]) 24) := ⟨_, rfl⟩
    obtain ⟨b5, hb5⟩ : ∃ k, k = w2.heap.size := ⟨_, rfl⟩
    rw [← hw3] at x3 z3 q3 hE3
    rw [← hb5] at x3
    have HW3 := Lib.hid (And.intro hw3 hb5)
    have H3 := Lib.hid (And.intro z3 (And.intro x3 (And.intro q3 hE3)))
    clear hb2 z2 q2 hE2 hb3 x3 z3 q3 hE3 hw3 hb5 H1 HW C14
    go_wp2_with (first | fail | (refine st24n rfl (.tmp 5) (.tmp 22) rfl [e0, e1, e2, e3] rfl rfl rfl _ rfl ?_; rw [← HW3.out.1, ← HW3.out.2]))
    refine (C15.out _).mono ?_
    rintro e w4 ⟨rfl, hb4⟩
    have z4 := H3.out.1.kept hb4 H3.out.1.lt
    have x4 := H3.out.2.1.kept hb4 H3.out.2.1.lt
    have q4 := H3.out.2.2.1.trans (hb4.mono H3.out.2.2.1.size)
    have hE4 := H3.out.2.2.2.kept hb4
    have hb5 := alloc_below w4 (.cells (ca [e0, e1, e2, e3]) 24)
    have y5 := (row_alloc w4 [e0, e1, e2, e3]).at4
    have z5 := z4.kept hb5 z4.lt
    have x5 := x4.kept hb5 x4.lt
    have q5 := q4.trans (hb5.mono q4.size)
    have hE5 := hE4.kept hb5
    obtain ⟨w5, hw5⟩ : ∃ w5, w5 = w4.alloc (.cells (ca [e0, e1, e2, e3]) 24) := ⟨_, rfl⟩
    obtain ⟨b7, hb7⟩ : ∃ k, k = w4.heap.size := ⟨_, rfl⟩
    rw [← hw5] at y5 z5 x5 q5 hE5
    rw [← hb7] at y5
    have HW5 := Lib.hid (And.intro hw5 hb7)
    have H5 := Lib.hid (And.intro z5 (And.intro x5 (And.intro q5 hE5)))
    clear hb4 z4 x4 q4 hE4 hb5 q5 hE5 hw5 hb7 H3 HW3 C15
    obtain ⟨f0, f1, f2, f3⟩ := x5
    obtain ⟨g0, g1, g2, g3⟩ := y5
    rcases hcase with ⟨rfl, hm, hs⟩ | hne
    · obtain ⟨i1, i2, i3⟩ := hm.is64
      have CX : Hid (∀ V, Env V → Calls Tryd.prog 16 #[.agg #[.int .i64 e0, .int .i64 e1, .int .i64 e2, .int .i64 e3]] V fun e w' => e = .returned (.tuple #[.string s, .int .i64 0]) ∧ Below V.heap.size V w') := Lib.hid (fun V hV => by
        have h := prn_at e0 e1 e2 e3 i1 i2 i3 V hV.toEnvT
        rw [pt_some hm, ck_ok hm, ← hs] at h
        exact h)
      have hss := bl_eq s
      clear i1 i2 i3 hm hs z5
      go_wp2_with (first | fail | (refine st24n rfl (.tmp 7) (.tmp 27) rfl [e0, e1, e2, e3] rfl rfl rfl _ rfl ?_; rw [← HW5.out.1, ← HW5.out.2]))
      refine (CX.out _ H5.out.2.2.2).mono ?_
      rintro e w9 ⟨rfl, hb9⟩
      have z9 := H5.out.1.kept hb9 H5.out.1.lt
      have q9 := H5.out.2.2.1.trans (hb9.mono H5.out.2.2.1.size)
      have H9 := Lib.hid (And.intro z9 (And.intro q9 (H5.out.2.2.2.kept hb9)))
      clear f0 f1 f2 f3 g0 g1 g2 g3 hb9 q9 H5 HW5 CX
      obtain ⟨d0, d1, d2, d3⟩ := z9
      go_wp2_with fail
      refine (CP.out _ H9.out.2.2).mono ?_
      rintro e w10 ⟨rfl, hb10⟩
      have z10 := H9.out.1.kept hb10 H9.out.1.lt
      have q10 := H9.out.2.1.trans (hb10.mono H9.out.2.1.size)
      have H10 := Lib.hid (And.intro z10 (And.intro q10 (H9.out.2.2.kept hb10)))
      clear d0 d1 d2 d3 hb10 q10 H9
      obtain ⟨d0, d1, d2, d3⟩ := z10
      go_wp2_with fail
      refine (CM.out _).mono ?_
      rintro e w11 ⟨rfl, hb11⟩
      have z11 := H10.out.1.kept hb11 H10.out.1.lt
      have q11 := H10.out.2.1.trans (hb11.mono H10.out.2.1.size)
      have H11 := Lib.hid (And.intro z11 (And.intro q11 (H10.out.2.2.kept hb11)))
      clear d0 d1 d2 d3 hb11 q11 H10
      by_cases hm : Mb p c q g
      · rw [decide_eq_true hm, ck_ok hm, pt_some hm]
        obtain ⟨T, hT⟩ : ∃ T, T = mkS (tx p c q g) := ⟨_, rfl⟩
        have CB := Lib.hid (fun V hV => parse_back hm T hT V hV)
        have CR : Hid (∀ V, Calls Tryd.prog 17 #[.agg #[.int .i64 p, .int .i64 c, .int .i64 q, .int .i64 g]] V fun e w' => e = .returned (.string T) ∧ Below V.heap.size V w') := Lib.hid (fun V => by rw [hT]; exact rprn_at p c q g H64.out.1 H64.out.2.1 H64.out.2.2 V)
        rw [← hT]
        have hTT := bl_eq T
        clear hm hT
        go_wp2_with fail
        refine (CB.out _ H11.out.2.2).mono ?_
        rintro e w12 ⟨rfl, hb12⟩
        have z12 := H11.out.1.kept hb12 H11.out.1.lt
        have q12 := H11.out.2.1.trans (hb12.mono H11.out.2.1.size)
        have hE12 := H11.out.2.2.kept hb12
        have hb13 := alloc_below w12 (.cells (ca [p, c, q, g]) 24)
        have x13 := (row_alloc w12 [p, c, q, g]).at4
        have z13 := z12.kept hb13 z12.lt
        have q13 := q12.trans (hb13.mono q12.size)
        have hE13 := hE12.kept hb13
        obtain ⟨w13, hw13⟩ : ∃ w13, w13 = w12.alloc (.cells (ca [p, c, q, g]) 24) := ⟨_, rfl⟩
        obtain ⟨k, hk⟩ : ∃ k, k = w12.heap.size := ⟨_, rfl⟩
        rw [← hw13] at x13 z13 q13 hE13
        rw [← hk] at x13
        have HW13 := Lib.hid (And.intro hw13 hk)
        have H13 := Lib.hid (And.intro z13 (And.intro x13 (And.intro q13 hE13)))
        obtain ⟨d0, d1, d2, d3⟩ := z13
        clear z11 hb12 z12 q12 hE12 hb13 q13 hE13 hw13 hk H11 x13
        go_wp2_with (first | fail | (refine st24n rfl (.tmp 13) (.tmp 71) rfl [p, c, q, g] rfl rfl rfl _ rfl ?_; rw [← HW13.out.1, ← HW13.out.2]))
        refine (CR.out _).mono ?_
        rintro e w14 ⟨rfl, hb14⟩
        have z14 := H13.out.1.kept hb14 H13.out.1.lt
        have x14 := H13.out.2.1.kept hb14 H13.out.2.1.lt
        have q14 := H13.out.2.2.1.trans (hb14.mono H13.out.2.2.1.size)
        have H14 := Lib.hid (And.intro q14 (H13.out.2.2.2.kept hb14))
        clear d0 d1 d2 d3 hb14 q14 H13 HW13
        obtain ⟨d0, d1, d2, d3⟩ := z14
        obtain ⟨g0, g1, g2, g3⟩ := x14
        go_wp2_with fail
        refine (alive_at _ H14.out.2).mono ?_
        rintro e w15 ⟨rfl, hb15⟩
        go_wp2
        go_ret
        exact ⟨rfl, H14.out.1.trans (hb15.mono H14.out.1.size)⟩
      · rw [decide_eq_false hm, ck_no hm, pt_none hm]
        clear hm z11
        go_wp2_with fail
        refine (alive_at _ H11.out.2.2).mono ?_
        rintro e w15 ⟨rfl, hb15⟩
        go_wp2
        go_ret
        exact ⟨rfl, H11.out.2.1.trans (hb15.mono H11.out.2.1.size)⟩
    · have H9 := Lib.hid (And.intro H5.out.1 (And.intro H5.out.2.2.1 H5.out.2.2.2))
      obtain ⟨d0, d1, d2, d3⟩ := z5
      go_wp2_with (first | fail | (refine st24n rfl (.tmp 7) (.tmp 27) rfl [e0, e1, e2, e3] rfl rfl rfl _ rfl ?_; rw [← HW5.out.1, ← HW5.out.2]))
      clear f0 f1 f2 f3 g0 g1 g2 g3 H5 HW5
      refine (CP.out _ H9.out.2.2).mono ?_
      rintro e w10 ⟨rfl, hb10⟩
      have z10 := H9.out.1.kept hb10 H9.out.1.lt
      have q10 := H9.out.2.1.trans (hb10.mono H9.out.2.1.size)
      have H10 := Lib.hid (And.intro z10 (And.intro q10 (H9.out.2.2.kept hb10)))
      clear d0 d1 d2 d3 hb10 q10 H9
      obtain ⟨d0, d1, d2, d3⟩ := z10
      go_wp2_with fail
      refine (CM.out _).mono ?_
      rintro e w11 ⟨rfl, hb11⟩
      have z11 := H10.out.1.kept hb11 H10.out.1.lt
      have q11 := H10.out.2.1.trans (hb11.mono H10.out.2.1.size)
      have H11 := Lib.hid (And.intro z11 (And.intro q11 (H10.out.2.2.kept hb11)))
      clear d0 d1 d2 d3 hb11 q11 H10
      by_cases hm : Mb p c q g
      · rw [decide_eq_true hm, ck_ok hm, pt_some hm]
        obtain ⟨T, hT⟩ : ∃ T, T = mkS (tx p c q g) := ⟨_, rfl⟩
        have CB := Lib.hid (fun V hV => parse_back hm T hT V hV)
        have CR : Hid (∀ V, Calls Tryd.prog 17 #[.agg #[.int .i64 p, .int .i64 c, .int .i64 q, .int .i64 g]] V fun e w' => e = .returned (.string T) ∧ Below V.heap.size V w') := Lib.hid (fun V => by rw [hT]; exact rprn_at p c q g H64.out.1 H64.out.2.1 H64.out.2.2 V)
        rw [← hT]
        have hTT := bl_eq T
        clear hm hT
        go_wp2_with fail
        refine (CB.out _ H11.out.2.2).mono ?_
        rintro e w12 ⟨rfl, hb12⟩
        have z12 := H11.out.1.kept hb12 H11.out.1.lt
        have q12 := H11.out.2.1.trans (hb12.mono H11.out.2.1.size)
        have hE12 := H11.out.2.2.kept hb12
        have hb13 := alloc_below w12 (.cells (ca [p, c, q, g]) 24)
        have x13 := (row_alloc w12 [p, c, q, g]).at4
        have z13 := z12.kept hb13 z12.lt
        have q13 := q12.trans (hb13.mono q12.size)
        have hE13 := hE12.kept hb13
        obtain ⟨w13, hw13⟩ : ∃ w13, w13 = w12.alloc (.cells (ca [p, c, q, g]) 24) := ⟨_, rfl⟩
        obtain ⟨k, hk⟩ : ∃ k, k = w12.heap.size := ⟨_, rfl⟩
        rw [← hw13] at x13 z13 q13 hE13
        rw [← hk] at x13
        have HW13 := Lib.hid (And.intro hw13 hk)
        have H13 := Lib.hid (And.intro z13 (And.intro x13 (And.intro q13 hE13)))
        obtain ⟨d0, d1, d2, d3⟩ := z13
        clear z11 hb12 z12 q12 hE12 hb13 q13 hE13 hw13 hk H11 x13
        go_wp2_with (first | fail | (refine st24n rfl (.tmp 13) (.tmp 71) rfl [p, c, q, g] rfl rfl rfl _ rfl ?_; rw [← HW13.out.1, ← HW13.out.2]))
        refine (CR.out _).mono ?_
        rintro e w14 ⟨rfl, hb14⟩
        have z14 := H13.out.1.kept hb14 H13.out.1.lt
        have x14 := H13.out.2.1.kept hb14 H13.out.2.1.lt
        have q14 := H13.out.2.2.1.trans (hb14.mono H13.out.2.2.1.size)
        have H14 := Lib.hid (And.intro q14 (H13.out.2.2.2.kept hb14))
        clear d0 d1 d2 d3 hb14 q14 H13 HW13
        obtain ⟨d0, d1, d2, d3⟩ := z14
        obtain ⟨g0, g1, g2, g3⟩ := x14
        go_wp2_with fail
        refine (alive_at _ H14.out.2).mono ?_
        rintro e w15 ⟨rfl, hb15⟩
        go_wp2
        go_ret
        exact ⟨rfl, H14.out.1.trans (hb15.mono H14.out.1.size)⟩
      · rw [decide_eq_false hm, ck_no hm, pt_none hm]
        clear hm z11
        go_wp2_with fail
        refine (alive_at _ H11.out.2.2).mono ?_
        rintro e w15 ⟨rfl, hb15⟩
        go_wp2
        go_ret
        exact ⟨rfl, H11.out.2.1.trans (hb15.mono H11.out.2.1.size)⟩
theorem configReads_law (p c q g : Int) (h : Is64 p ∧ Is64 c ∧ Is64 q ∧ Is64 g) (s : ByteArray) (w : World) (he : Env w) : Calls Tryd.prog 4 #[.agg #[.int .i64 p, .int .i64 c, .int .i64 q, .int .i64 g], .string s] w fun e w' => e = .returned (.bool true) ∧ Below w.heap.size w w' := reads_law p c q g h.2.1 h.2.2.1 h.2.2.2 s w he
end Go.Proofs.YtdchmpbmaeoeoaaDoor
