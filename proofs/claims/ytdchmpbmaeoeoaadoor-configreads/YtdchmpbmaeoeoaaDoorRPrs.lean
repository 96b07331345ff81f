/-
  A config read out of a text: the document's Parse.
-/
import Derived.Test.YtdchmpbmaeoeoaaDoorPrs
import Derived.Test.YtdchmpbmaeoeoaaDoorDRefW
namespace Go.Proofs.YtdchmpbmaeoeoaaDoor
open Go.Shelf Go.RowKit Go.Sort
open Go.Lib hiding intOf
set_option linter.unusedVariables false
theorem mayL_at (d : List Int) (p c q g : Int) (hd : d = [p, c, q, g]) (w : World) : Calls Tryd.prog 9 #[cv d] w fun e w' => e = .returned (.bool (decide (Mb p c q g))) ∧ Below w.heap.size w w' := by
  subst hd
  exact may_at p c q g w
set_option maxHeartbeats 2000000 in
set_option maxRecDepth 100000 in
theorem rparse_at (s : ByteArray) (hs : s.size ≤ 100000) (w : World) :
    Calls Tryd.prog 15 #[.string s] w fun e w' => e = .returned (.tuple #[cv (pd (wds s.data.toList)), .int .i64 (pe (wds s.data.toList))]) ∧ Below w.heap.size w w' := by
  obtain ⟨ws, hws⟩ : ∃ ws, ws = wds s.data.toList := ⟨_, rfl⟩
  obtain ⟨n, hn⟩ : ∃ n, n = ws.length := ⟨_, rfl⟩
  have hsm : ∀ x ∈ ws, (mkS x).size ≤ 1000000 := fun x hx => by
    rw [mkS_size]
    have := words_small s x (by rw [← hws]; exact hx)
    omega
  have c22 : ∀ V : World, Calls Tryd.prog 22 #[.string s] V fun e w' => ∃ A cap, e = .returned (.slice A n cap) ∧ SRow w' A ws ∧ Below V.heap.size V w' := fun V => by
    rw [hws]
    exact rwords_at s (by omega) n (by rw [hn, hws]) V
  rw [← hws]
  have hpd : pd ws = if okw ws = true then (if MbL (dr ws) then dr ws else zs) else zs := rfl
  have hpe : pe ws = if okw ws = true then (if MbL (dr ws) then 0 else 2) else 7 := rfl
  obtain ⟨P, hP⟩ : ∃ P, P = pd ws := ⟨_, rfl⟩
  obtain ⟨E, hE⟩ : ∃ E, E = pe ws := ⟨_, rfl⟩
  rw [← hP, ← hE]
  rw [← hP] at hpd
  rw [← hE] at hpe
  have hR := row_alloc w zs
  have q1 := alloc_below w (.cells (ca zs) 24)
  obtain ⟨w1, hw1⟩ : ∃ w1, w1 = w.alloc (.cells (ca zs) 24) := ⟨_, rfl⟩
  rw [← hw1] at hR q1
  have hA : w.alloc (.cells #[.int .i64 0, .int .i64 0, .int .i64 0, .int .i64 0] 24) = w1 := hw1.symm
  have HA := Lib.hid hA
  have H1 := Lib.hid (And.intro hR q1)
  have C22 := Lib.hid (c22 w1)
  by_cases h4 : n = 4
  · subst h4
    obtain ⟨a0, a1, a2, a3, rfl⟩ := four_of hn.symm
    have P10 : Hid (∀ V, Calls Tryd.prog 10 #[.string (mkS a0)] V fun e w' => e = .returned (.int .i64 (pol a0)) ∧ w' = V) := Lib.hid (fun V => by
      have := rpolicy_at (mkS a0) V
      rw [mkS_list] at this
      exact this)
    have R1 : Hid (∀ V, Calls Tryd.prog 23 #[.string (mkS a1)] V fun e w' => e = .returned (.tuple #[.int .i64 (nd (rdi a1)), .bool (rdi a1).isSome]) ∧ Below V.heap.size V w') := Lib.hid (fun V => by
      have := rreadInt_at (mkS a1) (hsm a1 (by simp)) V
      rw [mkS_list, tupI_nd] at this
      exact this)
    have R2 : Hid (∀ V, Calls Tryd.prog 23 #[.string (mkS a2)] V fun e w' => e = .returned (.tuple #[.int .i64 (nd (rdi a2)), .bool (rdi a2).isSome]) ∧ Below V.heap.size V w') := Lib.hid (fun V => by
      have := rreadInt_at (mkS a2) (hsm a2 (by simp)) V
      rw [mkS_list, tupI_nd] at this
      exact this)
    have R3 : Hid (∀ V, Calls Tryd.prog 23 #[.string (mkS a3)] V fun e w' => e = .returned (.tuple #[.int .i64 (nd (rdi a3)), .bool (rdi a3).isSome]) ∧ Below V.heap.size V w') := Lib.hid (fun V => by
      have := rreadInt_at (mkS a3) (hsm a3 (by simp)) V
      rw [mkS_list, tupI_nd] at this
      exact this)
    obtain ⟨r0, hr0⟩ : ∃ r, r = pol a0 := ⟨_, rfl⟩
    obtain ⟨r1, hr1⟩ : ∃ r, r = nd (rdi a1) := ⟨_, rfl⟩
    obtain ⟨b1, hb1⟩ : ∃ r, r = (rdi a1).isSome := ⟨_, rfl⟩
    obtain ⟨r2, hr2⟩ : ∃ r, r = nd (rdi a2) := ⟨_, rfl⟩
    obtain ⟨b2, hb2⟩ : ∃ r, r = (rdi a2).isSome := ⟨_, rfl⟩
    obtain ⟨r3, hr3⟩ : ∃ r, r = nd (rdi a3) := ⟨_, rfl⟩
    obtain ⟨b3, hb3⟩ : ∃ r, r = (rdi a3).isSome := ⟨_, rfl⟩
    obtain ⟨x0, hx0⟩ : ∃ x, x = mkS a0 := ⟨_, rfl⟩
    obtain ⟨x1, hx1⟩ : ∃ x, x = mkS a1 := ⟨_, rfl⟩
    obtain ⟨x2, hx2⟩ : ∃ x, x = mkS a2 := ⟨_, rfl⟩
    obtain ⟨x3, hx3⟩ : ∃ x, x = mkS a3 := ⟨_, rfl⟩
    have hD : dr [a0, a1, a2, a3] = [r0, r1, r2, r3] := by rw [hr0, hr1, hr2, hr3]; rfl
    have hO : okw [a0, a1, a2, a3] = (decide (r0 ≠ 0) && (b1 && (b2 && b3))) := by rw [hb1, hb2, hb3, hr0]; rfl
    rw [hD, hO] at hpd hpe
    have HPE := Lib.hid (And.intro hpd hpe)
    rw [← hr0, ← hx0] at P10
    rw [← hb1, ← hr1, ← hx1] at R1
    rw [← hb2, ← hr2, ← hx2] at R2
    rw [← hb3, ← hr3, ← hx3] at R3
    have HX := Lib.hid (And.intro hx0 (And.intro hx1 (And.intro hx2 hx3)))
    clear hx0 hx1 hx2 hx3 hr0 hr1 hr2 hr3 hb1 hb2 hb3 hD hO hpd hpe hP hE hR q1 hw1 hA hws hn hsm c22 hs
    go_enter Tryd.func15, Tryd.ntmps15
    go_wp2_with fail
    rw [HA.out]
    refine C22.out.mono ?_
    rintro e w2 ⟨A, cap, rfl, hS2, hb2⟩
    obtain ⟨b, off, rfl, hb, c0, c1, c2, c3⟩ := hS2.four
    rw [← HX.out.1] at c0
    rw [← HX.out.2.1] at c1
    rw [← HX.out.2.2.1] at c2
    rw [← HX.out.2.2.2] at c3
    have hR2 := H1.out.1.kept hb2 H1.out.1.lt
    have q2 := H1.out.2.trans (hb2.mono H1.out.2.size)
    have H2 := Lib.hid (And.intro hR2 q2)
    have HC := Lib.hid (And.intro c0 (And.intro c1 (And.intro c2 (And.intro c3 hb))))
    clear c1 c2 c3 hb hS2 hb2 hR2 q2 H1 C22 HA HX
    go_wp2_with fail
    refine (P10.out _).mono ?_
    rintro e w3 ⟨rfl, h3⟩
    subst h3
    clear c0
    by_cases hz : r0 = 0
    · subst hz
      have HE : Hid (P = zs ∧ E = 7) := Lib.hid ⟨by rw [HPE.out.1]; simp, by rw [HPE.out.2]; simp⟩
      clear HPE
      go_wp2_with (first | fail | refine st24 rfl (.tmp 2) (.tmp 24) rfl _ zs rfl rfl _ H2.out.1 rfl rfl ?_)
      refine bodyPost_ret (results_cnt2 rfl _ _ _ _ rfl H2.out.1.rowSet rfl) rfl ?_
      exact ⟨by rw [HE.out.1, HE.out.2]; rfl, below_setRow H2.out.2 (Nat.le_refl _)⟩
    · have hzd : decide (r0 ≠ 0) = true := by simp [hz]
      have c1 := HC.out.2.1
      rw [hzd] at HPE
      clear hzd
      go_wp2_with fail
      refine (R1.out _).mono ?_
      rintro e w3 ⟨rfl, hb3⟩
      have hR3 := H2.out.1.kept hb3 H2.out.1.lt
      have q3 := H2.out.2.trans (hb3.mono H2.out.2.size)
      have c2 := (hb3.cell (p := ⟨b, off + 2, none⟩) (by exact HC.out.2.2.2.2)).trans HC.out.2.2.1
      have c3 := (hb3.cell (p := ⟨b, off + 3, none⟩) (by exact HC.out.2.2.2.2)).trans HC.out.2.2.2.1
      have c0 := (hb3.cell (p := ⟨b, off, none⟩) (by exact HC.out.2.2.2.2)).trans HC.out.1
      have hb := Nat.lt_of_lt_of_le HC.out.2.2.2.2 hb3.size
      have H3 := Lib.hid (And.intro hR3 q3)
      have HC3 := Lib.hid (And.intro c0 (And.intro c3 hb))
      clear c0 c1 c3 hb hb3 hR3 q3 H2 HC R1
      go_wp2_with fail
      refine (R2.out _).mono ?_
      rintro e w4 ⟨rfl, hb4⟩
      have hR4 := H3.out.1.kept hb4 H3.out.1.lt
      have q4 := H3.out.2.trans (hb4.mono H3.out.2.size)
      have c3 := (hb4.cell (p := ⟨b, off + 3, none⟩) (by exact HC3.out.2.2)).trans HC3.out.2.1
      have c0 := (hb4.cell (p := ⟨b, off, none⟩) (by exact HC3.out.2.2)).trans HC3.out.1
      have hb := Nat.lt_of_lt_of_le HC3.out.2.2 hb4.size
      have H4 := Lib.hid (And.intro hR4 q4)
      have HC4 := Lib.hid (And.intro c0 hb)
      clear c0 c2 hb hb4 hR4 q4 H3 HC3 R2
      go_wp2_with fail
      refine (R3.out _).mono ?_
      rintro e w5 ⟨rfl, hb5⟩
      have hR5 := H4.out.1.kept hb5 H4.out.1.lt
      have q5 := H4.out.2.trans (hb5.mono H4.out.2.size)
      have c0 := (hb5.cell (p := ⟨b, off, none⟩) (by exact HC4.out.2)).trans HC4.out.1
      have H5 := Lib.hid (And.intro hR5 q5)
      have HC5 := Lib.hid c0
      clear c0 c3 hb5 hR5 q5 H4 HC4 R3
      cases b1 with
      | false =>
        have HE : Hid (P = zs ∧ E = 7) := Lib.hid ⟨by rw [HPE.out.1]; simp, by rw [HPE.out.2]; simp⟩
        clear HPE
        go_wp2_with (first | fail | refine st24 rfl (.tmp 2) (.tmp 56) rfl _ zs rfl rfl _ H5.out.1 rfl rfl ?_)
        refine bodyPost_ret (results_cnt2 rfl _ _ _ _ rfl H5.out.1.rowSet rfl) rfl ?_
        exact ⟨by rw [HE.out.1, HE.out.2]; rfl, below_setRow H5.out.2 (Nat.le_refl _)⟩
      | true =>
        cases b2 with
        | false =>
          have HE : Hid (P = zs ∧ E = 7) := Lib.hid ⟨by rw [HPE.out.1]; simp, by rw [HPE.out.2]; simp⟩
          clear HPE
          go_wp2_with (first | fail | refine st24 rfl (.tmp 2) (.tmp 56) rfl _ zs rfl rfl _ H5.out.1 rfl rfl ?_)
          refine bodyPost_ret (results_cnt2 rfl _ _ _ _ rfl H5.out.1.rowSet rfl) rfl ?_
          exact ⟨by rw [HE.out.1, HE.out.2]; rfl, below_setRow H5.out.2 (Nat.le_refl _)⟩
        | true =>
          cases b3 with
          | false =>
            have HE : Hid (P = zs ∧ E = 7) := Lib.hid ⟨by rw [HPE.out.1]; simp, by rw [HPE.out.2]; simp⟩
            clear HPE
            go_wp2_with (first | fail | refine st24 rfl (.tmp 2) (.tmp 56) rfl _ zs rfl rfl _ H5.out.1 rfl rfl ?_)
            refine bodyPost_ret (results_cnt2 rfl _ _ _ _ rfl H5.out.1.rowSet rfl) rfl ?_
            exact ⟨by rw [HE.out.1, HE.out.2]; rfl, below_setRow H5.out.2 (Nat.le_refl _)⟩
          | true =>
            have c0 := HC5.out
            go_wp2_with fail
            refine (P10.out _).mono ?_
            rintro e w6 ⟨rfl, h6⟩
            subst h6
            clear c0 HC5 P10
            have hb7 := alloc_below w6 (.cells (ca [r0, r1, r2, r3]) 24)
            have hR7 := H5.out.1.kept hb7 H5.out.1.lt
            have hC7 := row_alloc w6 [r0, r1, r2, r3]
            have q7 := H5.out.2.trans (hb7.mono H5.out.2.size)
            obtain ⟨w7, hw7⟩ : ∃ w7, w7 = w6.alloc (.cells (ca [r0, r1, r2, r3]) 24) := ⟨_, rfl⟩
            obtain ⟨k, hk⟩ : ∃ k, k = w6.heap.size := ⟨_, rfl⟩
            rw [← hw7] at hR7 hC7 q7
            rw [← hk] at hC7
            have H7 := Lib.hid (And.intro hR7 (And.intro hC7 q7))
            have HW7 := Lib.hid (And.intro hw7 hk)
            obtain ⟨d, hd⟩ : ∃ d, d = [r0, r1, r2, r3] := ⟨_, rfl⟩
            have C9 := Lib.hid (fun V => mayL_at d r0 r1 r2 r3 hd V)
            have hmb : MbL d ↔ Mb r0 r1 r2 r3 := by rw [hd]; exact Iff.rfl
            have HM := Lib.hid hmb
            have HD := Lib.hid hd
            rw [← hd] at HPE H7
            clear hb7 hR7 hC7 q7 hw7 hk H5 hmb hd
            go_wp2_with (first | fail | (refine st24n rfl (.tmp 11) (.tmp 64) rfl [r0, r1, r2, r3] rfl rfl rfl _ rfl ?_; rw [← HW7.out.1, ← HW7.out.2]) | refine ld24 rfl (.tmp 11) rfl _ rfl _ H7.out.2.1 (by rw [HD.out]; rfl) ?_)
            refine (C9.out _).mono ?_
            rintro e w8 ⟨rfl, hb8⟩
            have hR8 := H7.out.1.kept hb8 H7.out.1.lt
            have hC8 := H7.out.2.1.kept hb8 H7.out.2.1.lt
            have q8 := H7.out.2.2.trans (hb8.mono H7.out.2.2.size)
            have H8 := Lib.hid (And.intro hR8 (And.intro hC8 q8))
            clear hb8 hR8 hC8 q8 H7 HW7 C9
            by_cases hm : Mb r0 r1 r2 r3
            · rw [decide_eq_true hm]
              have HE : Hid (P = d ∧ E = 0) := Lib.hid ⟨by rw [HPE.out.1]; simp [HM.out.2 hm], by rw [HPE.out.2]; simp [HM.out.2 hm]⟩
              clear hm HPE
              go_wp2_with (first | fail | refine ld24 rfl (.tmp 11) rfl _ rfl _ H8.out.2.1 (by rw [HD.out]; rfl) ?_ | refine st24 rfl (.tmp 2) (.tmp 69) rfl _ d rfl rfl _ H8.out.1 rfl (by rw [HD.out]; rfl) ?_)
              refine bodyPost_ret (results_cnt2 rfl _ _ _ _ rfl H8.out.1.rowSet (by rw [HD.out]; rfl)) rfl ?_
              exact ⟨by rw [HE.out.1, HE.out.2]; rfl, below_setRow H8.out.2.2 (Nat.le_refl _)⟩
            · rw [decide_eq_false hm]
              have HE : Hid (P = zs ∧ E = 2) := Lib.hid ⟨by rw [HPE.out.1]; simp [show ¬ MbL d from fun e => hm (HM.out.1 e)], by rw [HPE.out.2]; simp [show ¬ MbL d from fun e => hm (HM.out.1 e)]⟩
              clear hm HPE
              go_wp2_with (first | fail | refine st24 rfl (.tmp 2) (.tmp 68) rfl _ zs rfl rfl _ H8.out.1 rfl rfl ?_)
              refine bodyPost_ret (results_cnt2 rfl _ _ _ _ rfl H8.out.1.rowSet rfl) rfl ?_
              exact ⟨by rw [HE.out.1, HE.out.2]; rfl, below_setRow H8.out.2.2 (Nat.le_refl _)⟩
  · obtain ⟨e1, e2⟩ := not_four (ws := ws) (fun e => h4 (hn.trans e))
    rw [e1] at hpd hpe
    have HE : Hid (P = zs ∧ E = 7) := Lib.hid ⟨by rw [hpd]; simp, by rw [hpe]; simp⟩
    have hne : ¬ (n : Int) = 4 := by omega
    clear e1 e2 hn hsm hs hpd hpe hP hE hR q1 hw1 h4 hA c22 hws
    go_enter Tryd.func15, Tryd.ntmps15
    go_wp2_with fail
    rw [HA.out]
    refine C22.out.mono ?_
    rintro e w2 ⟨A, cap, rfl, hS2, hb2⟩
    have hR2 := H1.out.1.kept hb2 H1.out.1.lt
    have q2 := H1.out.2.trans (hb2.mono H1.out.2.size)
    have H2 := Lib.hid (And.intro hR2 q2)
    clear hS2 hb2 hR2 q2 H1 C22 HA
    go_wp2_with (first | fail | refine st24 rfl (.tmp 2) (.tmp 24) rfl _ zs rfl rfl _ H2.out.1 rfl rfl ?_)
    refine bodyPost_ret (results_cnt2 rfl _ _ _ _ rfl H2.out.1.rowSet rfl) rfl ?_
    exact ⟨by rw [HE.out.1, HE.out.2]; rfl, below_setRow H2.out.2 (Nat.le_refl _)⟩
end Go.Proofs.YtdchmpbmaeoeoaaDoor
