/-
  Configs: Policy, Room, Lost.
-/
import Derived.Test.YtdchmpbmaeoeoaaDoorCk
import Derived.Test.YtdchmpbmaeoeoaaDoorDEnv
namespace Go.Proofs.YtdchmpbmaeoeoaaDoor
open Go.RowKit
set_option linter.unusedVariables false
theorem pol_hit {x : ByteArray} {k : Nat} (h1 : 1 ≤ k) (h2 : k ≤ 4) (h : ns (k : Int) = x) : pol x.data.toList = (k : Int) := by
  rw [← ns_eq.1 h]
  exact pol_eq (by omega)
theorem pol_miss {x : ByteArray} {n : Nat} (hn : ¬ (n : Int) ≤ 4) (h : ∀ j : Nat, 1 ≤ j → j < n → ns (j : Int) ≠ x) : pol x.data.toList = 0 := pol_ne fun p h1 h2 e => by
  obtain ⟨j, rfl⟩ : ∃ j : Nat, p = j := ⟨p.toNat, by omega⟩
  exact h j (by omega) (by omega) (ns_eq.2 e)
set_option maxHeartbeats 400000 in
set_option maxRecDepth 100000 in
theorem policy_at (x : ByteArray) (w : World) : Calls Tryd.prog 8 #[.string x] w fun e w' => e = .returned (.tuple #[.int .i64 (pol x.data.toList), .bool (decide (pol x.data.toList ≠ 0))]) ∧ w' = w := by
  obtain ⟨r, hr⟩ : ∃ r, r = pol x.data.toList := ⟨_, rfl⟩
  obtain ⟨b, hb⟩ : ∃ b, b = decide (r ≠ 0) := ⟨_, rfl⟩
  rw [← hr, ← hb]
  have HR := Lib.hid hr
  have HB := Lib.hid hb
  clear hr hb
  go_enter Tryd.func8, Tryd.ntmps8
  go_wp2
  go_loopw [4] (fun i wr => ∃ k : Nat, 1 ≤ k ∧ k ≤ 5 ∧ i = .int .i64 (k : Int) ∧ wr = w ∧ Hid (∀ j : Nat, 1 ≤ j → j < k → ns (j : Int) ≠ x)) (fun i _ => 5 - (intOf i).toNat)
  case atStart => exact ⟨1, by omega, by omega, by go_num, by first | rfl | trivial, Lib.hid (fun j h1 h2 => absurd h2 (by omega))⟩
  case round =>
    obtain ⟨k, hk1, hk5, rfl, rfl, HK⟩ := hrel
    by_cases hlt : (k : Int) ≤ 4
    · obtain ⟨y, hy⟩ : ∃ y, y = ns (k : Int) := ⟨_, rfl⟩
      have cn : ∀ W, Calls Tryd.prog 12 #[.int .i64 (k : Int)] W fun e w' => e = .returned (.string y) ∧ w' = W := fun W => hy ▸ name_at _ W
      have HY := Lib.hid hy
      clear hy
      by_cases hxy : y = x
      · subst hxy
        go_wp2_with (with_reducible refine (cn _).mono ?_; rintro e w' ⟨rfl, rfl⟩)
        go_ret2
        refine ⟨?_, by trivial⟩
        have e := pol_hit hk1 (by omega) HY.out.symm
        rw [HB.out, HR.out, e, decide_eq_true (show (k : Int) ≠ 0 by omega)]
        try rfl
      · have hne := nbl_ne hxy
        go_wp2_with (with_reducible refine (cn _).mono ?_; rintro e w' ⟨rfl, rfl⟩)
        go_round
        case rel => exact ⟨k + 1, by omega, by omega, by go_num, by first | rfl | trivial, Lib.hid (fun j h1 h2 => by
          rcases Nat.lt_succ_iff_lt_or_eq.1 h2 with h | rfl
          · exact HK.out j h1 h
          · rw [← HY.out]; exact hxy)⟩
        case measure => simp only [intOf]; omega
    · go_wp2
      go_ret2
      refine ⟨?_, by trivial⟩
      have e := pol_miss (by omega) HK.out
      rw [HB.out, HR.out, e]
      rfl
set_option maxHeartbeats 400000 in
set_option maxRecDepth 100000 in
theorem rpolicy_at (x : ByteArray) (w : World) : Calls Tryd.prog 10 #[.string x] w fun e w' => e = .returned (.int .i64 (pol x.data.toList)) ∧ w' = w := by
  obtain ⟨r, hr⟩ : ∃ r, r = pol x.data.toList := ⟨_, rfl⟩
  rw [← hr]
  have HR := Lib.hid hr
  clear hr
  go_enter Tryd.func10, Tryd.ntmps10
  go_wp2
  go_loopw [3] (fun i wr => ∃ k : Nat, 1 ≤ k ∧ k ≤ 5 ∧ i = .int .i64 (k : Int) ∧ wr = w ∧ Hid (∀ j : Nat, 1 ≤ j → j < k → ns (j : Int) ≠ x)) (fun i _ => 5 - (intOf i).toNat)
  case atStart => exact ⟨1, by omega, by omega, by go_num, by first | rfl | trivial, Lib.hid (fun j h1 h2 => absurd h2 (by omega))⟩
  case round =>
    obtain ⟨k, hk1, hk5, rfl, rfl, HK⟩ := hrel
    by_cases hlt : (k : Int) ≤ 4
    · obtain ⟨y, hy⟩ : ∃ y, y = ns (k : Int) := ⟨_, rfl⟩
      have cn : ∀ W, Calls Tryd.prog 13 #[.int .i64 (k : Int)] W fun e w' => e = .returned (.string y) ∧ w' = W := fun W => hy ▸ rname_at _ W
      have HY := Lib.hid hy
      clear hy
      by_cases hxy : y = x
      · subst hxy
        go_wp2_with (with_reducible refine (cn _).mono ?_; rintro e w' ⟨rfl, rfl⟩)
        go_ret
        refine ⟨?_, by trivial⟩
        have e := pol_hit hk1 (by omega) HY.out.symm
        rw [HR.out, e]
        try rfl
      · have hne := nbl_ne hxy
        go_wp2_with (with_reducible refine (cn _).mono ?_; rintro e w' ⟨rfl, rfl⟩)
        go_round
        case rel => exact ⟨k + 1, by omega, by omega, by go_num, by first | rfl | trivial, Lib.hid (fun j h1 h2 => by
          rcases Nat.lt_succ_iff_lt_or_eq.1 h2 with h | rfl
          · exact HK.out j h1 h
          · rw [← HY.out]; exact hxy)⟩
        case measure => simp only [intOf]; omega
    · go_wp2
      go_ret
      refine ⟨?_, by trivial⟩
      have e := pol_miss (by omega) HK.out
      rw [HR.out, e]
      try rfl
theorem ck_ok {p c q g : Int} (h : Mb p c q g) : ck p c q g = 0 := if_pos h
theorem ck_no {p c q g : Int} (h : ¬ Mb p c q g) : ck p c q g = 2 := if_neg h
def rm (p c q g : Int) : Int := if Mb p c q g then c - q else 0
/-- the box of a config: four cells -/
def At4 (w : World) (b : Nat) (p c q g : Int) : Prop := w.cell? ⟨b, 0, none⟩ = some (.int .i64 p) ∧ w.cell? ⟨b, 1, none⟩ = some (.int .i64 c) ∧ w.cell? ⟨b, 2, none⟩ = some (.int .i64 q) ∧ w.cell? ⟨b, 3, none⟩ = some (.int .i64 g)
theorem At4.lt {w : World} {b : Nat} {p c q g : Int} (h : At4 w b p c q g) : b < w.heap.size := Lib.lt_of_cell h.1
theorem At4.kept {w w' : World} {b B : Nat} {p c q g : Int} (h : At4 w b p c q g) (hb : Below B w w') (hl : b < B) : At4 w' b p c q g :=
  ⟨by rw [hb.cell (by exact hl)]; exact h.1, by rw [hb.cell (by exact hl)]; exact h.2.1, by rw [hb.cell (by exact hl)]; exact h.2.2.1, by rw [hb.cell (by exact hl)]; exact h.2.2.2⟩
theorem at4_alloc (w : World) (p c q g : Int) : At4 (w.alloc (.cells #[.int .i64 p, .int .i64 c, .int .i64 q, .int .i64 g] 24)) w.heap.size p c q g :=
  ⟨by rw [World.cell?_alloc_new]; rfl, by rw [World.cell?_alloc_new]; rfl, by rw [World.cell?_alloc_new]; rfl, by rw [World.cell?_alloc_new]; rfl⟩
set_option maxHeartbeats 400000 in
set_option maxRecDepth 100000 in
theorem room_at (p c q g : Int) (w : World) : Calls Tryd.prog 11 #[.agg #[.int .i64 p, .int .i64 c, .int .i64 q, .int .i64 g]] w fun e w' => e = .returned (.int .i64 (rm p c q g)) ∧ Below w.heap.size w w' := by
  have cc := fun W => check_at p c q g W
  by_cases h : Mb p c q g
  · rw [rm, if_pos h]
    rw [ck_ok h] at cc
    obtain ⟨_, h2, h3, _⟩ := h
    go_enter Tryd.func11, Tryd.ntmps11
    go_wp2_with fail
    refine (cc _).mono ?_
    rintro e w2 ⟨rfl, hb⟩
    obtain ⟨d0, d1, d2, d3⟩ := (at4_alloc w p c q g).kept hb (at4_alloc w p c q g).lt
    have HB := Lib.hid hb
    clear hb
    go_wp2
    go_ret
    exact ⟨rfl, (alloc_below w _).trans (HB.out.mono (by simp))⟩
  · rw [rm, if_neg h]
    rw [ck_no h] at cc
    clear h
    go_enter Tryd.func11, Tryd.ntmps11
    go_wp2_with fail
    refine (cc _).mono ?_
    rintro e w2 ⟨rfl, hb⟩
    have HB := Lib.hid hb
    clear hb
    go_wp2
    go_ret
    exact ⟨rfl, (alloc_below w _).trans (HB.out.mono (by simp))⟩
def lst (p c q g p' c' q' g' : Int) : Int := if Mb p c q g ∧ Mb p' c' q' g' then max 0 ((c + g) - (c' + g')) else 0
set_option maxHeartbeats 400000 in
set_option maxRecDepth 100000 in
theorem lost_at (p c q g p' c' q' g' : Int) (w : World) : Calls Tryd.prog 18 #[.agg #[.int .i64 p, .int .i64 c, .int .i64 q, .int .i64 g], .agg #[.int .i64 p', .int .i64 c', .int .i64 q', .int .i64 g']] w fun e w' => e = .returned (.int .i64 (lst p c q g p' c' q' g')) ∧ Below w.heap.size w w' := by
  have cc := fun W => check_at p c q g W
  have cd := fun W => check_at p' c' q' g' W
  have z1 := at4_alloc w p c q g
  obtain ⟨w1, hw1⟩ : ∃ w1, w1 = w.alloc (.cells #[.int .i64 p, .int .i64 c, .int .i64 q, .int .i64 g] 24) := ⟨_, rfl⟩
  have b1 : Below w.heap.size w w1 := hw1 ▸ alloc_below w _
  have s1 : w1.heap.size = w.heap.size + 1 := by rw [hw1]; simp
  rw [← hw1] at z1
  have y2 := at4_alloc w1 p' c' q' g'
  obtain ⟨w2, hw2⟩ : ∃ w2, w2 = w1.alloc (.cells #[.int .i64 p', .int .i64 c', .int .i64 q', .int .i64 g'] 24) := ⟨_, rfl⟩
  have b2 : Below w1.heap.size w1 w2 := hw2 ▸ alloc_below w1 _
  rw [← hw2] at y2
  have z2 := z1.kept b2 z1.lt
  have q2 := b1.trans (b2.mono b1.size)
  rw [s1] at y2
  have HW := Lib.hid (And.intro hw1 (And.intro hw2 s1))
  have H2 := Lib.hid (And.intro z2 (And.intro y2 q2))
  obtain ⟨x0, x1, x2, x3⟩ := z2
  obtain ⟨u0, u1, u2, u3⟩ := y2
  clear z1 b1 b2 q2 s1 hw1 hw2
  by_cases h : Mb p c q g
  · rw [ck_ok h] at cc
    by_cases h' : Mb p' c' q' g'
    · rw [ck_ok h'] at cd
      rw [lst, if_pos ⟨h, h'⟩]
      obtain ⟨_, ⟨k2, k3⟩, _, ⟨k4, k5⟩⟩ := h
      obtain ⟨_, ⟨l2, l3⟩, _, ⟨l4, l5⟩⟩ := h'
      go_enter Tryd.func18, Tryd.ntmps18
      go_wp2_with fail
      rw [← HW.out.1, ← HW.out.2.1]
      refine (cc _).mono ?_
      rintro e w3 ⟨rfl, hb3⟩
      have z3 := H2.out.1.kept hb3 H2.out.1.lt
      have y3 := H2.out.2.1.kept hb3 H2.out.2.1.lt
      have q3 := H2.out.2.2.trans (hb3.mono H2.out.2.2.size)
      have H3 := Lib.hid (And.intro z3 (And.intro y3 q3))
      clear x0 x1 x2 x3 u0 u1 u2 u3 hb3 q3 H2 HW
      obtain ⟨x0, x1, x2, x3⟩ := z3
      obtain ⟨u0, u1, u2, u3⟩ := y3
      go_wp2_with fail
      refine (cd _).mono ?_
      rintro e w4 ⟨rfl, hb4⟩
      have z4 := H3.out.1.kept hb4 H3.out.1.lt
      have y4 := H3.out.2.1.kept hb4 H3.out.2.1.lt
      have q4 := H3.out.2.2.trans (hb4.mono H3.out.2.2.size)
      have HQ := Lib.hid q4
      clear x0 x1 x2 x3 u0 u1 u2 u3 hb4 q4 H3
      obtain ⟨x0, x1, x2, x3⟩ := z4
      obtain ⟨u0, u1, u2, u3⟩ := y4
      go_wp2
      go_ret
      exact ⟨rfl, HQ.out⟩
    · rw [ck_no h'] at cd
      rw [lst, if_neg (fun e => h' e.2)]
      clear h h'
      go_enter Tryd.func18, Tryd.ntmps18
      go_wp2_with fail
      rw [← HW.out.1, ← HW.out.2.1]
      refine (cc _).mono ?_
      rintro e w3 ⟨rfl, hb3⟩
      have z3 := H2.out.1.kept hb3 H2.out.1.lt
      have y3 := H2.out.2.1.kept hb3 H2.out.2.1.lt
      have q3 := H2.out.2.2.trans (hb3.mono H2.out.2.2.size)
      have H3 := Lib.hid (And.intro z3 (And.intro y3 q3))
      clear x0 x1 x2 x3 u0 u1 u2 u3 hb3 q3 H2 HW
      obtain ⟨x0, x1, x2, x3⟩ := z3
      obtain ⟨u0, u1, u2, u3⟩ := y3
      go_wp2_with fail
      refine (cd _).mono ?_
      rintro e w4 ⟨rfl, hb4⟩
      have z4 := H3.out.1.kept hb4 H3.out.1.lt
      have y4 := H3.out.2.1.kept hb4 H3.out.2.1.lt
      have q4 := H3.out.2.2.trans (hb4.mono H3.out.2.2.size)
      have HQ := Lib.hid q4
      clear x0 x1 x2 x3 u0 u1 u2 u3 hb4 q4 H3
      obtain ⟨x0, x1, x2, x3⟩ := z4
      obtain ⟨u0, u1, u2, u3⟩ := y4
      go_wp2
      go_ret
      exact ⟨rfl, HQ.out⟩
  · rw [ck_no h] at cc
    rw [lst, if_neg (fun e => h e.1)]
    clear h
    go_enter Tryd.func18, Tryd.ntmps18
    go_wp2_with fail
    rw [← HW.out.1, ← HW.out.2.1]
    refine (cc _).mono ?_
    rintro e w3 ⟨rfl, hb3⟩
    have z3 := H2.out.1.kept hb3 H2.out.1.lt
    have y3 := H2.out.2.1.kept hb3 H2.out.2.1.lt
    have q3 := H2.out.2.2.trans (hb3.mono H2.out.2.2.size)
    have H3 := Lib.hid (And.intro z3 (And.intro y3 q3))
    clear x0 x1 x2 x3 u0 u1 u2 u3 hb3 q3 H2 HW
    obtain ⟨x0, x1, x2, x3⟩ := z3
    obtain ⟨u0, u1, u2, u3⟩ := y3
    go_wp2
    go_ret
    exact ⟨rfl, H3.out.2.2⟩
end Go.Proofs.YtdchmpbmaeoeoaaDoor
