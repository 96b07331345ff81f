/-
  The law on counts' texts: its walk.
-/
import Derived.Test.YthgecgehelnadaaDoorRRd
namespace Go.Proofs.YthgecgehelnadaaDoor
open Go.Shelf Go.RowKit Go.Sort
open Go.Lib hiding intOf
set_option linter.unusedVariables false
open Classical in
noncomputable def yOf (ws : List (List UInt8)) : List Int := if Good ws then nums ws else zs
open Classical in
noncomputable def bOf (ws : List (List UInt8)) : Bool := decide (Good ws)
theorem yOf_len (ws : List (List UInt8)) : (yOf ws).length = 10 := by
  unfold yOf
  split
  · exact nums_len ws
  · rfl
open Classical in
theorem RdPost.one {ws : List (List UInt8)} {w : World} {e : Ending} {w' : World} (h : RdPost ws w e w') : e = .returned (.tuple #[cv (yOf ws), .bool (bOf ws)]) ∧ Below w.heap.size w w' := by
  obtain ⟨h1, h2⟩ := h
  refine ⟨?_, h2⟩
  rcases h1 with ⟨hg, rfl⟩ | ⟨hg, rfl⟩
  · rw [yOf, bOf, if_pos hg, decide_eq_true hg]
  · rw [yOf, bOf, if_neg hg, decide_eq_false hg]
theorem ptx_size (c : List Int) (hc : c.length = 10) (hu : U64s c) : (ptx c).size ≤ 100000 := by
  rw [ptx, mkS_size]
  exact Nat.le_trans (W_join c hc hu 10 (Nat.le_refl _)) (by omega)
theorem back_at (c : List Int) (hc : c.length = 10) (hu : U64s c) (T : ByteArray) (hT : T = ptx c) (w : World) (he : Env w) : Calls Tryd.prog 19 #[.string T] w fun e w' => e = .returned (.tuple #[cv c, .bool true]) ∧ Below w.heap.size w w' := by
  refine (read19_at T (by rw [hT]; exact ptx_size c hc hu) w he).mono fun e w' h => ?_
  obtain ⟨h1, h2⟩ := h
  rw [hT, wds_ptx c hc hu] at h1
  obtain ⟨g1, g2⟩ := W_good c hc hu
  rcases h1 with ⟨_, rfl⟩ | ⟨hn, _⟩
  · exact ⟨by rw [g2], h2⟩
  · exact absurd g1 hn
set_option maxHeartbeats 1000000 in
set_option maxRecDepth 100000 in
theorem reads_law (c : List Int) (hc : c.length = 10) (hu : U64s c) (s : ByteArray) (w : World) (he : Env w) : Calls Tryd.prog 5 #[cv c, .string s] w fun e w' => e = .returned (.bool true) ∧ Below w.heap.size w w' := by
  have hB := row_alloc w c
  have b1 := (Below.refl w.heap.size w).alloc (Nat.le_refl _) (.cells (ca c) 24)
  have hE1 := he.kept b1
  obtain ⟨w1, hw1⟩ : ∃ w1, w1 = w.alloc (.cells (ca c) 24) := ⟨_, rfl⟩
  rw [← hw1] at hB b1 hE1
  have HW := Lib.hid hw1
  have H1 := Lib.hid (And.intro hB (And.intro b1 hE1))
  have HC := Lib.hid (And.intro hc hu)
  have HE := Lib.hid he
  clear hB b1 hc hu he hE1 hw1
  by_cases hx : 500 < s.size
  · have hx' : (500 : Int) < (s.size : Int) := by omega
    go_enter Tryd.func5, Tryd.ntmps5
    go_wp2_with fail
    rw [← HW.out]
    refine (alive_at _ H1.out.2.2.toEnvT).mono ?_
    rintro e w2 ⟨rfl, hb2⟩
    go_wp2
    go_ret
    exact ⟨rfl, H1.out.2.1.trans (hb2.mono H1.out.2.1.size)⟩
  · have hx' : ¬ (500 : Int) < (s.size : Int) := by omega
    obtain ⟨T, hT⟩ : ∃ T, T = ptx c := ⟨_, rfl⟩
    have HT := Lib.hid hT
    obtain ⟨y, hy⟩ : ∃ y, y = yOf (wds s.data.toList) := ⟨_, rfl⟩
    obtain ⟨B, hBB⟩ : ∃ B, B = bOf (wds s.data.toList) := ⟨_, rfl⟩
    have hyl : y.length = 10 := by rw [hy]; exact yOf_len _
    have C19 : Hid (∀ V, Env V → Calls Tryd.prog 19 #[.string s] V fun e w' => e = .returned (.tuple #[cv y, .bool B]) ∧ Below V.heap.size V w') := Lib.hid (fun V hV => (read19_at s (by omega) V hV).mono fun e w' h => by rw [hy, hBB]; exact h.one)
    have C20 : Hid (∀ V, Calls Tryd.prog 20 #[.string s] V fun e w' => e = .returned (.tuple #[cv y, .bool B]) ∧ Below V.heap.size V w') := Lib.hid (fun V => (rread20_at s (by omega) V).mono fun e w' h => by rw [hy, hBB]; exact h.one)
    have HY := Lib.hid hyl
    clear hy hBB hyl hx
    go_enter Tryd.func5, Tryd.ntmps5
    go_wp2_with (first | fail | (rw [← HW.out]; refine ld24 rfl (.tmp 2) rfl _ rfl _ H1.out.1 HC.out.1 ?_))
    refine (prn_at c HC.out.1 HC.out.2 _ H1.out.2.2.toEnvT).mono ?_
    rintro e w2 ⟨rfl, hb2⟩
    rw [← hT]
    clear hT
    have q2 := H1.out.2.1.trans (hb2.mono H1.out.2.1.size)
    have H2 := Lib.hid (And.intro (H1.out.1.kept hb2 H1.out.1.lt) q2)
    clear hb2 q2 H1 HW
    go_wp2_with fail
    refine (back_at c HC.out.1 HC.out.2 T HT.out _ (HE.out.kept H2.out.2)).mono ?_
    rintro e w3 ⟨rfl, hb3⟩
    have q3 := H2.out.2.trans (hb3.mono H2.out.2.size)
    have hB3 := H2.out.1.kept hb3 H2.out.1.lt
    have hb4 := (Below.refl w3.heap.size w3).alloc (Nat.le_refl _) (.cells (ca c) 24)
    have hB4 := hB3.kept hb4 hB3.lt
    have hX4 := row_alloc w3 c
    have q4 := q3.trans (hb4.mono q3.size)
    obtain ⟨w4, hw4⟩ : ∃ w4, w4 = w3.alloc (.cells (ca c) 24) := ⟨_, rfl⟩
    obtain ⟨b6, hb6⟩ : ∃ b6, b6 = w3.heap.size := ⟨_, rfl⟩
    rw [← hw4] at hB4 hX4 q4
    rw [← hb6] at hX4
    have H4 := Lib.hid (And.intro hB4 (And.intro hX4 q4))
    have HW4 := Lib.hid (And.intro hw4 hb6)
    clear q3 hB3 hb4 hB4 hX4 q4 hw4 hb6 hb3 H2
    go_wp2_with (first | fail | (refine st24n rfl (.tmp 6) (.tmp 21) rfl c HC.out.1 rfl rfl _ rfl ?_; rw [← HW4.out.1, ← HW4.out.2]))
    refine (C19.out _ (HE.out.kept H4.out.2.2)).mono ?_
    rintro e w5 ⟨rfl, hb5⟩
    have q5 := H4.out.2.2.trans (hb5.mono H4.out.2.2.size)
    have hB5 := H4.out.1.kept hb5 H4.out.1.lt
    have hX5 := H4.out.2.1.kept hb5 H4.out.2.1.lt
    have hb6 := (Below.refl w5.heap.size w5).alloc (Nat.le_refl _) (.cells (ca y) 24)
    have hB6 := hB5.kept hb6 hB5.lt
    have hX6 := hX5.kept hb6 hX5.lt
    have hY6 := row_alloc w5 y
    have q6 := q5.trans (hb6.mono q5.size)
    obtain ⟨w6, hw6⟩ : ∃ w6, w6 = w5.alloc (.cells (ca y) 24) := ⟨_, rfl⟩
    obtain ⟨b8, hb8⟩ : ∃ b8, b8 = w5.heap.size := ⟨_, rfl⟩
    rw [← hw6] at hB6 hX6 hY6 q6
    rw [← hb8] at hY6
    have H6 := Lib.hid (And.intro hB6 (And.intro hX6 (And.intro hY6 q6)))
    have HW6 := Lib.hid (And.intro hw6 hb8)
    clear q5 hB5 hX5 hb6 hB6 hX6 hY6 q6 hw6 hb8 hb5 H4 HW4 C19
    go_wp2_with (first | fail | (refine st24n rfl (.tmp 8) (.tmp 26) rfl y HY.out rfl rfl _ rfl ?_; rw [← HW6.out.1, ← HW6.out.2]))
    refine (C20.out _).mono ?_
    rintro e w7 ⟨rfl, hb7⟩
    have q7 := H6.out.2.2.2.trans (hb7.mono H6.out.2.2.2.size)
    have hB7 := H6.out.1.kept hb7 H6.out.1.lt
    have hX7 := H6.out.2.1.kept hb7 H6.out.2.1.lt
    have hY7 := H6.out.2.2.1.kept hb7 H6.out.2.2.1.lt
    have hb8 := (Below.refl w7.heap.size w7).alloc (Nat.le_refl _) (.cells (ca y) 24)
    have hB8 := hB7.kept hb8 hB7.lt
    have hX8 := hX7.kept hb8 hX7.lt
    have hY8 := hY7.kept hb8 hY7.lt
    have hZ8 := row_alloc w7 y
    have q8 := q7.trans (hb8.mono q7.size)
    obtain ⟨w8, hw8⟩ : ∃ w8, w8 = w7.alloc (.cells (ca y) 24) := ⟨_, rfl⟩
    obtain ⟨b10, hb10⟩ : ∃ b10, b10 = w7.heap.size := ⟨_, rfl⟩
    rw [← hw8] at hB8 hX8 hY8 hZ8 q8
    rw [← hb10] at hZ8
    have H8 := Lib.hid (And.intro hB8 (And.intro hX8 (And.intro hY8 (And.intro hZ8 q8))))
    have HW8 := Lib.hid (And.intro hw8 hb10)
    clear q7 hB7 hX7 hY7 hb8 hB8 hX8 hY8 hZ8 q8 hw8 hb10 hb7 H6 HW6 C20
    go_wp2_with (first | fail | (refine st24n rfl (.tmp 10) (.tmp 31) rfl y HY.out rfl rfl _ rfl ?_; rw [← HW8.out.1, ← HW8.out.2]) | refine ld24 rfl (.tmp 2) rfl _ rfl _ H8.out.1 HC.out.1 ?_)
    refine (rprn_at c HC.out.1 HC.out.2 _).mono ?_
    rintro e w9 ⟨rfl, hb9⟩
    have hB9 := H8.out.1.kept hb9 H8.out.1.lt
    have hX9 := H8.out.2.1.kept hb9 H8.out.2.1.lt
    have hY9 := H8.out.2.2.1.kept hb9 H8.out.2.2.1.lt
    have hZ9 := H8.out.2.2.2.1.kept hb9 H8.out.2.2.2.1.lt
    have q9 := H8.out.2.2.2.2.trans (hb9.mono H8.out.2.2.2.2.size)
    obtain ⟨a0, a1, a2, a3, a4, a5, a6, a7, a8, a9, hca⟩ := ten_list c HC.out.1
    obtain ⟨d0, d1, d2, d3, d4, d5, d6, d7, d8, d9, hdy⟩ := ten_list y HY.out
    rw [hca] at hB9 hX9
    rw [hdy] at hY9 hZ9
    obtain ⟨x0, x1, x2, x3, x4, x5, x6, x7, x8, x9⟩ := hB9.cells10
    obtain ⟨y0, y1, y2, y3, y4, y5, y6, y7, y8, y9⟩ := hX9.cells10
    obtain ⟨m0, m1, m2, m3, m4, m5, m6, m7, m8, m9⟩ := hY9.cells10
    obtain ⟨n0, n1, n2, n3, n4, n5, n6, n7, n8, n9⟩ := hZ9.cells10
    have HQ := Lib.hid q9
    have heq := bl_eq T
    rw [← HT.out]
    clear hb9 hB9 hX9 hY9 hZ9 q9 hca hdy H8 HW8
    go_wp2_with fail
    clear x0 x1 x2 x3 x4 x5 x6 x7 x8 x9 y0 y1 y2 y3 y4 y5 y6 y7 y8 y9 m0 m1 m2 m3 m4 m5 m6 m7 m8 m9 n0 n1 n2 n3 n4 n5 n6 n7 n8 n9
    refine (alive_at _ (HE.out.kept HQ.out).toEnvT).mono ?_
    rintro e w10 ⟨rfl, hb10⟩
    go_wp2
    go_ret
    exact ⟨rfl, HQ.out.trans (hb10.mono HQ.out.size)⟩
theorem tallyReads_law (c : List Int) (hc : c.length = 10) (hu : U64s c) (s : ByteArray) (w : World) (he : Env w) : Calls Tryd.prog 5 #[cv c, .string s] w fun e w' => e = .returned (.bool true) ∧ Below w.heap.size w w' := reads_law c hc hu s w he
end Go.Proofs.YthgecgehelnadaaDoor
