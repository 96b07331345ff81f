/-
  The law on how much less room: its walk.
-/
import Derived.Test.YtdchmpbmaeoeoaaDoorLive
import Derived.Test.YtdchmpbmaeoeoaaDoorDGen
namespace Go.Proofs.YtdchmpbmaeoeoaaDoor
open Go.Shelf Go.RowKit Go.Sort
open Go.Lib hiding intOf
set_option linter.unusedVariables false
theorem lst_no {p c q g p' c' q' g' : Int} (h : ¬ (Mb p c q g ∧ Mb p' c' q' g')) : lst p c q g p' c' q' g' = 0 := if_neg h
theorem lst_ok {p c q g p' c' q' g' : Int} (h : Mb p c q g) (h' : Mb p' c' q' g') : lst p c q g p' c' q' g' = max 0 (c + g - (c' + g')) := if_pos ⟨h, h'⟩
theorem lst_two {p c q g p' c' q' g' : Int} (h : Mb p c q g) (h' : Mb p' c' q' g') : ∃ n m : Int, lst p c q g p' c' q' g' = n ∧ lst p' c' q' g' p c q g = m ∧ ((n = 0 ∧ 0 ≤ m ∧ m ≤ 1000 ∧ -m = c + g - c' - g') ∨ (m = 0 ∧ 0 ≤ n ∧ n ≤ 1000 ∧ ¬ n = 0 ∧ c + g - c' - g' = n)) := by
  refine ⟨_, _, rfl, rfl, ?_⟩
  rw [lst_ok h h', lst_ok h' h]
  obtain ⟨_, ⟨_, _⟩, ⟨_, _⟩, ⟨_, _⟩⟩ := h
  obtain ⟨_, ⟨_, _⟩, ⟨_, _⟩, ⟨_, _⟩⟩ := h'
  omega
set_option maxHeartbeats 1000000 in
set_option maxRecDepth 100000 in
theorem lost_law (p c q g p' c' q' g' : Int) (w : World) (he : Env w) : Calls Tryd.prog 5 #[.agg #[.int .i64 p, .int .i64 c, .int .i64 q, .int .i64 g], .agg #[.int .i64 p', .int .i64 c', .int .i64 q', .int .i64 g']] w fun e w' => e = .returned (.bool true) ∧ Below w.heap.size w w' := by
  have ca := fun W => may_at p c q g W
  have cb := fun W => may_at p' c' q' g' W
  have z1 := at4_alloc w p c q g
  obtain ⟨w1, hw1⟩ : ∃ w1, w1 = w.alloc (.cells #[.int .i64 p, .int .i64 c, .int .i64 q, .int .i64 g] 24) := ⟨_, rfl⟩
  have b1 : Below w.heap.size w w1 := hw1 ▸ alloc_below w _
  have s1 : w1.heap.size = w.heap.size + 1 := by rw [hw1]; simp
  rw [← hw1] at z1
  have y2 := at4_alloc w1 p' c' q' g'
  obtain ⟨w2, hw2⟩ : ∃ w2, w2 = w1.alloc (.cells #[.int .i64 p', .int .i64 c', .int .i64 q', .int .i64 g'] 24) := ⟨_, rfl⟩
  have b2 : Below w1.heap.size w1 w2 := hw2 ▸ alloc_below w1 _
  rw [← hw2] at y2
  have z2 := z1.kept b2 z1.lt
  have q2 := b1.trans (b2.mono b1.size)
  rw [s1] at y2
  have HW := Lib.hid (And.intro hw1 hw2)
  have H2 := Lib.hid (And.intro z2 (And.intro y2 q2))
  have HE := Lib.hid (he.kept q2)
  have x0 : ∀ W : GrB w2, W.v.cell? ⟨w.heap.size, 0, none⟩ = some (.int .i64 p) := fun W => by
    obtain ⟨e0, e1, e2, e3⟩ := z2.kept W.h z2.lt
    exact e0
  have u0 : ∀ W : GrB w2, W.v.cell? ⟨w.heap.size + 1, 0, none⟩ = some (.int .i64 p') := fun W => by
    obtain ⟨e0, e1, e2, e3⟩ := y2.kept W.h y2.lt
    exact e0
  have x1 : ∀ W : GrB w2, W.v.cell? ⟨w.heap.size, 1, none⟩ = some (.int .i64 c) := fun W => by
    obtain ⟨e0, e1, e2, e3⟩ := z2.kept W.h z2.lt
    exact e1
  have u1 : ∀ W : GrB w2, W.v.cell? ⟨w.heap.size + 1, 1, none⟩ = some (.int .i64 c') := fun W => by
    obtain ⟨e0, e1, e2, e3⟩ := y2.kept W.h y2.lt
    exact e1
  have x2 : ∀ W : GrB w2, W.v.cell? ⟨w.heap.size, 2, none⟩ = some (.int .i64 q) := fun W => by
    obtain ⟨e0, e1, e2, e3⟩ := z2.kept W.h z2.lt
    exact e2
  have u2 : ∀ W : GrB w2, W.v.cell? ⟨w.heap.size + 1, 2, none⟩ = some (.int .i64 q') := fun W => by
    obtain ⟨e0, e1, e2, e3⟩ := y2.kept W.h y2.lt
    exact e2
  have x3 : ∀ W : GrB w2, W.v.cell? ⟨w.heap.size, 3, none⟩ = some (.int .i64 g) := fun W => by
    obtain ⟨e0, e1, e2, e3⟩ := z2.kept W.h z2.lt
    exact e3
  have u3 : ∀ W : GrB w2, W.v.cell? ⟨w.heap.size + 1, 3, none⟩ = some (.int .i64 g') := fun W => by
    obtain ⟨e0, e1, e2, e3⟩ := y2.kept W.h y2.lt
    exact e3
  obtain ⟨n, hn⟩ : ∃ n, n = lst p c q g p' c' q' g' := ⟨_, rfl⟩
  obtain ⟨m, hm⟩ : ∃ m, m = lst p' c' q' g' p c q g := ⟨_, rfl⟩
  have CA : Hid (∀ W : GrB w2, Calls Tryd.prog 18 #[.agg #[.int .i64 p, .int .i64 c, .int .i64 q, .int .i64 g], .agg #[.int .i64 p', .int .i64 c', .int .i64 q', .int .i64 g']] W.v fun e w' => e = .returned (.int .i64 n) ∧ ∃ W' : GrB w2, w' = W'.v) := Lib.hid (fun W => (lost_at p c q g p' c' q' g' W.v).mono fun e w' ⟨e1, e2⟩ => ⟨by rw [hn]; exact e1, ⟨w', W.h.trans (e2.mono W.h.size)⟩, rfl⟩)
  have CB : Hid (∀ W : GrB w2, Calls Tryd.prog 18 #[.agg #[.int .i64 p', .int .i64 c', .int .i64 q', .int .i64 g'], .agg #[.int .i64 p, .int .i64 c, .int .i64 q, .int .i64 g]] W.v fun e w' => e = .returned (.int .i64 m) ∧ ∃ W' : GrB w2, w' = W'.v) := Lib.hid (fun W => (lost_at p' c' q' g' p c q g W.v).mono fun e w' ⟨e1, e2⟩ => ⟨by rw [hm]; exact e1, ⟨w', W.h.trans (e2.mono W.h.size)⟩, rfl⟩)
  have HN := Lib.hid (And.intro hn hm)
  clear z1 b1 b2 q2 s1 hw1 hw2 z2 y2 he hn hm
  go_enter Tryd.func5, Tryd.ntmps5
  go_wp2_with fail
  rw [← HW.out.1, ← HW.out.2]
  refine region_grown (by kernel_rfl) (by kernel_rfl) ?_
  repeat (go_big_quiet_step (first | (go_at_call 18; first | with_reducible exact CA.out _ | with_reducible exact CB.out _)))
  refine wpQuiet_nil ?_
  rintro w' ⟨⟨w3, hb3⟩, rfl⟩
  have z3 := H2.out.1.kept hb3 H2.out.1.lt
  have y3 := H2.out.2.1.kept hb3 H2.out.2.1.lt
  have q3 := H2.out.2.2.trans (hb3.mono H2.out.2.2.size)
  have H3 := Lib.hid (And.intro z3 (And.intro y3 (And.intro q3 (HE.out.kept hb3))))
  clear x0 x1 x2 x3 u0 u1 u2 u3 hb3 q3 H2 HW CA CB HE
  obtain ⟨x0, x1, x2, x3⟩ := z3
  obtain ⟨u0, u1, u2, u3⟩ := y3
  by_cases h : Mb p c q g
  · rw [decide_eq_true h] at ca
    by_cases h' : Mb p' c' q' g'
    · rw [decide_eq_true h'] at cb
      obtain ⟨n', m', e1, e2, hc⟩ := lst_two h h'
      obtain rfl : n = n' := HN.out.1.trans e1
      obtain rfl : m = m' := HN.out.2.trans e2
      obtain ⟨_, ⟨k2, k3⟩, _, ⟨k4, k5⟩⟩ := h
      obtain ⟨_, ⟨l2, l3⟩, _, ⟨l4, l5⟩⟩ := h'
      clear e1 e2 HN
      rcases hc with ⟨rfl, hm0, hm1, hnm⟩ | ⟨rfl, hn0, hn1, hne, hnm⟩
      · go_wp2_with fail
        refine (ca _).mono ?_
        rintro e w4 ⟨rfl, hb4⟩
        have z4 := H3.out.1.kept hb4 H3.out.1.lt
        have y4 := H3.out.2.1.kept hb4 H3.out.2.1.lt
        have q4 := H3.out.2.2.1.trans (hb4.mono H3.out.2.2.1.size)
        have H4 := Lib.hid (And.intro z4 (And.intro y4 (And.intro q4 (H3.out.2.2.2.kept hb4))))
        clear x0 x1 x2 x3 u0 u1 u2 u3 hb4 q4 H3
        obtain ⟨x0, x1, x2, x3⟩ := z4
        obtain ⟨u0, u1, u2, u3⟩ := y4
        go_wp2_with fail
        refine (cb _).mono ?_
        rintro e w5 ⟨rfl, hb5⟩
        have z5 := H4.out.1.kept hb5 H4.out.1.lt
        have y5 := H4.out.2.1.kept hb5 H4.out.2.1.lt
        have q5 := H4.out.2.2.1.trans (hb5.mono H4.out.2.2.1.size)
        have H5 := Lib.hid (And.intro q5 (H4.out.2.2.2.kept hb5))
        clear x0 x1 x2 x3 u0 u1 u2 u3 hb5 q5 H4
        obtain ⟨x0, x1, x2, x3⟩ := z5
        obtain ⟨u0, u1, u2, u3⟩ := y5
        go_wp2_with fail
        refine (alive_at _ H5.out.2).mono ?_
        rintro e w6 ⟨rfl, hb6⟩
        go_wp2
        go_ret
        exact ⟨rfl, H5.out.1.trans (hb6.mono H5.out.1.size)⟩
      · go_wp2_with fail
        refine (ca _).mono ?_
        rintro e w4 ⟨rfl, hb4⟩
        have z4 := H3.out.1.kept hb4 H3.out.1.lt
        have y4 := H3.out.2.1.kept hb4 H3.out.2.1.lt
        have q4 := H3.out.2.2.1.trans (hb4.mono H3.out.2.2.1.size)
        have H4 := Lib.hid (And.intro z4 (And.intro y4 (And.intro q4 (H3.out.2.2.2.kept hb4))))
        clear x0 x1 x2 x3 u0 u1 u2 u3 hb4 q4 H3
        obtain ⟨x0, x1, x2, x3⟩ := z4
        obtain ⟨u0, u1, u2, u3⟩ := y4
        go_wp2_with fail
        refine (cb _).mono ?_
        rintro e w5 ⟨rfl, hb5⟩
        have z5 := H4.out.1.kept hb5 H4.out.1.lt
        have y5 := H4.out.2.1.kept hb5 H4.out.2.1.lt
        have q5 := H4.out.2.2.1.trans (hb5.mono H4.out.2.2.1.size)
        have H5 := Lib.hid (And.intro q5 (H4.out.2.2.2.kept hb5))
        clear x0 x1 x2 x3 u0 u1 u2 u3 hb5 q5 H4
        obtain ⟨x0, x1, x2, x3⟩ := z5
        obtain ⟨u0, u1, u2, u3⟩ := y5
        go_wp2_with fail
        refine (alive_at _ H5.out.2).mono ?_
        rintro e w6 ⟨rfl, hb6⟩
        go_wp2
        go_ret
        exact ⟨rfl, H5.out.1.trans (hb6.mono H5.out.1.size)⟩
    · rw [decide_eq_false h'] at cb
      obtain rfl : n = 0 := HN.out.1.trans (lst_no (fun e => h' e.2))
      obtain rfl : m = 0 := HN.out.2.trans (lst_no (fun e => h' e.1))
      clear h h' HN
      go_wp2_with fail
      refine (ca _).mono ?_
      rintro e w4 ⟨rfl, hb4⟩
      have z4 := H3.out.1.kept hb4 H3.out.1.lt
      have y4 := H3.out.2.1.kept hb4 H3.out.2.1.lt
      have q4 := H3.out.2.2.1.trans (hb4.mono H3.out.2.2.1.size)
      have H4 := Lib.hid (And.intro z4 (And.intro y4 (And.intro q4 (H3.out.2.2.2.kept hb4))))
      clear x0 x1 x2 x3 u0 u1 u2 u3 hb4 q4 H3
      obtain ⟨x0, x1, x2, x3⟩ := z4
      obtain ⟨u0, u1, u2, u3⟩ := y4
      go_wp2_with fail
      refine (cb _).mono ?_
      rintro e w5 ⟨rfl, hb5⟩
      have z5 := H4.out.1.kept hb5 H4.out.1.lt
      have y5 := H4.out.2.1.kept hb5 H4.out.2.1.lt
      have q5 := H4.out.2.2.1.trans (hb5.mono H4.out.2.2.1.size)
      have H5 := Lib.hid (And.intro q5 (H4.out.2.2.2.kept hb5))
      clear x0 x1 x2 x3 u0 u1 u2 u3 hb5 q5 H4
      obtain ⟨x0, x1, x2, x3⟩ := z5
      obtain ⟨u0, u1, u2, u3⟩ := y5
      go_wp2_with fail
      refine (alive_at _ H5.out.2).mono ?_
      rintro e w6 ⟨rfl, hb6⟩
      go_wp2
      go_ret
      exact ⟨rfl, H5.out.1.trans (hb6.mono H5.out.1.size)⟩
  · rw [decide_eq_false h] at ca
    obtain rfl : n = 0 := HN.out.1.trans (lst_no (fun e => h e.1))
    obtain rfl : m = 0 := HN.out.2.trans (lst_no (fun e => h e.2))
    clear h HN
    go_wp2_with fail
    refine (ca _).mono ?_
    rintro e w4 ⟨rfl, hb4⟩
    have z4 := H3.out.1.kept hb4 H3.out.1.lt
    have y4 := H3.out.2.1.kept hb4 H3.out.2.1.lt
    have q4 := H3.out.2.2.1.trans (hb4.mono H3.out.2.2.1.size)
    have H4 := Lib.hid (And.intro z4 (And.intro y4 (And.intro q4 (H3.out.2.2.2.kept hb4))))
    clear x0 x1 x2 x3 u0 u1 u2 u3 hb4 q4 H3
    obtain ⟨x0, x1, x2, x3⟩ := z4
    obtain ⟨u0, u1, u2, u3⟩ := y4
    go_wp2_with fail
    refine (alive_at _ H4.out.2.2.2).mono ?_
    rintro e w6 ⟨rfl, hb6⟩
    go_wp2
    go_ret
    exact ⟨rfl, H4.out.2.2.1.trans (hb6.mono H4.out.2.2.1.size)⟩
theorem configLost_law (p c q g : Int) (h : Is64 p ∧ Is64 c ∧ Is64 q ∧ Is64 g) (p' c' q' g' : Int) (h' : Is64 p' ∧ Is64 c' ∧ Is64 q' ∧ Is64 g') (w : World) (he : Env w) : Calls Tryd.prog 5 #[.agg #[.int .i64 p, .int .i64 c, .int .i64 q, .int .i64 g], .agg #[.int .i64 p', .int .i64 c', .int .i64 q', .int .i64 g']] w fun e w' => e = .returned (.bool true) ∧ Below w.heap.size w w' := lost_law p c q g p' c' q' g' w he
end Go.Proofs.YtdchmpbmaeoeoaaDoor
