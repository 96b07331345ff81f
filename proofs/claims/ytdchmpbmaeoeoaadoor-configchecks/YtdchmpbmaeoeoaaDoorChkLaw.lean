/-
  The law on which configs may be: its walk.
-/
import Derived.Test.YtdchmpbmaeoeoaaDoorLive
import Derived.Test.YtdchmpbmaeoeoaaDoorDGen
namespace Go.Proofs.YtdchmpbmaeoeoaaDoor
open Go.Shelf Go.RowKit Go.Sort
open Go.Lib hiding intOf
set_option linter.unusedVariables false
set_option maxHeartbeats 1000000 in
set_option maxRecDepth 100000 in
theorem checks_law (p c q g : Int) (x : ByteArray) (w : World) (he : Env w) : Calls Tryd.prog 3 #[.agg #[.int .i64 p, .int .i64 c, .int .i64 q, .int .i64 g], .string x] w fun e w' => e = .returned (.bool true) ∧ Below w.heap.size w w' := by
  have z1 := at4_alloc w p c q g
  have q1 := alloc_below w (.cells #[.int .i64 p, .int .i64 c, .int .i64 q, .int .i64 g] 24)
  obtain ⟨w1, hw1⟩ : ∃ w1, w1 = w.alloc (.cells #[.int .i64 p, .int .i64 c, .int .i64 q, .int .i64 g] 24) := ⟨_, rfl⟩
  rw [← hw1] at z1 q1
  have hE1 := he.kept q1
  have HW := Lib.hid hw1
  have H1 := Lib.hid (And.intro z1 (And.intro q1 hE1))
  clear z1 q1 hE1 he hw1
  by_cases hx : 100 < x.size
  · have hx' : (100 : Int) < (x.size : Int) := by omega
    go_enter Tryd.func3, Tryd.ntmps3
    go_wp2_with fail
    rw [← HW.out]
    refine (alive_at _ H1.out.2.2).mono ?_
    rintro e w2 ⟨rfl, hb2⟩
    go_wp2
    go_ret
    exact ⟨rfl, H1.out.2.1.trans (hb2.mono H1.out.2.1.size)⟩
  · have hx' : ¬ (100 : Int) < (x.size : Int) := by omega
    obtain ⟨r, hr⟩ : ∃ r, r = pol x.data.toList := ⟨_, rfl⟩
    obtain ⟨b, hb⟩ : ∃ b, b = decide (r ≠ 0) := ⟨_, rfl⟩
    have C8 : Hid (∀ W, Calls Tryd.prog 8 #[.string x] W fun e w' => e = .returned (.tuple #[.int .i64 r, .bool b]) ∧ w' = W) := Lib.hid (fun W => by rw [hb, hr]; exact policy_at x W)
    have C10 : Hid (∀ W, Calls Tryd.prog 10 #[.string x] W fun e w' => e = .returned (.int .i64 r) ∧ w' = W) := Lib.hid (fun W => by rw [hr]; exact rpolicy_at x W)
    obtain ⟨y, hy⟩ : ∃ y, y = ns p := ⟨_, rfl⟩
    have hyy := bl_eq y
    have C7 := Lib.hid (fun W => check_at p c q g W)
    have C9 := Lib.hid (fun W => may_at p c q g W)
    have C11 := Lib.hid (fun W => room_at p c q g W)
    have HY := Lib.hid hy
    have HB := Lib.hid hb
    clear hr hb hy hx
    go_enter Tryd.func3, Tryd.ntmps3
    go_wp2_with fail
    rw [← HW.out]
    refine (C7.out _).mono ?_
    rintro e w2 ⟨rfl, hb2⟩
    have z2 := H1.out.1.kept hb2 H1.out.1.lt
    have q2 := H1.out.2.1.trans (hb2.mono H1.out.2.1.size)
    have hE2 := H1.out.2.2.kept hb2
    have H2 := Lib.hid (And.intro z2 (And.intro q2 hE2))
    clear hb2 q2 hE2 H1 HW
    obtain ⟨d0, d1, d2, d3⟩ := z2
    go_wp2_with fail
    refine (C8.out _).mono ?_
    rintro e w3 ⟨rfl, h3⟩
    subst h3
    by_cases hm : Mb p c q g
    · rw [ck_ok hm]
      have HM := Lib.hid hm
      obtain ⟨_, ⟨k1, k2⟩, ⟨k3, k4⟩, _⟩ := hm
      by_cases hr0 : r = 0
      · subst hr0
        obtain rfl : b = false := HB.out
        go_wp2_with fail
        refine (C9.out _).mono ?_
        rintro e w4 ⟨rfl, hb4⟩
        rw [decide_eq_true HM.out]
        have z4 := H2.out.1.kept hb4 H2.out.1.lt
        have q4 := H2.out.2.1.trans (hb4.mono H2.out.2.1.size)
        have hE4 := H2.out.2.2.kept hb4
        have H4 := Lib.hid (And.intro z4 (And.intro q4 hE4))
        clear d0 d1 d2 d3 hb4 q4 hE4 H2
        obtain ⟨d0, d1, d2, d3⟩ := z4
        go_wp2_with fail
        refine (C10.out _).mono ?_
        rintro e w5 ⟨rfl, h5⟩
        subst h5
        clear d0 d1 d2 d3
        have x0 : ∀ W : GrB w5, W.v.cell? ⟨w.heap.size, 0, none⟩ = some (.int .i64 p) := fun W => by
          obtain ⟨e0, e1, e2, e3⟩ := H4.out.1.kept W.h H4.out.1.lt
          exact e0
        have x1 : ∀ W : GrB w5, W.v.cell? ⟨w.heap.size, 1, none⟩ = some (.int .i64 c) := fun W => by
          obtain ⟨e0, e1, e2, e3⟩ := H4.out.1.kept W.h H4.out.1.lt
          exact e1
        have x2 : ∀ W : GrB w5, W.v.cell? ⟨w.heap.size, 2, none⟩ = some (.int .i64 q) := fun W => by
          obtain ⟨e0, e1, e2, e3⟩ := H4.out.1.kept W.h H4.out.1.lt
          exact e2
        have x3 : ∀ W : GrB w5, W.v.cell? ⟨w.heap.size, 3, none⟩ = some (.int .i64 g) := fun W => by
          obtain ⟨e0, e1, e2, e3⟩ := H4.out.1.kept W.h H4.out.1.lt
          exact e3
        have D11 : Hid (∀ W : GrB w5, Calls Tryd.prog 11 #[.agg #[.int .i64 p, .int .i64 c, .int .i64 q, .int .i64 g]] W.v fun e w' => e = .returned (.int .i64 (c - q)) ∧ ∃ W' : GrB w5, w' = W'.v) := Lib.hid (fun W => (C11.out W.v).mono fun e w' ⟨e1, e2⟩ => ⟨by rw [← (show rm p c q g = c - q from if_pos HM.out)]; exact e1, ⟨w', W.h.trans (e2.mono W.h.size)⟩, rfl⟩)
        have D12 : Hid (∀ W : GrB w5, Calls Tryd.prog 12 #[.int .i64 p] W.v fun e w' => e = .returned (.string y) ∧ ∃ W' : GrB w5, w' = W'.v) := Lib.hid (fun W => (name_at p W.v).mono fun e w' ⟨e1, e2⟩ => ⟨by rw [HY.out]; exact e1, W, e2⟩)
        have D13 : Hid (∀ W : GrB w5, Calls Tryd.prog 13 #[.int .i64 p] W.v fun e w' => e = .returned (.string y) ∧ ∃ W' : GrB w5, w' = W'.v) := Lib.hid (fun W => (rname_at p W.v).mono fun e w' ⟨e1, e2⟩ => ⟨by rw [HY.out]; exact e1, W, e2⟩)
        have D6 : Hid (∀ W : GrB w5, Calls Tryd.prog 6 #[] W.v fun e w' => e = .returned (.bool true) ∧ ∃ W' : GrB w5, w' = W'.v) := Lib.hid (fun W => (alive_at W.v (H4.out.2.2.kept W.h)).mono fun e w' ⟨e1, e2⟩ => ⟨e1, ⟨w', W.h.trans (e2.mono W.h.size)⟩, rfl⟩)
        have d1 := H4.out.1.2.1
        have d2 := H4.out.1.2.2.1
        go_wp2_with fail
        refine region_grown (by kernel_rfl) (by kernel_rfl) ?_
        repeat (go_big_quiet_step (first | (go_at_call 11; exact D11.out _) | (go_at_call 12; exact D12.out _) | (go_at_call 13; exact D13.out _) | (go_at_call 6; exact D6.out _)))
        refine wpQuiet_nil ?_
        rintro w' ⟨⟨w9, hgl⟩, rfl⟩
        clear x0 x1 x2 x3
        go_wp2
        go_ret
        exact ⟨rfl, H4.out.2.1.trans (hgl.mono H4.out.2.1.size)⟩
      · obtain rfl : b = true := by rw [HB.out]; exact decide_eq_true hr0
        have hr1 : (r != 0) = true := by simpa using hr0
        go_wp2_with fail
        refine (C9.out _).mono ?_
        rintro e w4 ⟨rfl, hb4⟩
        rw [decide_eq_true HM.out]
        have z4 := H2.out.1.kept hb4 H2.out.1.lt
        have q4 := H2.out.2.1.trans (hb4.mono H2.out.2.1.size)
        have hE4 := H2.out.2.2.kept hb4
        have H4 := Lib.hid (And.intro z4 (And.intro q4 hE4))
        clear d0 d1 d2 d3 hb4 q4 hE4 H2
        obtain ⟨d0, d1, d2, d3⟩ := z4
        go_wp2_with fail
        refine (C10.out _).mono ?_
        rintro e w5 ⟨rfl, h5⟩
        subst h5
        clear d0 d1 d2 d3
        have x0 : ∀ W : GrB w5, W.v.cell? ⟨w.heap.size, 0, none⟩ = some (.int .i64 p) := fun W => by
          obtain ⟨e0, e1, e2, e3⟩ := H4.out.1.kept W.h H4.out.1.lt
          exact e0
        have x1 : ∀ W : GrB w5, W.v.cell? ⟨w.heap.size, 1, none⟩ = some (.int .i64 c) := fun W => by
          obtain ⟨e0, e1, e2, e3⟩ := H4.out.1.kept W.h H4.out.1.lt
          exact e1
        have x2 : ∀ W : GrB w5, W.v.cell? ⟨w.heap.size, 2, none⟩ = some (.int .i64 q) := fun W => by
          obtain ⟨e0, e1, e2, e3⟩ := H4.out.1.kept W.h H4.out.1.lt
          exact e2
        have x3 : ∀ W : GrB w5, W.v.cell? ⟨w.heap.size, 3, none⟩ = some (.int .i64 g) := fun W => by
          obtain ⟨e0, e1, e2, e3⟩ := H4.out.1.kept W.h H4.out.1.lt
          exact e3
        have D11 : Hid (∀ W : GrB w5, Calls Tryd.prog 11 #[.agg #[.int .i64 p, .int .i64 c, .int .i64 q, .int .i64 g]] W.v fun e w' => e = .returned (.int .i64 (c - q)) ∧ ∃ W' : GrB w5, w' = W'.v) := Lib.hid (fun W => (C11.out W.v).mono fun e w' ⟨e1, e2⟩ => ⟨by rw [← (show rm p c q g = c - q from if_pos HM.out)]; exact e1, ⟨w', W.h.trans (e2.mono W.h.size)⟩, rfl⟩)
        have D12 : Hid (∀ W : GrB w5, Calls Tryd.prog 12 #[.int .i64 p] W.v fun e w' => e = .returned (.string y) ∧ ∃ W' : GrB w5, w' = W'.v) := Lib.hid (fun W => (name_at p W.v).mono fun e w' ⟨e1, e2⟩ => ⟨by rw [HY.out]; exact e1, W, e2⟩)
        have D13 : Hid (∀ W : GrB w5, Calls Tryd.prog 13 #[.int .i64 p] W.v fun e w' => e = .returned (.string y) ∧ ∃ W' : GrB w5, w' = W'.v) := Lib.hid (fun W => (rname_at p W.v).mono fun e w' ⟨e1, e2⟩ => ⟨by rw [HY.out]; exact e1, W, e2⟩)
        have D6 : Hid (∀ W : GrB w5, Calls Tryd.prog 6 #[] W.v fun e w' => e = .returned (.bool true) ∧ ∃ W' : GrB w5, w' = W'.v) := Lib.hid (fun W => (alive_at W.v (H4.out.2.2.kept W.h)).mono fun e w' ⟨e1, e2⟩ => ⟨e1, ⟨w', W.h.trans (e2.mono W.h.size)⟩, rfl⟩)
        have d1 := H4.out.1.2.1
        have d2 := H4.out.1.2.2.1
        go_wp2_with fail
        refine region_grown (by kernel_rfl) (by kernel_rfl) ?_
        repeat (go_big_quiet_step (first | (go_at_call 11; exact D11.out _) | (go_at_call 12; exact D12.out _) | (go_at_call 13; exact D13.out _) | (go_at_call 6; exact D6.out _)))
        refine wpQuiet_nil ?_
        rintro w' ⟨⟨w9, hgl⟩, rfl⟩
        clear x0 x1 x2 x3
        go_wp2
        go_ret
        exact ⟨rfl, H4.out.2.1.trans (hgl.mono H4.out.2.1.size)⟩
    · rw [ck_no hm]
      have HM := Lib.hid hm
      clear hm
      by_cases hr0 : r = 0
      · subst hr0
        obtain rfl : b = false := HB.out
        go_wp2_with fail
        refine (C9.out _).mono ?_
        rintro e w4 ⟨rfl, hb4⟩
        rw [decide_eq_false HM.out]
        have z4 := H2.out.1.kept hb4 H2.out.1.lt
        have q4 := H2.out.2.1.trans (hb4.mono H2.out.2.1.size)
        have hE4 := H2.out.2.2.kept hb4
        have H4 := Lib.hid (And.intro z4 (And.intro q4 hE4))
        clear d0 d1 d2 d3 hb4 q4 hE4 H2
        obtain ⟨d0, d1, d2, d3⟩ := z4
        go_wp2_with fail
        refine (C10.out _).mono ?_
        rintro e w5 ⟨rfl, h5⟩
        subst h5
        clear d0 d1 d2 d3
        have x0 : ∀ W : GrB w5, W.v.cell? ⟨w.heap.size, 0, none⟩ = some (.int .i64 p) := fun W => by
          obtain ⟨e0, e1, e2, e3⟩ := H4.out.1.kept W.h H4.out.1.lt
          exact e0
        have x1 : ∀ W : GrB w5, W.v.cell? ⟨w.heap.size, 1, none⟩ = some (.int .i64 c) := fun W => by
          obtain ⟨e0, e1, e2, e3⟩ := H4.out.1.kept W.h H4.out.1.lt
          exact e1
        have x2 : ∀ W : GrB w5, W.v.cell? ⟨w.heap.size, 2, none⟩ = some (.int .i64 q) := fun W => by
          obtain ⟨e0, e1, e2, e3⟩ := H4.out.1.kept W.h H4.out.1.lt
          exact e2
        have x3 : ∀ W : GrB w5, W.v.cell? ⟨w.heap.size, 3, none⟩ = some (.int .i64 g) := fun W => by
          obtain ⟨e0, e1, e2, e3⟩ := H4.out.1.kept W.h H4.out.1.lt
          exact e3
        have D11 : Hid (∀ W : GrB w5, Calls Tryd.prog 11 #[.agg #[.int .i64 p, .int .i64 c, .int .i64 q, .int .i64 g]] W.v fun e w' => e = .returned (.int .i64 0) ∧ ∃ W' : GrB w5, w' = W'.v) := Lib.hid (fun W => (C11.out W.v).mono fun e w' ⟨e1, e2⟩ => ⟨by rw [← (show rm p c q g = 0 from if_neg HM.out)]; exact e1, ⟨w', W.h.trans (e2.mono W.h.size)⟩, rfl⟩)
        have D12 : Hid (∀ W : GrB w5, Calls Tryd.prog 12 #[.int .i64 p] W.v fun e w' => e = .returned (.string y) ∧ ∃ W' : GrB w5, w' = W'.v) := Lib.hid (fun W => (name_at p W.v).mono fun e w' ⟨e1, e2⟩ => ⟨by rw [HY.out]; exact e1, W, e2⟩)
        have D13 : Hid (∀ W : GrB w5, Calls Tryd.prog 13 #[.int .i64 p] W.v fun e w' => e = .returned (.string y) ∧ ∃ W' : GrB w5, w' = W'.v) := Lib.hid (fun W => (rname_at p W.v).mono fun e w' ⟨e1, e2⟩ => ⟨by rw [HY.out]; exact e1, W, e2⟩)
        have D6 : Hid (∀ W : GrB w5, Calls Tryd.prog 6 #[] W.v fun e w' => e = .returned (.bool true) ∧ ∃ W' : GrB w5, w' = W'.v) := Lib.hid (fun W => (alive_at W.v (H4.out.2.2.kept W.h)).mono fun e w' ⟨e1, e2⟩ => ⟨e1, ⟨w', W.h.trans (e2.mono W.h.size)⟩, rfl⟩)
        go_wp2_with fail
        refine region_grown (by kernel_rfl) (by kernel_rfl) ?_
        repeat (go_big_quiet_step (first | (go_at_call 11; exact D11.out _) | (go_at_call 12; exact D12.out _) | (go_at_call 13; exact D13.out _) | (go_at_call 6; exact D6.out _)))
        refine wpQuiet_nil ?_
        rintro w' ⟨⟨w9, hgl⟩, rfl⟩
        clear x0 x1 x2 x3
        go_wp2
        go_ret
        exact ⟨rfl, H4.out.2.1.trans (hgl.mono H4.out.2.1.size)⟩
      · obtain rfl : b = true := by rw [HB.out]; exact decide_eq_true hr0
        have hr1 : (r != 0) = true := by simpa using hr0
        go_wp2_with fail
        refine (C9.out _).mono ?_
        rintro e w4 ⟨rfl, hb4⟩
        rw [decide_eq_false HM.out]
        have z4 := H2.out.1.kept hb4 H2.out.1.lt
        have q4 := H2.out.2.1.trans (hb4.mono H2.out.2.1.size)
        have hE4 := H2.out.2.2.kept hb4
        have H4 := Lib.hid (And.intro z4 (And.intro q4 hE4))
        clear d0 d1 d2 d3 hb4 q4 hE4 H2
        obtain ⟨d0, d1, d2, d3⟩ := z4
        go_wp2_with fail
        refine (C10.out _).mono ?_
        rintro e w5 ⟨rfl, h5⟩
        subst h5
        clear d0 d1 d2 d3
        have x0 : ∀ W : GrB w5, W.v.cell? ⟨w.heap.size, 0, none⟩ = some (.int .i64 p) := fun W => by
          obtain ⟨e0, e1, e2, e3⟩ := H4.out.1.kept W.h H4.out.1.lt
          exact e0
        have x1 : ∀ W : GrB w5, W.v.cell? ⟨w.heap.size, 1, none⟩ = some (.int .i64 c) := fun W => by
          obtain ⟨e0, e1, e2, e3⟩ := H4.out.1.kept W.h H4.out.1.lt
          exact e1
        have x2 : ∀ W : GrB w5, W.v.cell? ⟨w.heap.size, 2, none⟩ = some (.int .i64 q) := fun W => by
          obtain ⟨e0, e1, e2, e3⟩ := H4.out.1.kept W.h H4.out.1.lt
          exact e2
        have x3 : ∀ W : GrB w5, W.v.cell? ⟨w.heap.size, 3, none⟩ = some (.int .i64 g) := fun W => by
          obtain ⟨e0, e1, e2, e3⟩ := H4.out.1.kept W.h H4.out.1.lt
          exact e3
        have D11 : Hid (∀ W : GrB w5, Calls Tryd.prog 11 #[.agg #[.int .i64 p, .int .i64 c, .int .i64 q, .int .i64 g]] W.v fun e w' => e = .returned (.int .i64 0) ∧ ∃ W' : GrB w5, w' = W'.v) := Lib.hid (fun W => (C11.out W.v).mono fun e w' ⟨e1, e2⟩ => ⟨by rw [← (show rm p c q g = 0 from if_neg HM.out)]; exact e1, ⟨w', W.h.trans (e2.mono W.h.size)⟩, rfl⟩)
        have D12 : Hid (∀ W : GrB w5, Calls Tryd.prog 12 #[.int .i64 p] W.v fun e w' => e = .returned (.string y) ∧ ∃ W' : GrB w5, w' = W'.v) := Lib.hid (fun W => (name_at p W.v).mono fun e w' ⟨e1, e2⟩ => ⟨by rw [HY.out]; exact e1, W, e2⟩)
        have D13 : Hid (∀ W : GrB w5, Calls Tryd.prog 13 #[.int .i64 p] W.v fun e w' => e = .returned (.string y) ∧ ∃ W' : GrB w5, w' = W'.v) := Lib.hid (fun W => (rname_at p W.v).mono fun e w' ⟨e1, e2⟩ => ⟨by rw [HY.out]; exact e1, W, e2⟩)
        have D6 : Hid (∀ W : GrB w5, Calls Tryd.prog 6 #[] W.v fun e w' => e = .returned (.bool true) ∧ ∃ W' : GrB w5, w' = W'.v) := Lib.hid (fun W => (alive_at W.v (H4.out.2.2.kept W.h)).mono fun e w' ⟨e1, e2⟩ => ⟨e1, ⟨w', W.h.trans (e2.mono W.h.size)⟩, rfl⟩)
        go_wp2_with fail
        refine region_grown (by kernel_rfl) (by kernel_rfl) ?_
        repeat (go_big_quiet_step (first | (go_at_call 11; exact D11.out _) | (go_at_call 12; exact D12.out _) | (go_at_call 13; exact D13.out _) | (go_at_call 6; exact D6.out _)))
        refine wpQuiet_nil ?_
        rintro w' ⟨⟨w9, hgl⟩, rfl⟩
        clear x0 x1 x2 x3
        go_wp2
        go_ret
        exact ⟨rfl, H4.out.2.1.trans (hgl.mono H4.out.2.1.size)⟩
theorem configChecks_law (p c q g : Int) (h : Is64 p ∧ Is64 c ∧ Is64 q ∧ Is64 g) (x : ByteArray) (w : World) (he : Env w) : Calls Tryd.prog 3 #[.agg #[.int .i64 p, .int .i64 c, .int .i64 q, .int .i64 g], .string x] w fun e w' => e = .returned (.bool true) ∧ Below w.heap.size w w' := checks_law p c q g x w he
end Go.Proofs.YtdchmpbmaeoeoaaDoor
