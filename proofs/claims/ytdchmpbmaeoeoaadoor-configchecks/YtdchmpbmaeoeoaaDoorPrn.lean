/-
  A config's text: the program's Print, the document's Print.
-/
import Derived.Test.YtdchmpbmaeoeoaaDoorPol
import Derived.Test.YtdchmpbmaeoeoaaDoorTailQ
import Derived.Test.YtdchmpbmaeoeoaaDoorDGen
import Derived.Test.YtdchmpbmaeoeoaaDoorDInt
import Derived.Test.YtdchmpbmaeoeoaaDoorDRefI
import Derived.Test.YtdchmpbmaeoeoaaDoorDJoin
namespace Go.Proofs.YtdchmpbmaeoeoaaDoor
open Go.Shelf Go.RowKit Go.Sort
open Go.Lib hiding intOf
set_option linter.unusedVariables false
/-- a config's words -/
def cw (p c q g : Int) : List (List UInt8) := [nm p, itoa c, itoa q, itoa g]
def tx (p c q g : Int) : List UInt8 := join (cw p c q g) [32]
theorem nm_len (p : Int) : (nm p).length ≤ 20 := by
  unfold nm; repeat' split
  all_goals simp
theorem itoa_len (i : Int) (h : Is64 i) : (itoa i).length ≤ 21 := by
  obtain ⟨h1, h2⟩ := h
  by_cases h0 : 0 ≤ i
  · obtain ⟨u, rfl⟩ : ∃ u : Nat, i = u := ⟨i.toNat, by omega⟩
    rw [itoa_nonneg, Lib.decDigits_length]
    have := Lib.nDigits_le20 u (by omega)
    omega
  · obtain ⟨u, rfl⟩ : ∃ u : Nat, i = -(u : Int) := ⟨i.natAbs, by omega⟩
    rw [itoa_neg u (by omega)]
    have := Lib.nDigits_le20 u (by omega)
    simp [Lib.decDigits_length]
    omega
theorem tx_flat (p c q g : Int) : tx p c q g = nm p ++ [32] ++ itoa c ++ [32] ++ itoa q ++ [32] ++ itoa g := by
  simp [tx, cw, join_cons, joinTail]
theorem tx_len (p c q g : Int) (hc : Is64 c) (hq : Is64 q) (hg : Is64 g) : (tx p c q g).length ≤ 100 := by
  rw [tx_flat]
  have := nm_len p
  have := itoa_len c hc
  have := itoa_len q hq
  have := itoa_len g hg
  simp only [List.length_append, List.length_singleton]
  omega
set_option maxHeartbeats 1000000 in
set_option maxRecDepth 100000 in
theorem rprn_at (p c q g : Int) (hc : Is64 c) (hq : Is64 q) (hg : Is64 g) (w : World) : Calls Tryd.prog 17 #[.agg #[.int .i64 p, .int .i64 c, .int .i64 q, .int .i64 g]] w fun e w' => e = .returned (.string (mkS (tx p c q g))) ∧ Below w.heap.size w w' := by
  have hR := at4_alloc w p c q g
  have q1 := alloc_below w (.cells #[.int .i64 p, .int .i64 c, .int .i64 q, .int .i64 g] 24)
  have hs1 : (w.alloc (.cells #[.int .i64 p, .int .i64 c, .int .i64 q, .int .i64 g] 24)).heap.size = w.heap.size + 1 := by simp
  obtain ⟨w1, hw1⟩ : ∃ w1, w1 = w.alloc (.cells #[.int .i64 p, .int .i64 c, .int .i64 q, .int .i64 g] 24) := ⟨_, rfl⟩
  rw [← hw1] at hR q1 hs1
  obtain ⟨x0, h0⟩ : ∃ x, x = ns p := ⟨_, rfl⟩
  obtain ⟨x1, h1⟩ : ∃ x, x = istr c := ⟨_, rfl⟩
  obtain ⟨x2, h2⟩ : ∃ x, x = istr q := ⟨_, rfl⟩
  obtain ⟨x3, h3⟩ : ∃ x, x = istr g := ⟨_, rfl⟩
  have hT : mkS (tx p c q g) = x0 ++ ⟨#[32]⟩ ++ x1 ++ ⟨#[32]⟩ ++ x2 ++ ⟨#[32]⟩ ++ x3 := by
    rw [h0, h1, h2, h3, show (⟨#[32]⟩ : ByteArray) = mkS [32] from rfl, show ns p = mkS (nm p) from rfl, show istr c = mkS (itoa c) from rfl, show istr q = mkS (itoa q) from rfl, show istr g = mkS (itoa g) from rfl, str_join, str_join, str_join, str_join, str_join, str_join, tx_flat]
  have z0 : x0.size ≤ 30 := by rw [h0, show ns p = mkS (nm p) from rfl, mkS_size]; have := nm_len p; omega
  have z1 : x1.size ≤ 30 := by rw [h1, show istr c = mkS (itoa c) from rfl, mkS_size]; have := itoa_len c hc; omega
  have z2 : x2.size ≤ 30 := by rw [h2, show istr q = mkS (itoa q) from rfl, mkS_size]; have := itoa_len q hq; omega
  have z3 : x3.size ≤ 30 := by rw [h3, show istr g = mkS (itoa g) from rfl, mkS_size]; have := itoa_len g hg; omega
  have C13 : Hid (∀ W : GrB w1, Calls Tryd.prog 13 #[.int .i64 p] W.v fun e w' => e = .returned (.string x0) ∧ ∃ W' : GrB w1, w' = W'.v) := Lib.hid (fun W => (rname_at p W.v).mono fun e w' ⟨e1, e2⟩ => ⟨by rw [h0]; exact e1, W, e2⟩)
  have C26c : Hid (∀ W : GrB w1, Calls Tryd.prog 26 #[.int .i64 c] W.v fun e w' => e = .returned (.string x1) ∧ ∃ W' : GrB w1, w' = W'.v) := Lib.hid (fun W => (rint_at c hc W.v).mono fun e w' ⟨e1, e2⟩ => ⟨by rw [h1]; exact e1, ⟨w', W.h.trans (e2.mono W.h.size)⟩, rfl⟩)
  have C26q : Hid (∀ W : GrB w1, Calls Tryd.prog 26 #[.int .i64 q] W.v fun e w' => e = .returned (.string x2) ∧ ∃ W' : GrB w1, w' = W'.v) := Lib.hid (fun W => (rint_at q hq W.v).mono fun e w' ⟨e1, e2⟩ => ⟨by rw [h2]; exact e1, ⟨w', W.h.trans (e2.mono W.h.size)⟩, rfl⟩)
  have C26g : Hid (∀ W : GrB w1, Calls Tryd.prog 26 #[.int .i64 g] W.v fun e w' => e = .returned (.string x3) ∧ ∃ W' : GrB w1, w' = W'.v) := Lib.hid (fun W => (rint_at g hg W.v).mono fun e w' ⟨e1, e2⟩ => ⟨by rw [h3]; exact e1, ⟨w', W.h.trans (e2.mono W.h.size)⟩, rfl⟩)
  obtain ⟨d0, d1, d2, d3⟩ := hR
  have y0 : ∀ W : GrB w1, W.v.cell? ⟨w.heap.size, 0, none⟩ = some (.int .i64 p) := fun W => by rw [W.h.cell (by exact Lib.lt_of_cell d0)]; exact d0
  have y1 : ∀ W : GrB w1, W.v.cell? ⟨w.heap.size, 1, none⟩ = some (.int .i64 c) := fun W => by rw [W.h.cell (by exact Lib.lt_of_cell d1)]; exact d1
  have y2 : ∀ W : GrB w1, W.v.cell? ⟨w.heap.size, 2, none⟩ = some (.int .i64 q) := fun W => by rw [W.h.cell (by exact Lib.lt_of_cell d2)]; exact d2
  have y3 : ∀ W : GrB w1, W.v.cell? ⟨w.heap.size, 3, none⟩ = some (.int .i64 g) := fun W => by rw [W.h.cell (by exact Lib.lt_of_cell d3)]; exact d3
  have HW := Lib.hid hw1
  have HQ := Lib.hid q1
  have HT := Lib.hid hT
  clear h0 h1 h2 h3 hT d0 d1 d2 d3 hw1 q1 hs1 hc hq hg
  go_enter Tryd.func17, Tryd.ntmps17
  go_wp2_with fail
  rw [← HW.out]
  refine region_grown (by kernel_rfl) (by kernel_rfl) ?_
  repeat (go_big_quiet_step (first | (go_at_call 13; exact C13.out _) | (go_at_call 26; first | with_reducible exact C26c.out _ | with_reducible exact C26q.out _ | with_reducible exact C26g.out _)))
  refine wpQuiet_nil ?_
  rintro w' ⟨⟨w9, hgl⟩, rfl⟩
  clear y0 y1 y2 y3
  go_wp2
  go_ret
  exact ⟨by rw [HT.out]; rfl, HQ.out.trans (hgl.mono HQ.out.size)⟩
/-- what Print tells -/
def pt (p c q g : Int) : ByteArray := if Mb p c q g then mkS (tx p c q g) else ⟨#[]⟩
set_option maxHeartbeats 1000000 in
set_option maxRecDepth 100000 in
theorem prn_at (p c q g : Int) (hc : Is64 c) (hq : Is64 q) (hg : Is64 g) (w : World) (he : EnvT w) : Calls Tryd.prog 16 #[.agg #[.int .i64 p, .int .i64 c, .int .i64 q, .int .i64 g]] w fun e w' => e = .returned (.tuple #[.string (pt p c q g), .int .i64 (ck p c q g)]) ∧ Below w.heap.size w w' := by
  have hR := at4_alloc w p c q g
  have q1 := alloc_below w (.cells #[.int .i64 p, .int .i64 c, .int .i64 q, .int .i64 g] 24)
  obtain ⟨w1, hw1⟩ : ∃ w1, w1 = w.alloc (.cells #[.int .i64 p, .int .i64 c, .int .i64 q, .int .i64 g] 24) := ⟨_, rfl⟩
  rw [← hw1] at hR q1
  have hE1 := he.kept q1
  have HW := Lib.hid hw1
  have H1 := Lib.hid (And.intro hR (And.intro q1 hE1))
  by_cases hm : Mb p c q g
  · rw [pt, if_pos hm]
    have c7 := fun W => check_at p c q g W
    rw [ck_ok hm] at c7 ⊢
    obtain ⟨T, hT⟩ : ∃ T, T = mkS (tx p c q g) := ⟨_, rfl⟩
    rw [← hT]
    obtain ⟨x0, h0⟩ : ∃ x, x = ns p := ⟨_, rfl⟩
    obtain ⟨x1, h1⟩ : ∃ x, x = istr c := ⟨_, rfl⟩
    obtain ⟨x2, h2⟩ : ∃ x, x = istr q := ⟨_, rfl⟩
    obtain ⟨x3, h3⟩ : ∃ x, x = istr g := ⟨_, rfl⟩
    have J24 : Hid (∀ V, Calls Tryd.prog 24 #[.slice (some ⟨V.heap.size, 0, none⟩) 4 4] (V.alloc (.cells #[.string x0, .string x1, .string x2, .string x3] 9)) fun e w' => e = .returned (.string T) ∧ Below V.heap.size V w') := Lib.hid (fun V => by
      have hS : SRow (V.alloc (.cells #[.string x0, .string x1, .string x2, .string x3] 9)) (some ⟨V.heap.size, 0, none⟩) (cw p c q g) := by
        have := alloc_srow V (cw p c q g)
        rw [h0, h1, h2, h3]
        exact this
      refine (join_at (cw p c q g) _ 4 4 rfl (by omega) (by have := tx_len p c q g hc hq hg; unfold tx at this; omega) (by omega) _ hS T hT).mono fun e w' ⟨e1, e2⟩ => ⟨e1, ?_⟩
      exact (alloc_below V _).trans (e2.mono (alloc_below V _).size))
    clear hw1 hR q1 hE1 hm hT he
    go_enter Tryd.func16, Tryd.ntmps16
    go_wp2_with fail
    rw [← HW.out]
    refine (c7 _).mono ?_
    rintro e w2 ⟨rfl, hb2⟩
    have hR2 := H1.out.1.kept hb2 H1.out.1.lt
    have q2 := H1.out.2.1.trans (hb2.mono H1.out.2.1.size)
    have hE2 := H1.out.2.2.kept hb2
    have HQ := Lib.hid (And.intro q2 hE2)
    obtain ⟨d0, d1, d2, d3⟩ := hR2
    have y0 : ∀ W : GrB w2, W.v.cell? ⟨w.heap.size, 0, none⟩ = some (.int .i64 p) := fun W => by rw [W.h.cell (by exact Lib.lt_of_cell d0)]; exact d0
    have y1 : ∀ W : GrB w2, W.v.cell? ⟨w.heap.size, 1, none⟩ = some (.int .i64 c) := fun W => by rw [W.h.cell (by exact Lib.lt_of_cell d1)]; exact d1
    have y2 : ∀ W : GrB w2, W.v.cell? ⟨w.heap.size, 2, none⟩ = some (.int .i64 q) := fun W => by rw [W.h.cell (by exact Lib.lt_of_cell d2)]; exact d2
    have y3 : ∀ W : GrB w2, W.v.cell? ⟨w.heap.size, 3, none⟩ = some (.int .i64 g) := fun W => by rw [W.h.cell (by exact Lib.lt_of_cell d3)]; exact d3
    have C12 : Hid (∀ W : GrB w2, Calls Tryd.prog 12 #[.int .i64 p] W.v fun e w' => e = .returned (.string x0) ∧ ∃ W' : GrB w2, w' = W'.v) := Lib.hid (fun W => (name_at p W.v).mono fun e w' ⟨e1, e2⟩ => ⟨by rw [h0]; exact e1, W, e2⟩)
    have C25c : Hid (∀ W : GrB w2, Calls Tryd.prog 25 #[.int .i64 c] W.v fun e w' => e = .returned (.string x1) ∧ ∃ W' : GrB w2, w' = W'.v) := Lib.hid (fun W => (int_at c hc W.v (HQ.out.2.kept W.h)).mono fun e w' ⟨e1, e2⟩ => ⟨by rw [h1]; exact e1, ⟨w', W.h.trans (e2.mono W.h.size)⟩, rfl⟩)
    have C25q : Hid (∀ W : GrB w2, Calls Tryd.prog 25 #[.int .i64 q] W.v fun e w' => e = .returned (.string x2) ∧ ∃ W' : GrB w2, w' = W'.v) := Lib.hid (fun W => (int_at q hq W.v (HQ.out.2.kept W.h)).mono fun e w' ⟨e1, e2⟩ => ⟨by rw [h2]; exact e1, ⟨w', W.h.trans (e2.mono W.h.size)⟩, rfl⟩)
    have C25g : Hid (∀ W : GrB w2, Calls Tryd.prog 25 #[.int .i64 g] W.v fun e w' => e = .returned (.string x3) ∧ ∃ W' : GrB w2, w' = W'.v) := Lib.hid (fun W => (int_at g hg W.v (HQ.out.2.kept W.h)).mono fun e w' ⟨e1, e2⟩ => ⟨by rw [h3]; exact e1, ⟨w', W.h.trans (e2.mono W.h.size)⟩, rfl⟩)
    clear h0 h1 h2 h3 d0 d1 d2 d3 hb2 q2 hE2 H1 HW hc hq hg c7
    go_wp2_with fail
    refine region_quiet_tail (C := fun w' => ∃ W : GrB w2, w' = W.v) 12 (by kernel_rfl) (by kernel_rfl) ⟨⟨w2.drewN 1, below_drew (Below.refl _ _) 1⟩, rfl⟩ ?_
    simp only [List.take, List.drop]
    repeat (go_big_quiet_step (first | (go_at_call 12; exact C12.out _) | (go_at_call 25; first | with_reducible exact C25c.out _ | with_reducible exact C25q.out _ | with_reducible exact C25g.out _)))
    refine wpQuiet_nil ?_
    rintro w' ⟨⟨w9, hgl⟩, rfl⟩
    clear y0 y1 y2 y3
    go_wp2_with fail
    refine (J24.out _).mono ?_
    rintro e w3 ⟨rfl, hb3⟩
    go_wp2
    go_ret2
    exact ⟨rfl, HQ.out.1.trans ((hgl.trans (hb3.mono hgl.size)).mono HQ.out.1.size)⟩
  · rw [pt, if_neg hm]
    have c7 := fun W => check_at p c q g W
    rw [ck_no hm] at c7 ⊢
    clear hw1 hR q1 hE1 hm hc hq hg he
    go_enter Tryd.func16, Tryd.ntmps16
    go_wp2_with fail
    rw [← HW.out]
    refine (c7 _).mono ?_
    rintro e w2 ⟨rfl, hb2⟩
    have q2 := H1.out.2.1.trans (hb2.mono H1.out.2.1.size)
    have HQ := Lib.hid q2
    clear hb2 q2 H1 HW c7
    go_wp2
    go_ret2
    exact ⟨rfl, HQ.out⟩
end Go.Proofs.YtdchmpbmaeoeoaaDoor
