/-
  The library's sort: which place is the pivot.
-/
import Derived.Test.YtnhjnciadmgkeaaDoorSIns
namespace Go.Proofs.YtnhjnciadmgkeaaDoor
open Go.ChangeShapes Go.WideShapes Go.ChangeAt Go.RowKit
set_option linter.unusedVariables false

/-- a count of exchanges -/
def CntAt (w : World) (s c : Nat) : Prop := w.heap[s]? = some (.cells #[.int .i64 (c : Int)] 3 (0, 0))
/-- nothing turns but the count -/
structure CP (w : World) (g n s : Nat) (d : Nat → Int) (c : Nat) (w' : World) (c' : Nat) : Prop where
  at_ : DAt w' g n d
  cnt : CntAt w' s c'
  le : c' ≤ c
  but : But (fun k => k = s) w w'
section
variable {w w' : World} {g n cap s c : Nat} {d : Nat → Int}
theorem CntAt.cell (h : CntAt w s c) : w.cell? ⟨s, 0, none⟩ = some (.int .i64 (c : Int)) := by rw [cell_of_head h]; rfl
theorem CntAt.free (h : CntAt w s c) : w.frozen? ⟨s, 0, none⟩ = false := frozen_of_head h 0
theorem CntAt.drewN (h : CntAt w s c) (q : Nat) : CntAt (w.drewN q) s c := h
theorem CntAt.ne (h : CntAt w s c) (hd : DAt w g n d) : g ≠ s := by
  obtain ⟨cur, h1, _⟩ := hd
  intro e
  rw [e] at h1
  exact absurd (type_eq h1 h) (by decide)
theorem CP.of (hd : DAt w g n d) (hc : CntAt w s c) (c' : Nat) (hl : c' ≤ c + 1) (q : Nat) : CP w g n s d (c + 1) ((w.drewN q).setCell ⟨s, 0, none⟩ (.int .i64 (c' : Int))) c' :=
  ⟨(hd.kept (grown_drewN w q none)).stay (heap_setCell_other _ _ _ _ (hc.ne hd)), by
    unfold CntAt
    have h1 : (w.drewN q).heap[s]? = some (.cells #[.int .i64 (c : Int)] 3 (0, 0)) := hc
    rw [head_set h1]; rfl, hl, (But.of_new (grown_drewN w q none)).trans (But.of_set (X := fun k => k = s) _ s 0 _ rfl)⟩
theorem CP.trans {w1 w2 : World} {c0 c1 c2 k1 k2 : Nat} (h : CP w g n s d k1 w1 c1) (k : CP w1 g n s d k2 w2 c2) (hk : k2 ≤ k1 + 1) : CP w g n s d (k1 + 1) w2 c2 :=
  ⟨k.at_, k.cnt, by have := k.le; omega, h.but.trans k.but⟩
set_option maxHeartbeats 1000000 in
theorem ord_at (hd : DAt w g n d) (hc : CntAt w s c) (x y : Nat) (hx : x < n) (hy : y < n) (hn : n ≤ 1000000) (hcb : c ≤ 1000) :
    Calls Tryd.prog 56 #[.slice (some ⟨g, 0, none⟩) n cap, .int .i64 (x : Int), .int .i64 (y : Int), .pointer (some ⟨s, 0, none⟩)] w fun r w' => ∃ u v : Nat, r = .returned (.tuple #[.int .i64 (u : Int), .int .i64 (v : Int)]) ∧ ((u = x ∧ v = y) ∨ (u = y ∧ v = x)) ∧ ∃ c', CP w g n s d (c + 1) w' c' := by
  have ixx := ix34 g x n cap hx
  have ixy := ix34 g y n cap hy
  have cx := hd.cell hx
  have cy := hd.cell hy
  have cs := hc.cell
  have fs := hc.free
  have H1 : Hid (∀ q, CP w g n s d (c + 1) ((w.drewN q).setCell ⟨s, 0, none⟩ (.int .i64 ((c + 1 : Nat) : Int))) (c + 1)) := Lib.hid fun q => CP.of hd hc (c + 1) (Nat.le_refl _) q
  have H2 : Hid (∀ q, CP w g n s d (c + 1) (w.drewN q) c) := Lib.hid fun q => ⟨hd.kept (grown_drewN w q none), hc, by omega, But.of_new (grown_drewN w q none)⟩
  clear hd hc
  by_cases hl : d y < d x
  · have hlb : decide (d y < d x) = true := by simpa using hl
    go_enter Tryd.func56, Tryd.ntmps56
    go_wp2_with fail
    go_quiet ((go_at_call 40; exact quiet_same (less_any _ _ _)))
    go_wp2
    go_ret2
    exact ⟨y, x, rfl, .inr ⟨rfl, rfl⟩, c + 1, H1.out nq⟩
  · have hlb : decide (d y < d x) = false := by simpa using hl
    go_enter Tryd.func56, Tryd.ntmps56
    go_wp2_with fail
    go_quiet ((go_at_call 40; exact quiet_same (less_any _ _ _)))
    go_wp2
    go_ret2
    exact ⟨x, y, rfl, .inl ⟨rfl, rfl⟩, c, H2.out nq⟩
set_option maxHeartbeats 1000000 in
theorem med_at (hd : DAt w g n d) (hc : CntAt w s c) (x y z : Nat) (hx : x < n) (hy : y < n) (hz : z < n) (hn : n ≤ 1000000) (hcb : c ≤ 900) :
    Calls Tryd.prog 51 #[.slice (some ⟨g, 0, none⟩) n cap, .int .i64 (x : Int), .int .i64 (y : Int), .int .i64 (z : Int), .pointer (some ⟨s, 0, none⟩)] w fun r w' => ∃ u : Nat, r = .returned (.int .i64 (u : Int)) ∧ (u = x ∨ u = y ∨ u = z) ∧ ∃ c', CP w g n s d (c + 3) w' c' := by
  have H1 := Lib.hid (ord_at (cap := cap) hd hc x y hx hy hn (by omega))
  clear hd hc
  go_enter Tryd.func51, Tryd.ntmps51
  go_wp2_with fail
  refine H1.out.mono ?_
  rintro r w1 ⟨x1, y1, rfl, hxy, c1, hp1⟩
  have HP1 := Lib.hid hp1
  have HX1 := Lib.hid hxy
  have hc1 := hp1.le
  have hy1 : y1 < n := by omega
  have hx1 : x1 < n := by omega
  have H2 := Lib.hid (ord_at (cap := cap) hp1.at_ hp1.cnt y1 z hy1 hz hn (by omega))
  clear hp1 hxy H1
  go_wp2_with fail
  refine H2.out.mono ?_
  rintro r w2 ⟨y2, z2, rfl, hyz, c2, hp2⟩
  have HP2 := Lib.hid hp2
  have HX2 := Lib.hid hyz
  have hc2 := hp2.le
  have hy2 : y2 < n := by omega
  have H3 := Lib.hid (ord_at (cap := cap) hp2.at_ hp2.cnt x1 y2 hx1 hy2 hn (by omega))
  clear hp2 hyz H2
  go_wp2_with fail
  refine H3.out.mono ?_
  rintro r w3 ⟨x3, y3, rfl, hxy3, c3, hp3⟩
  have HP3 := Lib.hid hp3
  have HX3 := Lib.hid hxy3
  have hc3 := hp3.le
  clear hp3 hxy3 H3
  go_wp2
  go_ret
  refine ⟨y3, rfl, ?_, c3, ⟨HP3.out.at_, HP3.out.cnt, by omega, (HP1.out.but.trans HP2.out.but).trans HP3.out.but⟩⟩
  have a1 := HX1.out
  have a2 := HX2.out
  have a3 := HX3.out
  omega
set_option maxHeartbeats 1000000 in
theorem adj_at (hd : DAt w g n d) (hc : CntAt w s c) (x : Nat) (hx0 : 1 ≤ x) (hx : x + 1 < n) (hn : n ≤ 1000000) (hcb : c ≤ 900) :
    Calls Tryd.prog 50 #[.slice (some ⟨g, 0, none⟩) n cap, .int .i64 (x : Int), .pointer (some ⟨s, 0, none⟩)] w fun r w' => ∃ u : Nat, r = .returned (.int .i64 (u : Int)) ∧ (x ≤ u + 1 ∧ u ≤ x + 1) ∧ ∃ c', CP w g n s d (c + 3) w' c' := by
  obtain ⟨x0, hx0'⟩ : ∃ x0, x = x0 + 1 := ⟨x - 1, by omega⟩
  obtain ⟨x2, hx2⟩ : ∃ x2, x2 = x + 1 := ⟨_, rfl⟩
  have H1 := Lib.hid (med_at (cap := cap) hd hc x0 x x2 (by omega) (by omega) (by omega) hn hcb)
  have e1 : (x : Int) - 1 = (x0 : Int) := by omega
  have e2 : (x : Int) + 1 = (x2 : Int) := by omega
  have HX := Lib.hid (⟨hx0', hx2⟩ : x = x0 + 1 ∧ x2 = x + 1)
  clear hd hc hx0' hx2
  go_enter Tryd.func50, Tryd.ntmps50
  go_wp2_with fail
  refine H1.out.mono ?_
  rintro r w1 ⟨u, rfl, hu, c1, hp1⟩
  have HP1 := Lib.hid hp1
  have HU := Lib.hid hu
  clear hp1 hu
  go_wp2
  go_ret
  have a1 := HX.out
  have a2 := HU.out
  exact ⟨u, rfl, ⟨by omega, by omega⟩, c1, HP1.out⟩
end
end Go.Proofs.YtnhjnciadmgkeaaDoor
