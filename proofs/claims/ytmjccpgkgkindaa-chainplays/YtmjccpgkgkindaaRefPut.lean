/-
  The document's Put, Insert and Remove.
-/
import Derived.Test.YtmjccpgkgkindaaWith
import Derived.Deep.RegionHeld3
namespace Go.Proofs.Ytmjccpgkgkindaa
open Go.ChangeShapes Go.WideShapes Go.ChangeAt Go.RowKit
set_option linter.unusedVariables false

/-- two new boxes of two cells -/
theorem alloc22 (w : World) (x y x' y' : Value) (t : TypeId) : w.grownBy ((w.alloc (.cells #[x, y] t)).alloc (.cells #[x', y'] t)) none ∧ ((w.alloc (.cells #[x, y] t)).alloc (.cells #[x', y'] t)).heap.size = w.heap.size + 2 ∧
    ((w.alloc (.cells #[x, y] t)).alloc (.cells #[x', y'] t)).heap[w.heap.size]? = some (.cells #[x, y] t (0, 0)) ∧ ((w.alloc (.cells #[x, y] t)).alloc (.cells #[x', y'] t)).heap[w.heap.size + 1]? = some (.cells #[x', y'] t (0, 0)) := by
  refine ⟨grown_trans (World.grownBy_alloc _ _ none) (World.grownBy_alloc _ _ none), by simp, (Below.heap_alloc _ _ _ (by simp)).trans (heap_alloc_new w _), ?_⟩
  have := heap_alloc_new (w.alloc (.cells #[x, y] t)) (.cells #[x', y'] t)
  rwa [World.size_alloc] at this
/-- a box of two cells, read whole -/
theorem cells2 {w : World} {B : Nat} {x y : Value} {t : TypeId} (h : w.heap[B]? = some (.cells #[x, y] t (0, 0))) : w.cell? ⟨B, 0, none⟩ = some x ∧ w.cell? ⟨B, 1, none⟩ = some y ∧ w.frozen? ⟨B, 0, none⟩ = false ∧ w.frozen? ⟨B, 1, none⟩ = false ∧ B < w.heap.size :=
  ⟨cell_of_head h 0, cell_of_head h 1, frozen_of_head h 0, frozen_of_head h 1, (Array.getElem?_eq_some_iff.1 h).1⟩
theorem kept2 {w w' : World} {B : Nat} {o : Obj} (h : w.heap[B]? = some o) (hg : w.grownBy w' none) : w'.heap[B]? = some o := (hg.block B (Array.getElem?_eq_some_iff.1 h).1 (by simp)).trans h
theorem fin2 {w : World} {B : Nat} {x y x' y' : Value} {t : TypeId} (h : w.heap[B]? = some (.cells #[x, y] t (0, 0))) : ((w.setCell ⟨B, 0, none⟩ x').setCell ⟨B, 1, none⟩ y').heap[B]? = some (.cells #[x', y'] t (0, 0)) := head_set (head_set h 0 x') 1 y'
theorem fin2g {w0 w : World} {B : Nat} {x' y' : Value} (hg : w0.grownBy w none) (hB : w0.heap.size ≤ B) : w0.grownBy ((w.setCell ⟨B, 0, none⟩ x').setCell ⟨B, 1, none⟩ y') none := grown_new (grown_new hg (grown_setCell _ _ _ _) hB) (grown_setCell _ _ _ _) hB
def SamePost (w : World) (v u : Value) (e : Ending) (w' : World) : Prop := e = .returned (.tuple #[v, u]) ∧ w.grownBy w' none
section
variable {w : World} {C : Ch} {b cap : Nat} {rows : Nat → Value}
set_option maxHeartbeats 1000000 in
theorem rput_er (h : RefAt w C b cap rows) (hM : C.ls.length ≤ 8) (hf : ∀ i, (C.of i).length ≤ 65536) (list n : Int) (bh : Bool) (hn : i32in n) (hc : ¬ C.enter list n = 0) :
    Calls Try.prog 31 #[refV C b cap, .int .i64 list, .int .i32 n, .bool bh] w (SamePost w (refV C b cap) (.int .i64 (C.enter list n))) := by
  unfold SamePost
  have hN : ∀ w', Calls Try.prog 45 #[refV C b cap, .int .i32 n] w' fun e w'' => e = .returned (.bool (inN C.N n)) ∧ w'.grownBy w'' none := fun w' => node_at C b cap n w' hn
  have hP : ∀ w', w.grownBy w' none → Calls Try.prog 34 #[refV C b cap, .int .i32 n] w' (PlPost w' C n) := fun w' hg => place_at (h.kept hg) hM hf n
  obtain ⟨hg0, hz0, b0, b1⟩ := alloc22 w (.int .i64 (C.N : Int)) (.slice (some ⟨b, 0, none⟩) C.ls.length cap) (.int .i64 0) (.slice none 0 0) 31
  obtain ⟨c00, c01, _, _, l0⟩ := cells2 b0
  obtain ⟨c10, c11, f10, f11, l1⟩ := cells2 b1
  unfold refV at hN hP ⊢
  have HG0 := Lib.hid hg0
  have HB0 := Lib.hid b0
  have HB1 := Lib.hid b1
  have HN := Lib.hid hN
  have HP := Lib.hid hP
  clear hg0 b0 b1 hN hP h
  obtain ⟨M, HM⟩ : ∃ M, Hid (C.ls.length = M) := ⟨_, Lib.hid rfl⟩
  have HC := Lib.hid hc
  have hent : Hid (C.enter list n = if (inN M list && inN C.N n) = false then 1 else if C.has n = true then 8 else 0) := Lib.hid (by unfold Ch.enter; rw [HM.out])
  clear hc hM hf
  rw [HM.out] at HG0 HB0 HB1 HN HP c00 c01 c10 c11 f10 f11 l0 l1 ⊢
  by_cases hl : inN M list = true
  · have hx : 0 ≤ list ∧ list < (M : Int) := by unfold inN at hl; simpa using hl
    have hd1 : decide (list < 0) = false := by simp; omega
    have hd2 : decide ((M : Int) ≤ list) = false := by simp; omega
    cases hi : inN C.N n with
    | false =>
      rw [hi] at HN
      have e : C.enter list n = 1 := by rw [hent.out, hl, hi]; rfl
      rw [e]
      clear e
      go_enter Try.func31, Try.ntmps31
      go_wp2_with fail
      generalize (w.alloc (.cells #[.int .i64 (C.N : Int), .slice (some ⟨b, 0, none⟩) M cap] 31)).alloc (.cells #[.int .i64 0, .slice none 0 0] 31) = w0 at *
      refine (HN.out w0).mono ?_
      rintro e w1 ⟨rfl, hg1⟩
      clear c00 c01 l0 c10 c11 f10 f11 l1
      have HB0a := Lib.hid (kept2 HB0.out hg1)
      have HB1a := Lib.hid (kept2 HB1.out hg1)
      have HG0a := Lib.hid (grown_trans HG0.out hg1)
      obtain ⟨c00, c01, _, _, l0⟩ := cells2 HB0a.out
      obtain ⟨c10, c11, f10, f11, l1⟩ := cells2 HB1a.out
      clear hg1
      have HBz := HB1a
      have HGz := HG0a
      go_wp2
      refine bodyPost_ret (results_ref2 rfl _ _ _ _ _ _ _ rfl (fin2 HBz.out)) rfl ?_
      exact ⟨rfl, fin2g HGz.out (by omega)⟩
    | true =>
      rw [hi] at HN
      have hh : C.has n = true := by
        cases hh : C.has n with
        | true => rfl
        | false => exact absurd (by rw [hent.out, hl, hi, hh]; rfl) HC.out
      have e : C.enter list n = 8 := by rw [hent.out, hl, hi, hh]; rfl
      rw [e]
      have Hh := Lib.hid hh
      clear e hh
      go_enter Try.func31, Try.ntmps31
      go_wp2_with fail
      generalize (w.alloc (.cells #[.int .i64 (C.N : Int), .slice (some ⟨b, 0, none⟩) M cap] 31)).alloc (.cells #[.int .i64 0, .slice none 0 0] 31) = w0 at *
      refine (HN.out w0).mono ?_
      rintro e w1 ⟨rfl, hg1⟩
      clear c00 c01 l0 c10 c11 f10 f11 l1
      have HB0a := Lib.hid (kept2 HB0.out hg1)
      have HB1a := Lib.hid (kept2 HB1.out hg1)
      have HG0a := Lib.hid (grown_trans HG0.out hg1)
      obtain ⟨c00, c01, _, _, l0⟩ := cells2 HB0a.out
      obtain ⟨c10, c11, f10, f11, l1⟩ := cells2 HB1a.out
      clear hg1
      go_wp2_with fail
      refine (HP.out w1 HG0a.out).mono ?_
      rintro e w2 ⟨hg2, (⟨rfl, hno⟩ | ⟨i, k, x, rfl, hnx, hix⟩)⟩
      · rw [Hh.out] at hno; cases hno
      clear c00 c01 l0 c10 c11 f10 f11 l1
      have HB0b := Lib.hid (kept2 HB0a.out hg2)
      have HB1b := Lib.hid (kept2 HB1a.out hg2)
      have HG0b := Lib.hid (grown_trans HG0a.out hg2)
      obtain ⟨c00, c01, _, _, l0⟩ := cells2 HB0b.out
      obtain ⟨c10, c11, f10, f11, l1⟩ := cells2 HB1b.out
      clear hg2
      have hd3 : decide (0 ≤ (i : Int)) = true := by simp
      have HBz := HB1b
      have HGz := HG0b
      go_wp2
      refine bodyPost_ret (results_ref2 rfl _ _ _ _ _ _ _ rfl (fin2 HBz.out)) rfl ?_
      exact ⟨rfl, fin2g HGz.out (by omega)⟩
  · have hl : inN M list = false := by simpa using hl
    have e : C.enter list n = 1 := by rw [hent.out, hl]; rfl
    rw [e]
    clear e
    unfold inN at hl
    simp only [decide_eq_false_iff_not] at hl
    by_cases h0 : list < 0
    · have hd1 : decide (list < 0) = true := by simp; omega
      go_enter Try.func31, Try.ntmps31
      go_wp2_with fail
      refine bodyPost_ret (results_ref2 rfl _ _ _ _ _ _ _ rfl (alloc22 w _ _ _ _ 31).2.2.2) rfl ?_
      exact ⟨rfl, (alloc22 w _ _ _ _ 31).1⟩
    · have hd1 : decide (list < 0) = false := by simp; omega
      have hd2 : decide ((M : Int) ≤ list) = true := by simp; omega
      go_enter Try.func31, Try.ntmps31
      go_wp2_with fail
      refine bodyPost_ret (results_ref2 rfl _ _ _ _ _ _ _ rfl (alloc22 w _ _ _ _ 31).2.2.2) rfl ?_
      exact ⟨rfl, (alloc22 w _ _ _ _ 31).1⟩
def PutPost (w : World) (C : Ch) (u : Value) (e : Ending) (w' : World) : Prop := ∃ b cap rows, e = .returned (.tuple #[refV C b cap, u]) ∧ RefAt w' C b cap rows ∧ w.grownBy w' none
set_option maxHeartbeats 2000000 in
theorem rput_ok (h : RefAt w C b cap rows) (hM : C.ls.length ≤ 8) (hf : ∀ i, (C.of i).length ≤ 65536) (hN6 : C.N ≤ 65536) {i x : Nat} (hi : i < C.ls.length) (hx : x < C.N) (hfr : C.free x) (bh : Bool) :
    Calls Try.prog 31 #[refV C b cap, .int .i64 (i : Int), .int .i32 (x : Int), .bool bh] w (PutPost w (C.put i (if bh then C.of i ++ [x] else x :: C.of i)) (.int .i64 0)) := by
  unfold PutPost
  have hno : C.has (x : Int) = false := Ch.has_free.2 hfr
  have hN : ∀ w', Calls Try.prog 45 #[refV C b cap, .int .i32 (x : Int)] w' fun e w'' => e = .returned (.bool true) ∧ w'.grownBy w'' none := fun w' => by
    have := node_at C b cap (x : Int) w' (by constructor <;> omega)
    rw [inN_nat hx] at this
    exact this
  have hP : ∀ w', w.grownBy w' none → Calls Try.prog 34 #[refV C b cap, .int .i32 (x : Int)] w' fun e w'' => e = .returned (.tuple #[.int .i64 (-1), .int .i64 (-1)]) ∧ w'.grownBy w'' none := fun w' hg => by
    refine (place_at (h.kept hg) hM hf (x : Int)).mono ?_
    rintro e w'' ⟨hg', (⟨rfl, _⟩ | ⟨j, k, y, rfl, hny, hjy⟩)⟩
    · exact ⟨rfl, hg'⟩
    · have : y = x := by omega
      subst this
      exact absurd (List.mem_of_getElem? hjy) (hfr j)
  obtain ⟨AL, cL, hrow, _⟩ := h.sl hi
  have HCell : Hid (∀ w', w.grownBy w' none → w'.cell? ⟨b, i, none⟩ = some (.slice AL (C.of i).length cL)) := Lib.hid fun w' hg => by rw [← hrow]; exact hg.cell (h.cell i hi) (by simp)
  have HRow : Hid (∀ w', w.grownBy w' none → NRow w' (.slice AL (C.of i).length cL) (C.of i)) := Lib.hid fun w' hg => by rw [← hrow]; exact (h.row i hi).kept hg
  have hJ : ∀ w', w.grownBy w' none → ∀ v u xs ys, NRow w' v xs → NRow w' u ys → xs.length + ys.length ≤ 70000 → Calls Try.prog 18 #[v, u] w' fun e w'' => ∃ A' c', e = .returned (.slice A' (xs ++ ys).length c') ∧ Hid (NRow w'' (.slice A' (xs ++ ys).length c') (xs ++ ys)) ∧ Hid (w'.grownBy w'' none) := fun w' hg v u xs ys hv hu hl => by
    refine (joined_at v u xs ys w' hv hu (by omega)).mono ?_
    rintro e w'' ⟨r, rfl, ho, hg'⟩
    obtain ⟨A', c', rfl⟩ := owns_slice ho
    exact ⟨A', c', rfl, Lib.hid (NRow.of_owns ho rfl), Lib.hid hg'⟩
  have hWi : ∀ w', w.grownBy w' none → ∀ A' len' c' l', NRow w' (.slice A' len' c') l' → Calls Try.prog 46 #[refV C b cap, .int .i64 (i : Int), .slice A' len' c'] w' fun e w'' => ∃ b' cap' rows', e = .returned (refV (C.put i l') b' cap') ∧ RefAt w'' (C.put i l') b' cap' rows' ∧ w'.grownBy w'' none := fun w' hg A' len' c' l' hl => with_at (h.kept hg) hM hi hl
  obtain ⟨hg0, hz0, b0, b1⟩ := alloc22 w (.int .i64 (C.N : Int)) (.slice (some ⟨b, 0, none⟩) C.ls.length cap) (.int .i64 0) (.slice none 0 0) 31
  obtain ⟨c00, c01, _, _, l0⟩ := cells2 b0
  obtain ⟨c10, c11, f10, f11, l1⟩ := cells2 b1
  unfold refV at hN hP hWi ⊢
  have HG0 := Lib.hid hg0
  have HB0 := Lib.hid b0
  have HB1 := Lib.hid b1
  have HN := Lib.hid hN
  have HP := Lib.hid hP
  have HJ := Lib.hid hJ
  have HWi := Lib.hid hWi
  have hlenI := hf i
  clear hg0 b0 b1 hN hP h hJ hWi hrow hno
  obtain ⟨M, HM⟩ : ∃ M, Hid (C.ls.length = M) := ⟨_, Lib.hid rfl⟩
  simp only [Ch.len_put] at HWi ⊢
  rw [HM.out] at HG0 HB0 HB1 HN HP HWi hM hi c00 c01 c10 c11 f10 f11 l0 l1 ⊢
  have hd1 : decide ((i : Int) < 0) = false := by simp
  have hd2 : decide ((M : Int) ≤ (i : Int)) = false := by simp; omega
  have hd2' : decide (M ≤ i) = false := by simp; omega
  have hiI : (i : Int) < (M : Int) := by omega
  obtain ⟨L, HL⟩ : ∃ L, Hid ((C.of i).length = L) := ⟨_, Lib.hid rfl⟩
  rw [HL.out] at HCell HRow hlenI
  cases bh with
  | true =>
    go_enter Try.func31, Try.ntmps31
    go_wp2_with fail
    generalize (w.alloc (.cells #[.int .i64 (C.N : Int), .slice (some ⟨b, 0, none⟩) M cap] 31)).alloc (.cells #[.int .i64 0, .slice none 0 0] 31) = w0 at *
    refine (HN.out w0).mono ?_
    rintro e w1 ⟨rfl, hg1⟩
    clear c00 c01 l0 c10 c11 f10 f11 l1
    have HB0a := Lib.hid (kept2 HB0.out hg1)
    have HB1a := Lib.hid (kept2 HB1.out hg1)
    have HG0a := Lib.hid (grown_trans HG0.out hg1)
    obtain ⟨c00, c01, _, _, l0⟩ := cells2 HB0a.out
    clear hg1
    go_wp2_with fail
    refine (HP.out w1 HG0a.out).mono ?_
    rintro e w2 ⟨rfl, hg2⟩
    clear c00 c01 l0
    have HB0b := Lib.hid (kept2 HB0a.out hg2)
    have HB1b := Lib.hid (kept2 HB1a.out hg2)
    have HG0b := Lib.hid (grown_trans HG0a.out hg2)
    obtain ⟨c00, c01, _, _, l0⟩ := cells2 HB0b.out
    clear hg2 HB0 HB1 HG0 HB0a HB1a HG0a
    have hcell := HCell.out w2 HG0b.out
    go_wp2_with fail
    have HX : Hid (NRow (w2.drew.alloc (.cells #[.int .i32 (x : Int)] 21)) (.slice (some ⟨w2.heap.size, 0, none⟩) 1 1) [x]) := Lib.hid (lit_row (xs := [x]) (heap_alloc_new w2.drew _) (show 1 ≤ maxLen by decide))
    have HGx : Hid (w.grownBy (w2.drew.alloc (.cells #[.int .i32 (x : Int)] 21)) none) := Lib.hid (grown_trans HG0b.out (grown_trans (grown_drewN w2 1 none) (World.grownBy_alloc _ _ none)))
    have HB0x := Lib.hid (kept2 HB0b.out (grown_trans (grown_drewN w2 1 none) (World.grownBy_alloc w2.drew (.cells #[.int .i32 (x : Int)] 21) none)))
    have HB1x := Lib.hid (kept2 HB1b.out (grown_trans (grown_drewN w2 1 none) (World.grownBy_alloc w2.drew (.cells #[.int .i32 (x : Int)] 21) none)))
    obtain ⟨m, Hm⟩ : ∃ m, Hid ((C.of i ++ [x]).length = m) := ⟨_, Lib.hid rfl⟩
    have hJ2 := HJ.out _ HGx.out _ _ _ _ (HRow.out _ HGx.out) HX.out (by rw [HL.out]; simp; omega)
    rw [Hm.out] at hJ2
    have HJ2 := Lib.hid hJ2
    obtain ⟨cx0, cx1, _, _, _⟩ := cells2 HB0x.out
    clear hJ2 hcell
    go_region_held3 (fun w' => w'.cell? ⟨w.heap.size, 0, none⟩ = some (.int .i64 (C.N : Int)) ∧ w'.cell? ⟨w.heap.size, 1, none⟩ = some (.slice (some ⟨b, 0, none⟩) M cap)) (first | exact ⟨c00, c01⟩ | exact ⟨cx0, cx1⟩ | exact ⟨hj0, hj1⟩ | exact ⟨hk0, hk1⟩ | go_keep)
      (first | (go_at_call 18; refine HJ2.out.mono ?_; rintro e wj ⟨Aj, cj, rfl, HNj, HGj⟩; obtain ⟨hj0, hj1, _, _, _⟩ := cells2 (kept2 HB0x.out HGj.out)) | (go_at_call 46; refine (HWi.out wj (grown_trans HGx.out HGj.out) _ _ _ _ HNj.out).mono ?_; rintro e wk ⟨b', cap', rows', rfl, hRk, hGk⟩; obtain ⟨hk0, hk1, _, _, _⟩ := cells2 (kept2 (kept2 HB0x.out HGj.out) hGk); obtain ⟨c10, c11, f10, f11, l1⟩ := cells2 (kept2 (kept2 HB1x.out HGj.out) hGk); have HRk := Lib.hid hRk; have HGk := Lib.hid hGk; clear hRk hGk))
    go_wp2
    refine bodyPost_ret (results_ref2 rfl _ _ _ _ _ _ _ rfl (fin2 (kept2 (kept2 HB1x.out HGj.out) HGk.out))) rfl ?_
    have hG := fin2g (x' := .int .i64 (C.N : Int)) (y' := .slice (some ⟨b', 0, none⟩) M cap') (grown_trans (grown_trans HGx.out HGj.out) HGk.out) (show w.heap.size ≤ w.heap.size + 1 by omega)
    have hB1k := kept2 (kept2 HB1x.out HGj.out) HGk.out
    refine ⟨b', cap', rfl, ⟨rows', HRk.out.stay fun k cur t ht hk => ?_⟩, hG⟩
    have hne : k ≠ w.heap.size + 1 := by
      rintro rfl
      have := type_eq hk hB1k
      rcases ht with rfl | rfl <;> cases this
    exact (heap_setCell_other _ _ _ _ hne).trans (heap_setCell_other _ _ _ _ hne)
  | false =>
    go_enter Try.func31, Try.ntmps31
    go_wp2_with fail
    generalize (w.alloc (.cells #[.int .i64 (C.N : Int), .slice (some ⟨b, 0, none⟩) M cap] 31)).alloc (.cells #[.int .i64 0, .slice none 0 0] 31) = w0 at *
    refine (HN.out w0).mono ?_
    rintro e w1 ⟨rfl, hg1⟩
    clear c00 c01 l0 c10 c11 f10 f11 l1
    have HB0a := Lib.hid (kept2 HB0.out hg1)
    have HB1a := Lib.hid (kept2 HB1.out hg1)
    have HG0a := Lib.hid (grown_trans HG0.out hg1)
    obtain ⟨c00, c01, _, _, l0⟩ := cells2 HB0a.out
    clear hg1
    go_wp2_with fail
    refine (HP.out w1 HG0a.out).mono ?_
    rintro e w2 ⟨rfl, hg2⟩
    clear c00 c01 l0
    have HB0b := Lib.hid (kept2 HB0a.out hg2)
    have HB1b := Lib.hid (kept2 HB1a.out hg2)
    have HG0b := Lib.hid (grown_trans HG0a.out hg2)
    obtain ⟨c00, c01, _, _, l0⟩ := cells2 HB0b.out
    clear hg2 HB0 HB1 HG0 HB0a HB1a HG0a
    have hcell := HCell.out w2 HG0b.out
    go_wp2_with fail
    have HX : Hid (NRow (w2.drew.alloc (.cells #[.int .i32 (x : Int)] 21)) (.slice (some ⟨w2.heap.size, 0, none⟩) 1 1) [x]) := Lib.hid (lit_row (xs := [x]) (heap_alloc_new w2.drew _) (show 1 ≤ maxLen by decide))
    have HGx : Hid (w.grownBy (w2.drew.alloc (.cells #[.int .i32 (x : Int)] 21)) none) := Lib.hid (grown_trans HG0b.out (grown_trans (grown_drewN w2 1 none) (World.grownBy_alloc _ _ none)))
    have HB0x := Lib.hid (kept2 HB0b.out (grown_trans (grown_drewN w2 1 none) (World.grownBy_alloc w2.drew (.cells #[.int .i32 (x : Int)] 21) none)))
    have HB1x := Lib.hid (kept2 HB1b.out (grown_trans (grown_drewN w2 1 none) (World.grownBy_alloc w2.drew (.cells #[.int .i32 (x : Int)] 21) none)))
    obtain ⟨m, Hm⟩ : ∃ m, Hid (([x] ++ C.of i).length = m) := ⟨_, Lib.hid rfl⟩
    have hJ2 := HJ.out _ HGx.out _ _ _ _ HX.out (HRow.out _ HGx.out) (by rw [HL.out]; simp; omega)
    rw [Hm.out] at hJ2
    have HJ2 := Lib.hid hJ2
    obtain ⟨cx0, cx1, _, _, _⟩ := cells2 HB0x.out
    clear hJ2 hcell
    go_region_held3 (fun w' => w'.cell? ⟨w.heap.size, 0, none⟩ = some (.int .i64 (C.N : Int)) ∧ w'.cell? ⟨w.heap.size, 1, none⟩ = some (.slice (some ⟨b, 0, none⟩) M cap)) (first | exact ⟨c00, c01⟩ | exact ⟨cx0, cx1⟩ | exact ⟨hj0, hj1⟩ | exact ⟨hk0, hk1⟩ | go_keep)
      (first | (go_at_call 18; refine HJ2.out.mono ?_; rintro e wj ⟨Aj, cj, rfl, HNj, HGj⟩; obtain ⟨hj0, hj1, _, _, _⟩ := cells2 (kept2 HB0x.out HGj.out)) | (go_at_call 46; refine (HWi.out wj (grown_trans HGx.out HGj.out) _ _ _ _ HNj.out).mono ?_; rintro e wk ⟨b', cap', rows', rfl, hRk, hGk⟩; obtain ⟨hk0, hk1, _, _, _⟩ := cells2 (kept2 (kept2 HB0x.out HGj.out) hGk); obtain ⟨c10, c11, f10, f11, l1⟩ := cells2 (kept2 (kept2 HB1x.out HGj.out) hGk); have HRk := Lib.hid hRk; have HGk := Lib.hid hGk; clear hRk hGk))
    go_wp2
    refine bodyPost_ret (results_ref2 rfl _ _ _ _ _ _ _ rfl (fin2 (kept2 (kept2 HB1x.out HGj.out) HGk.out))) rfl ?_
    have hG := fin2g (x' := .int .i64 (C.N : Int)) (y' := .slice (some ⟨b', 0, none⟩) M cap') (grown_trans (grown_trans HGx.out HGj.out) HGk.out) (show w.heap.size ≤ w.heap.size + 1 by omega)
    have hB1k := kept2 (kept2 HB1x.out HGj.out) HGk.out
    refine ⟨b', cap', rfl, ⟨rows', HRk.out.stay fun k cur t ht hk => ?_⟩, hG⟩
    have hne : k ≠ w.heap.size + 1 := by
      rintro rfl
      have := type_eq hk hB1k
      rcases ht with rfl | rfl <;> cases this
    exact (heap_setCell_other _ _ _ _ hne).trans (heap_setCell_other _ _ _ _ hne)
end
end Go.Proofs.Ytmjccpgkgkindaa
