/-
  The law's step: an act on both tells the same, and leaves the same lists.
-/
import Derived.Test.YtmjccpgkgkindaaRefIns
namespace Go.Proofs.Ytmjccpgkgkindaa
open Go.ChangeShapes Go.WideShapes Go.ChangeAt Go.RowKit
set_option linter.unusedVariables false
set_option maxRecDepth 100000

theorem cells4 {w : World} {B : Nat} {x y z u : Value} {t : TypeId} (h : w.heap[B]? = some (.cells #[x, y, z, u] t (0, 0))) : w.cell? ⟨B, 0, none⟩ = some x ∧ w.cell? ⟨B, 1, none⟩ = some y ∧ w.cell? ⟨B, 2, none⟩ = some z ∧ w.cell? ⟨B, 3, none⟩ = some u :=
  ⟨cell_of_head h 0, cell_of_head h 1, cell_of_head h 2, cell_of_head h 3⟩
theorem kp2 {w w' : World} {B gL gN : Nat} {o : Obj} (h : w.heap[B]? = some o) (hk : Kp gL gN w w') (h1 : B ≠ gL) (h2 : B ≠ gN) : w'.heap[B]? = some o := (hk.block B (Array.getElem?_eq_some_iff.1 h).1 ⟨h1, h2⟩).trans h
def actV (kind list n a : Int) : Value := .agg #[.int .i64 kind, .int .i64 list, .int .i32 n, .int .i32 a]
def StepPost (w : World) (lo b gL gN : Nat) (C : Ch) (e : Ending) (w' : World) : Prop :=
  ∃ C' rb' rcap' rows', e = .returned (.tuple #[refV C' rb' rcap', .bool true]) ∧ IsCh w' lo b gL gN C' ∧ RefAt w' C' rb' rcap' rows' ∧ Kp gL gN w w' ∧ (∀ i, (C'.of i).length ≤ (C.of i).length + 1) ∧ C'.ls.length = C.ls.length
/-- a reference stays where another block is stored -/
theorem RefAt.set2 {w : World} {C : Ch} {b cap B : Nat} {rows : Nat → Value} {x y x' y' : Value} (h : RefAt w C b cap rows) (hB : w.heap[B]? = some (.cells #[x, y] 31 (0, 0))) : RefAt ((w.setCell ⟨B, 0, none⟩ x').setCell ⟨B, 1, none⟩ y') C b cap rows := by
  refine h.stay fun k cur t ht hk => ?_
  have hne : k ≠ B := by
    rintro rfl
    have := type_eq hk hB
    rcases ht with rfl | rfl <;> cases this
  exact (heap_setCell_other _ _ _ _ hne).trans (heap_setCell_other _ _ _ _ hne)
theorem IsCh.set2 {w : World} {C : Ch} {lo b gL gN B : Nat} {x y x' y' : Value} (h : IsCh w lo b gL gN C) (hB : w.heap[B]? = some (.cells #[x, y] 31 (0, 0))) : IsCh ((w.setCell ⟨B, 0, none⟩ x').setCell ⟨B, 1, none⟩ y') lo b gL gN C := by
  refine h.stay fun k hk hkk => ?_
  obtain ⟨⟨c1, t1⟩, ⟨c2, t2⟩, c3, t3⟩ := h.types
  have hne : k ≠ B := by
    rintro rfl
    rcases hkk with rfl | rfl | rfl
    · exact absurd (type_eq t1 hB) (by decide)
    · exact absurd (type_eq t2 hB) (by decide)
    · exact absurd (type_eq t3 hB) (by decide)
  exact (heap_setCell_other _ _ _ _ hne).trans (heap_setCell_other _ _ _ _ hne)
theorem Kp.set2 {w0 w : World} {gL gN B : Nat} {x' y' : Value} (h : Kp gL gN w0 w) (hB : w0.heap.size ≤ B) : Kp gL gN w0 ((w.setCell ⟨B, 0, none⟩ x').setCell ⟨B, 1, none⟩ y') :=
  ⟨h.os, h.tape, h.output, by simpa using h.size, fun k hk hh => ((heap_setCell_other _ _ _ _ (by simp only; omega)).trans (heap_setCell_other _ _ _ _ (by simp only; omega))).trans (h.block k hk hh)⟩
theorem len_put_le {C : Ch} {i : Nat} {l : List Nat} (hi : i < C.ls.length) (hl : l.length ≤ (C.of i).length + 1) (j : Nat) : ((C.put i l).of j).length ≤ (C.of j).length + 1 := by
  rw [Ch.of_put hi]
  by_cases h : j = i
  · subst h; rw [if_pos rfl]; exact hl
  · rw [if_neg h]; omega
section
variable {w : World} {C : Ch} {lo b gL gN rb rcap : Nat} {rows : Nat → Value}
set_option maxHeartbeats 4000000 in
theorem step0_er (hc : IsCh w lo b gL gN C) (hr : RefAt w C rb rcap rows) (list n a : Int) (hn : i32in n) (he : ¬ C.enter list n = 0) :
    Calls Try.prog 11 #[.pointer (some ⟨b, 0, none⟩), refV C rb rcap, actV 0 list n a] w (StepPost w lo b gL gN C) := by
  have hM := hc.m8
  have hf := hc.few
  have hN6 := hc.n6
  have hlt := hc.lts
  obtain ⟨hg0, hz0, b0, b1, b2⟩ := alloc3 w (.cells #[.int .i64 (C.N : Int), .slice (some ⟨rb, 0, none⟩) C.ls.length rcap] 31) (.cells #[.int .i64 0, .int .i64 list, .int .i32 n, .int .i32 a] 34) (.cells #[.int .i64 0, .slice none 0 0] 31)
  have HRV : Hid (refV C rb rcap = .agg #[.int .i64 (C.N : Int), .slice (some ⟨rb, 0, none⟩) C.ls.length rcap]) := Lib.hid rfl
  rw [HRV.out]
  unfold actV
  have HC := Lib.hid hc
  have HR := Lib.hid hr
  have HG0 := Lib.hid hg0
  have HB0 := Lib.hid b0
  have HB1 := Lib.hid b1
  have HB2 := Lib.hid b2
  have HMl := Lib.hid hM
  have HF := Lib.hid hf
  clear hc hr hg0 b0 b1 b2 hM hf
  obtain ⟨M, HM⟩ : ∃ M, Hid (C.ls.length = M) := ⟨_, Lib.hid rfl⟩
  rw [HM.out] at HG0 HB0 HB1 HB2 HRV hz0 ⊢
  obtain ⟨c00, c01, _, _, l0⟩ := cells2 HB0.out
  obtain ⟨c10, c11, c12, c13⟩ := cells4 HB1.out
  go_enter Try.func11, Try.ntmps11
  go_wp2_with fail
  have HR0 := Lib.hid (HR.out.kept HG0.out)
  have HC0 := Lib.hid (HC.out.kept HG0.out)
  generalize ((w.alloc (.cells #[.int .i64 (C.N : Int), .slice (some ⟨rb, 0, none⟩) M rcap] 31)).alloc (.cells #[.int .i64 0, .int .i64 list, .int .i32 n, .int .i32 a] 34)).alloc (.cells #[.int .i64 0, .slice none 0 0] 31) = w0 at *
  have hp : Calls Try.prog 31 #[.agg #[.int .i64 (C.N : Int), .slice (some ⟨rb, 0, none⟩) M rcap], .int .i64 list, .int .i32 n, .bool false] w0 (SamePost w0 (refV C rb rcap) (.int .i64 (C.enter list n))) := by
    have := rput_er HR0.out HMl.out HF.out list n false hn he
    rw [HRV.out] at this ⊢
    exact this
  obtain ⟨cd, Hcd⟩ : ∃ cd, Hid (C.enter list n = cd) := ⟨_, Lib.hid rfl⟩
  rw [Hcd.out] at hp
  refine hp.mono ?_
  rw [HRV.out]
  rintro e w1 ⟨rfl, hg1⟩
  clear hp
  have HR1 := Lib.hid (HR0.out.kept hg1)
  obtain ⟨rb2, hrb2⟩ : ∃ rb2, rb2 = rb := ⟨_, rfl⟩
  obtain ⟨rcap2, hrc2⟩ : ∃ r2, r2 = rcap := ⟨_, rfl⟩
  have HG1 := Lib.hid (grown_trans HG0.out hg1)
  have HB1a := Lib.hid (kept2 HB1.out hg1)
  have HB2a := Lib.hid (kept2 HB2.out hg1)
  have HC1 := Lib.hid (HC0.out.kept hg1)
  have hl1 : w.heap.size + 3 ≤ w1.heap.size := by have := hg1.size; omega
  clear c00 c01 l0 c10 c11 c12 c13 hg1 HB0 HB1 HB2 HG0 HC0
  obtain ⟨c10, c11, c12, c13⟩ := cells4 HB1a.out
  obtain ⟨c20, c21, f20, f21, l2⟩ := cells2 HB2a.out
  rw [← hrb2, ← hrc2] at HR1 ⊢
  clear HR0
  have HG2 : Hid (w.grownBy (w1.alloc (.cells #[.int .i64 (C.N : Int), .slice (some ⟨rb2, 0, none⟩) M rcap2] 31)) none) := Lib.hid (grown_trans HG1.out (World.grownBy_alloc _ _ none))
  have HB1b := Lib.hid (kept2 HB1a.out (World.grownBy_alloc w1 (.cells #[.int .i64 (C.N : Int), .slice (some ⟨rb2, 0, none⟩) M rcap2] 31) none))
  have HB2b := Lib.hid (kept2 HB2a.out (World.grownBy_alloc w1 (.cells #[.int .i64 (C.N : Int), .slice (some ⟨rb2, 0, none⟩) M rcap2] 31) none))
  have HB3b := Lib.hid (heap_alloc_new w1 (.cells #[.int .i64 (C.N : Int), .slice (some ⟨rb2, 0, none⟩) M rcap2] 31))
  have HC2 := Lib.hid (HC1.out.kept (World.grownBy_alloc w1 (.cells #[.int .i64 (C.N : Int), .slice (some ⟨rb2, 0, none⟩) M rcap2] 31) none))
  have HR2 := Lib.hid (HR1.out.kept (World.grownBy_alloc w1 (.cells #[.int .i64 (C.N : Int), .slice (some ⟨rb2, 0, none⟩) M rcap2] 31) none))
  obtain ⟨B3, HB3e⟩ : ∃ B3, Hid (w1.heap.size = B3) := ⟨_, Lib.hid rfl⟩
  rw [HB3e.out] at HB3b hl1
  clear c10 c11 c12 c13 c20 c21 f20 f21 l2 HG1 HB1a HB2a HC1 HR1
  have hcc : (cd == cd) = true := by simp
  clear hrb2 hrc2
  obtain ⟨c10, c11, c12, c13⟩ := cells4 HB1b.out
  have hch : ∀ w', Hid (IsCh w' lo b gL gN C) → Calls Try.prog 19 #[.pointer (some ⟨b, 0, none⟩), .int .i64 list, .int .i32 n] w' fun e w'' => e = .returned (.int .i64 cd) ∧ IsCh w'' lo b gL gN C ∧ Kp gL gN w' w'' := fun w' h => by
    have := ahead_er h.out (list := list) (n := n) hn he
    rw [Hcd.out] at this
    refine this.mono ?_
    rintro e w'' ⟨rfl, rfl⟩
    exact ⟨rfl, h.out, Stay.refl _ _⟩
  have Hch := Lib.hid hch
  clear hch
  go_wp2_with fail
  rw [HB3e.out]
  generalize w1.alloc (.cells #[.int .i64 (C.N : Int), .slice (some ⟨rb2, 0, none⟩) M rcap2] 31) = w2 at *
  refine (Hch.out w2 HC2).mono ?_
  rintro e w3 ⟨rfl, hch, hk⟩
  have HB1c := Lib.hid (kp2 HB1b.out hk (by omega) (by omega))
  have HB2c := Lib.hid (kp2 HB2b.out hk (by omega) (by omega))
  have HB3c := Lib.hid (kp2 HB3b.out hk (by omega) (by omega))
  have HCH3 := Lib.hid hch
  have HK3 := Lib.hid ((Kp.of_new HG2.out).trans hk)
  have HR3 := Lib.hid (HR2.out.kp hk HC2.out.types.2.1 HC2.out.types.2.2)
  obtain ⟨c20, c21, f20, f21, l2⟩ := cells2 HB2c.out
  obtain ⟨c30, c31, _, _, l3⟩ := cells2 HB3c.out
  clear hch hk HB1b HB2b HB3b HC2 HR2 HG2
  go_wp2
  refine bodyPost_ret (results_ref2 rfl _ _ _ _ _ _ _ rfl (fin2 HB2c.out)) rfl ?_
  exact ⟨_, rb2, rcap2, _, by unfold refV; first | (rw [Ch.len_put, HM.out]; rfl) | (rw [HM.out]; rfl), HCH3.out.set2 HB2c.out, HR3.out.set2 HB2c.out, Kp.set2 HK3.out (by omega), fun _ => Nat.le_succ _, by first | exact Ch.len_put _ _ _ | rfl⟩
set_option maxHeartbeats 4000000 in
theorem step0_ok (hc : IsCh w lo b gL gN C) (hr : RefAt w C rb rcap rows) (i x : Nat) (a : Int) (hi : i < C.ls.length) (hx : x < C.N) (hfr : C.free x) :
    Calls Try.prog 11 #[.pointer (some ⟨b, 0, none⟩), refV C rb rcap, actV 0 (i : Int) (x : Int) a] w (StepPost w lo b gL gN C) := by
  have hM := hc.m8
  have hf := hc.few
  have hN6 := hc.n6
  have hlt := hc.lts
  obtain ⟨hg0, hz0, b0, b1, b2⟩ := alloc3 w (.cells #[.int .i64 (C.N : Int), .slice (some ⟨rb, 0, none⟩) C.ls.length rcap] 31) (.cells #[.int .i64 0, .int .i64 (i : Int), .int .i32 (x : Int), .int .i32 a] 34) (.cells #[.int .i64 0, .slice none 0 0] 31)
  have HRV : Hid (refV C rb rcap = .agg #[.int .i64 (C.N : Int), .slice (some ⟨rb, 0, none⟩) C.ls.length rcap]) := Lib.hid rfl
  rw [HRV.out]
  unfold actV
  have HC := Lib.hid hc
  have HR := Lib.hid hr
  have HG0 := Lib.hid hg0
  have HB0 := Lib.hid b0
  have HB1 := Lib.hid b1
  have HB2 := Lib.hid b2
  have HMl := Lib.hid hM
  have HF := Lib.hid hf
  clear hc hr hg0 b0 b1 b2 hM hf
  obtain ⟨M, HM⟩ : ∃ M, Hid (C.ls.length = M) := ⟨_, Lib.hid rfl⟩
  rw [HM.out] at HG0 HB0 HB1 HB2 HRV hz0 ⊢
  obtain ⟨c00, c01, _, _, l0⟩ := cells2 HB0.out
  obtain ⟨c10, c11, c12, c13⟩ := cells4 HB1.out
  go_enter Try.func11, Try.ntmps11
  go_wp2_with fail
  have HR0 := Lib.hid (HR.out.kept HG0.out)
  have HC0 := Lib.hid (HC.out.kept HG0.out)
  generalize ((w.alloc (.cells #[.int .i64 (C.N : Int), .slice (some ⟨rb, 0, none⟩) M rcap] 31)).alloc (.cells #[.int .i64 0, .int .i64 (i : Int), .int .i32 (x : Int), .int .i32 a] 34)).alloc (.cells #[.int .i64 0, .slice none 0 0] 31) = w0 at *
  have hp : Calls Try.prog 31 #[.agg #[.int .i64 (C.N : Int), .slice (some ⟨rb, 0, none⟩) M rcap], .int .i64 (i : Int), .int .i32 (x : Int), .bool false] w0 (PutPost w0 (C.put i (x :: C.of i)) (.int .i64 0)) := by
    have := rput_ok HR0.out HMl.out HF.out hN6 hi hx hfr false
    rw [HRV.out] at this
    exact this
  refine hp.mono ?_
  rintro e w1 ⟨rb2, rcap2, rows2, rfl, hR1, hg1⟩
  have HR1 := Lib.hid hR1
  clear hp hR1
  unfold refV
  rw [Ch.len_put, HM.out, show (C.put i (x :: C.of i)).N = C.N from rfl]
  have HG1 := Lib.hid (grown_trans HG0.out hg1)
  have HB1a := Lib.hid (kept2 HB1.out hg1)
  have HB2a := Lib.hid (kept2 HB2.out hg1)
  have HC1 := Lib.hid (HC0.out.kept hg1)
  have hl1 : w.heap.size + 3 ≤ w1.heap.size := by have := hg1.size; omega
  clear c00 c01 l0 c10 c11 c12 c13 hg1 HB0 HB1 HB2 HG0 HC0 HR0
  obtain ⟨c10, c11, c12, c13⟩ := cells4 HB1a.out
  obtain ⟨c20, c21, f20, f21, l2⟩ := cells2 HB2a.out
  have HG2 : Hid (w.grownBy (w1.alloc (.cells #[.int .i64 (C.N : Int), .slice (some ⟨rb2, 0, none⟩) M rcap2] 31)) none) := Lib.hid (grown_trans HG1.out (World.grownBy_alloc _ _ none))
  have HB1b := Lib.hid (kept2 HB1a.out (World.grownBy_alloc w1 (.cells #[.int .i64 (C.N : Int), .slice (some ⟨rb2, 0, none⟩) M rcap2] 31) none))
  have HB2b := Lib.hid (kept2 HB2a.out (World.grownBy_alloc w1 (.cells #[.int .i64 (C.N : Int), .slice (some ⟨rb2, 0, none⟩) M rcap2] 31) none))
  have HB3b := Lib.hid (heap_alloc_new w1 (.cells #[.int .i64 (C.N : Int), .slice (some ⟨rb2, 0, none⟩) M rcap2] 31))
  have HC2 := Lib.hid (HC1.out.kept (World.grownBy_alloc w1 (.cells #[.int .i64 (C.N : Int), .slice (some ⟨rb2, 0, none⟩) M rcap2] 31) none))
  have HR2 := Lib.hid (HR1.out.kept (World.grownBy_alloc w1 (.cells #[.int .i64 (C.N : Int), .slice (some ⟨rb2, 0, none⟩) M rcap2] 31) none))
  obtain ⟨B3, HB3e⟩ : ∃ B3, Hid (w1.heap.size = B3) := ⟨_, Lib.hid rfl⟩
  rw [HB3e.out] at HB3b hl1
  clear c10 c11 c12 c13 c20 c21 f20 f21 l2 HG1 HB1a HB2a HC1 HR1
  obtain ⟨c10, c11, c12, c13⟩ := cells4 HB1b.out
  go_wp2_with fail
  rw [HB3e.out]
  generalize w1.alloc (.cells #[.int .i64 (C.N : Int), .slice (some ⟨rb2, 0, none⟩) M rcap2] 31) = w2 at *
  refine (ahead_is HC2.out (i := i) (x := x) hi hx hfr).mono ?_
  rintro e w3 ⟨rfl, hch, hk⟩
  have HB1c := Lib.hid (kp2 HB1b.out hk (by omega) (by omega))
  have HB2c := Lib.hid (kp2 HB2b.out hk (by omega) (by omega))
  have HB3c := Lib.hid (kp2 HB3b.out hk (by omega) (by omega))
  have HCH3 := Lib.hid hch
  have HK3 := Lib.hid ((Kp.of_new HG2.out).trans hk)
  have HR3 := Lib.hid (HR2.out.kp hk HC2.out.types.2.1 HC2.out.types.2.2)
  obtain ⟨c20, c21, f20, f21, l2⟩ := cells2 HB2c.out
  obtain ⟨c30, c31, _, _, l3⟩ := cells2 HB3c.out
  clear hch hk HB1b HB2b HB3b HC2 HR2 HG2
  go_wp2
  refine bodyPost_ret (results_ref2 rfl _ _ _ _ _ _ _ rfl (fin2 HB2c.out)) rfl ?_
  exact ⟨_, rb2, rcap2, _, by unfold refV; first | (rw [Ch.len_put, HM.out]; rfl) | (rw [HM.out]; rfl), HCH3.out.set2 HB2c.out, HR3.out.set2 HB2c.out, Kp.set2 HK3.out (by omega), len_put_le hi (by simp), by first | exact Ch.len_put _ _ _ | rfl⟩
set_option maxHeartbeats 4000000 in
theorem step1_er (hc : IsCh w lo b gL gN C) (hr : RefAt w C rb rcap rows) (list n a : Int) (hn : i32in n) (he : ¬ C.enter list n = 0) :
    Calls Try.prog 11 #[.pointer (some ⟨b, 0, none⟩), refV C rb rcap, actV 1 list n a] w (StepPost w lo b gL gN C) := by
  have hM := hc.m8
  have hf := hc.few
  have hN6 := hc.n6
  have hlt := hc.lts
  obtain ⟨hg0, hz0, b0, b1, b2⟩ := alloc3 w (.cells #[.int .i64 (C.N : Int), .slice (some ⟨rb, 0, none⟩) C.ls.length rcap] 31) (.cells #[.int .i64 1, .int .i64 list, .int .i32 n, .int .i32 a] 34) (.cells #[.int .i64 0, .slice none 0 0] 31)
  have HRV : Hid (refV C rb rcap = .agg #[.int .i64 (C.N : Int), .slice (some ⟨rb, 0, none⟩) C.ls.length rcap]) := Lib.hid rfl
  rw [HRV.out]
  unfold actV
  have HC := Lib.hid hc
  have HR := Lib.hid hr
  have HG0 := Lib.hid hg0
  have HB0 := Lib.hid b0
  have HB1 := Lib.hid b1
  have HB2 := Lib.hid b2
  have HMl := Lib.hid hM
  have HF := Lib.hid hf
  clear hc hr hg0 b0 b1 b2 hM hf
  obtain ⟨M, HM⟩ : ∃ M, Hid (C.ls.length = M) := ⟨_, Lib.hid rfl⟩
  rw [HM.out] at HG0 HB0 HB1 HB2 HRV hz0 ⊢
  obtain ⟨c00, c01, _, _, l0⟩ := cells2 HB0.out
  obtain ⟨c10, c11, c12, c13⟩ := cells4 HB1.out
  go_enter Try.func11, Try.ntmps11
  go_wp2_with fail
  have HR0 := Lib.hid (HR.out.kept HG0.out)
  have HC0 := Lib.hid (HC.out.kept HG0.out)
  generalize ((w.alloc (.cells #[.int .i64 (C.N : Int), .slice (some ⟨rb, 0, none⟩) M rcap] 31)).alloc (.cells #[.int .i64 1, .int .i64 list, .int .i32 n, .int .i32 a] 34)).alloc (.cells #[.int .i64 0, .slice none 0 0] 31) = w0 at *
  have hp : Calls Try.prog 31 #[.agg #[.int .i64 (C.N : Int), .slice (some ⟨rb, 0, none⟩) M rcap], .int .i64 list, .int .i32 n, .bool true] w0 (SamePost w0 (refV C rb rcap) (.int .i64 (C.enter list n))) := by
    have := rput_er HR0.out HMl.out HF.out list n true hn he
    rw [HRV.out] at this ⊢
    exact this
  obtain ⟨cd, Hcd⟩ : ∃ cd, Hid (C.enter list n = cd) := ⟨_, Lib.hid rfl⟩
  rw [Hcd.out] at hp
  refine hp.mono ?_
  rw [HRV.out]
  rintro e w1 ⟨rfl, hg1⟩
  clear hp
  have HR1 := Lib.hid (HR0.out.kept hg1)
  obtain ⟨rb2, hrb2⟩ : ∃ rb2, rb2 = rb := ⟨_, rfl⟩
  obtain ⟨rcap2, hrc2⟩ : ∃ r2, r2 = rcap := ⟨_, rfl⟩
  have HG1 := Lib.hid (grown_trans HG0.out hg1)
  have HB1a := Lib.hid (kept2 HB1.out hg1)
  have HB2a := Lib.hid (kept2 HB2.out hg1)
  have HC1 := Lib.hid (HC0.out.kept hg1)
  have hl1 : w.heap.size + 3 ≤ w1.heap.size := by have := hg1.size; omega
  clear c00 c01 l0 c10 c11 c12 c13 hg1 HB0 HB1 HB2 HG0 HC0
  obtain ⟨c10, c11, c12, c13⟩ := cells4 HB1a.out
  obtain ⟨c20, c21, f20, f21, l2⟩ := cells2 HB2a.out
  rw [← hrb2, ← hrc2] at HR1 ⊢
  clear HR0
  have HG2 : Hid (w.grownBy (w1.alloc (.cells #[.int .i64 (C.N : Int), .slice (some ⟨rb2, 0, none⟩) M rcap2] 31)) none) := Lib.hid (grown_trans HG1.out (World.grownBy_alloc _ _ none))
  have HB1b := Lib.hid (kept2 HB1a.out (World.grownBy_alloc w1 (.cells #[.int .i64 (C.N : Int), .slice (some ⟨rb2, 0, none⟩) M rcap2] 31) none))
  have HB2b := Lib.hid (kept2 HB2a.out (World.grownBy_alloc w1 (.cells #[.int .i64 (C.N : Int), .slice (some ⟨rb2, 0, none⟩) M rcap2] 31) none))
  have HB3b := Lib.hid (heap_alloc_new w1 (.cells #[.int .i64 (C.N : Int), .slice (some ⟨rb2, 0, none⟩) M rcap2] 31))
  have HC2 := Lib.hid (HC1.out.kept (World.grownBy_alloc w1 (.cells #[.int .i64 (C.N : Int), .slice (some ⟨rb2, 0, none⟩) M rcap2] 31) none))
  have HR2 := Lib.hid (HR1.out.kept (World.grownBy_alloc w1 (.cells #[.int .i64 (C.N : Int), .slice (some ⟨rb2, 0, none⟩) M rcap2] 31) none))
  obtain ⟨B3, HB3e⟩ : ∃ B3, Hid (w1.heap.size = B3) := ⟨_, Lib.hid rfl⟩
  rw [HB3e.out] at HB3b hl1
  clear c10 c11 c12 c13 c20 c21 f20 f21 l2 HG1 HB1a HB2a HC1 HR1
  have hcc : (cd == cd) = true := by simp
  clear hrb2 hrc2
  obtain ⟨c10, c11, c12, c13⟩ := cells4 HB1b.out
  have hch : ∀ w', Hid (IsCh w' lo b gL gN C) → Calls Try.prog 14 #[.pointer (some ⟨b, 0, none⟩), .int .i64 list, .int .i32 n] w' fun e w'' => e = .returned (.int .i64 cd) ∧ IsCh w'' lo b gL gN C ∧ Kp gL gN w' w'' := fun w' h => by
    have := behind_er h.out (list := list) (n := n) hn he
    rw [Hcd.out] at this
    refine this.mono ?_
    rintro e w'' ⟨rfl, rfl⟩
    exact ⟨rfl, h.out, Stay.refl _ _⟩
  have Hch := Lib.hid hch
  clear hch
  go_wp2_with fail
  rw [HB3e.out]
  generalize w1.alloc (.cells #[.int .i64 (C.N : Int), .slice (some ⟨rb2, 0, none⟩) M rcap2] 31) = w2 at *
  refine (Hch.out w2 HC2).mono ?_
  rintro e w3 ⟨rfl, hch, hk⟩
  have HB1c := Lib.hid (kp2 HB1b.out hk (by omega) (by omega))
  have HB2c := Lib.hid (kp2 HB2b.out hk (by omega) (by omega))
  have HB3c := Lib.hid (kp2 HB3b.out hk (by omega) (by omega))
  have HCH3 := Lib.hid hch
  have HK3 := Lib.hid ((Kp.of_new HG2.out).trans hk)
  have HR3 := Lib.hid (HR2.out.kp hk HC2.out.types.2.1 HC2.out.types.2.2)
  obtain ⟨c20, c21, f20, f21, l2⟩ := cells2 HB2c.out
  obtain ⟨c30, c31, _, _, l3⟩ := cells2 HB3c.out
  clear hch hk HB1b HB2b HB3b HC2 HR2 HG2
  go_wp2
  refine bodyPost_ret (results_ref2 rfl _ _ _ _ _ _ _ rfl (fin2 HB2c.out)) rfl ?_
  exact ⟨_, rb2, rcap2, _, by unfold refV; first | (rw [Ch.len_put, HM.out]; rfl) | (rw [HM.out]; rfl), HCH3.out.set2 HB2c.out, HR3.out.set2 HB2c.out, Kp.set2 HK3.out (by omega), fun _ => Nat.le_succ _, by first | exact Ch.len_put _ _ _ | rfl⟩
set_option maxHeartbeats 4000000 in
theorem step1_ok (hc : IsCh w lo b gL gN C) (hr : RefAt w C rb rcap rows) (i x : Nat) (a : Int) (hi : i < C.ls.length) (hx : x < C.N) (hfr : C.free x) :
    Calls Try.prog 11 #[.pointer (some ⟨b, 0, none⟩), refV C rb rcap, actV 1 (i : Int) (x : Int) a] w (StepPost w lo b gL gN C) := by
  have hM := hc.m8
  have hf := hc.few
  have hN6 := hc.n6
  have hlt := hc.lts
  obtain ⟨hg0, hz0, b0, b1, b2⟩ := alloc3 w (.cells #[.int .i64 (C.N : Int), .slice (some ⟨rb, 0, none⟩) C.ls.length rcap] 31) (.cells #[.int .i64 1, .int .i64 (i : Int), .int .i32 (x : Int), .int .i32 a] 34) (.cells #[.int .i64 0, .slice none 0 0] 31)
  have HRV : Hid (refV C rb rcap = .agg #[.int .i64 (C.N : Int), .slice (some ⟨rb, 0, none⟩) C.ls.length rcap]) := Lib.hid rfl
  rw [HRV.out]
  unfold actV
  have HC := Lib.hid hc
  have HR := Lib.hid hr
  have HG0 := Lib.hid hg0
  have HB0 := Lib.hid b0
  have HB1 := Lib.hid b1
  have HB2 := Lib.hid b2
  have HMl := Lib.hid hM
  have HF := Lib.hid hf
  clear hc hr hg0 b0 b1 b2 hM hf
  obtain ⟨M, HM⟩ : ∃ M, Hid (C.ls.length = M) := ⟨_, Lib.hid rfl⟩
  rw [HM.out] at HG0 HB0 HB1 HB2 HRV hz0 ⊢
  obtain ⟨c00, c01, _, _, l0⟩ := cells2 HB0.out
  obtain ⟨c10, c11, c12, c13⟩ := cells4 HB1.out
  go_enter Try.func11, Try.ntmps11
  go_wp2_with fail
  have HR0 := Lib.hid (HR.out.kept HG0.out)
  have HC0 := Lib.hid (HC.out.kept HG0.out)
  generalize ((w.alloc (.cells #[.int .i64 (C.N : Int), .slice (some ⟨rb, 0, none⟩) M rcap] 31)).alloc (.cells #[.int .i64 1, .int .i64 (i : Int), .int .i32 (x : Int), .int .i32 a] 34)).alloc (.cells #[.int .i64 0, .slice none 0 0] 31) = w0 at *
  have hp : Calls Try.prog 31 #[.agg #[.int .i64 (C.N : Int), .slice (some ⟨rb, 0, none⟩) M rcap], .int .i64 (i : Int), .int .i32 (x : Int), .bool true] w0 (PutPost w0 (C.put i (C.of i ++ [x])) (.int .i64 0)) := by
    have := rput_ok HR0.out HMl.out HF.out hN6 hi hx hfr true
    rw [HRV.out] at this
    exact this
  refine hp.mono ?_
  rintro e w1 ⟨rb2, rcap2, rows2, rfl, hR1, hg1⟩
  have HR1 := Lib.hid hR1
  clear hp hR1
  unfold refV
  rw [Ch.len_put, HM.out, show (C.put i (C.of i ++ [x])).N = C.N from rfl]
  have HG1 := Lib.hid (grown_trans HG0.out hg1)
  have HB1a := Lib.hid (kept2 HB1.out hg1)
  have HB2a := Lib.hid (kept2 HB2.out hg1)
  have HC1 := Lib.hid (HC0.out.kept hg1)
  have hl1 : w.heap.size + 3 ≤ w1.heap.size := by have := hg1.size; omega
  clear c00 c01 l0 c10 c11 c12 c13 hg1 HB0 HB1 HB2 HG0 HC0 HR0
  obtain ⟨c10, c11, c12, c13⟩ := cells4 HB1a.out
  obtain ⟨c20, c21, f20, f21, l2⟩ := cells2 HB2a.out
  have HG2 : Hid (w.grownBy (w1.alloc (.cells #[.int .i64 (C.N : Int), .slice (some ⟨rb2, 0, none⟩) M rcap2] 31)) none) := Lib.hid (grown_trans HG1.out (World.grownBy_alloc _ _ none))
  have HB1b := Lib.hid (kept2 HB1a.out (World.grownBy_alloc w1 (.cells #[.int .i64 (C.N : Int), .slice (some ⟨rb2, 0, none⟩) M rcap2] 31) none))
  have HB2b := Lib.hid (kept2 HB2a.out (World.grownBy_alloc w1 (.cells #[.int .i64 (C.N : Int), .slice (some ⟨rb2, 0, none⟩) M rcap2] 31) none))
  have HB3b := Lib.hid (heap_alloc_new w1 (.cells #[.int .i64 (C.N : Int), .slice (some ⟨rb2, 0, none⟩) M rcap2] 31))
  have HC2 := Lib.hid (HC1.out.kept (World.grownBy_alloc w1 (.cells #[.int .i64 (C.N : Int), .slice (some ⟨rb2, 0, none⟩) M rcap2] 31) none))
  have HR2 := Lib.hid (HR1.out.kept (World.grownBy_alloc w1 (.cells #[.int .i64 (C.N : Int), .slice (some ⟨rb2, 0, none⟩) M rcap2] 31) none))
  obtain ⟨B3, HB3e⟩ : ∃ B3, Hid (w1.heap.size = B3) := ⟨_, Lib.hid rfl⟩
  rw [HB3e.out] at HB3b hl1
  clear c10 c11 c12 c13 c20 c21 f20 f21 l2 HG1 HB1a HB2a HC1 HR1
  obtain ⟨c10, c11, c12, c13⟩ := cells4 HB1b.out
  go_wp2_with fail
  rw [HB3e.out]
  generalize w1.alloc (.cells #[.int .i64 (C.N : Int), .slice (some ⟨rb2, 0, none⟩) M rcap2] 31) = w2 at *
  refine (behind_is HC2.out (i := i) (x := x) hi hx hfr).mono ?_
  rintro e w3 ⟨rfl, hch, hk⟩
  have HB1c := Lib.hid (kp2 HB1b.out hk (by omega) (by omega))
  have HB2c := Lib.hid (kp2 HB2b.out hk (by omega) (by omega))
  have HB3c := Lib.hid (kp2 HB3b.out hk (by omega) (by omega))
  have HCH3 := Lib.hid hch
  have HK3 := Lib.hid ((Kp.of_new HG2.out).trans hk)
  have HR3 := Lib.hid (HR2.out.kp hk HC2.out.types.2.1 HC2.out.types.2.2)
  obtain ⟨c20, c21, f20, f21, l2⟩ := cells2 HB2c.out
  obtain ⟨c30, c31, _, _, l3⟩ := cells2 HB3c.out
  clear hch hk HB1b HB2b HB3b HC2 HR2 HG2
  go_wp2
  refine bodyPost_ret (results_ref2 rfl _ _ _ _ _ _ _ rfl (fin2 HB2c.out)) rfl ?_
  exact ⟨_, rb2, rcap2, _, by unfold refV; first | (rw [Ch.len_put, HM.out]; rfl) | (rw [HM.out]; rfl), HCH3.out.set2 HB2c.out, HR3.out.set2 HB2c.out, Kp.set2 HK3.out (by omega), len_put_le hi (by simp), by first | exact Ch.len_put _ _ _ | rfl⟩
end
end Go.Proofs.Ytmjccpgkgkindaa
