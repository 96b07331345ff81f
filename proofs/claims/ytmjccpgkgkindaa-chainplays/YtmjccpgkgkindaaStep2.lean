/-
  The law's step, its other two kinds.
-/
import Derived.Test.YtmjccpgkgkindaaStep
namespace Go.Proofs.Ytmjccpgkgkindaa
open Go.ChangeShapes Go.WideShapes Go.ChangeAt Go.RowKit
set_option linter.unusedVariables false
set_option maxRecDepth 100000

theorem set2_cells {w : World} {B B' B'' : Nat} {u v x y z t : Value} {i j k l : Nat} (h1 : w.cell? ⟨B', i, none⟩ = some x) (h2 : w.cell? ⟨B', j, none⟩ = some y) (h3 : w.cell? ⟨B'', k, none⟩ = some z) (h4 : w.cell? ⟨B'', l, none⟩ = some t) (hn : B' ≠ B) (hn2 : B'' ≠ B) :
    ((w.setCell ⟨B, 0, none⟩ u).setCell ⟨B, 1, none⟩ v).cell? ⟨B', i, none⟩ = some x ∧ ((w.setCell ⟨B, 0, none⟩ u).setCell ⟨B, 1, none⟩ v).cell? ⟨B', j, none⟩ = some y ∧ ((w.setCell ⟨B, 0, none⟩ u).setCell ⟨B, 1, none⟩ v).cell? ⟨B'', k, none⟩ = some z ∧ ((w.setCell ⟨B, 0, none⟩ u).setCell ⟨B, 1, none⟩ v).cell? ⟨B'', l, none⟩ = some t := by
  have e : ∀ K, K ≠ B → ((w.setCell ⟨B, 0, none⟩ u).setCell ⟨B, 1, none⟩ v).heap[K]? = w.heap[K]? := fun K hK => (heap_setCell_other _ _ _ _ hK).trans (heap_setCell_other _ _ _ _ hK)
  exact ⟨(World.cell?_of_block (a := ⟨B', i, none⟩) (e B' hn)).trans h1, (World.cell?_of_block (a := ⟨B', j, none⟩) (e B' hn)).trans h2, (World.cell?_of_block (a := ⟨B'', k, none⟩) (e B'' hn2)).trans h3, (World.cell?_of_block (a := ⟨B'', l, none⟩) (e B'' hn2)).trans h4⟩
section
variable {w : World} {C : Ch} {lo b gL gN rb rcap : Nat} {rows : Nat → Value}
set_option maxHeartbeats 4000000 in
theorem step2_at (hc : IsCh w lo b gL gN C) (hr : RefAt w C rb rcap rows) (list n a : Int) (hn : i32in n) (ha : i32in a) :
    Calls Try.prog 11 #[.pointer (some ⟨b, 0, none⟩), refV C rb rcap, actV 2 list n a] w (StepPost w lo b gL gN C) := by
  have hM := hc.m8
  have hf := hc.few
  have hN6 := hc.n6
  have hlt := hc.lts
  obtain ⟨hg0, hz0, b0, b1, b2⟩ := alloc3 w (.cells #[.int .i64 (C.N : Int), .slice (some ⟨rb, 0, none⟩) C.ls.length rcap] 31) (.cells #[.int .i64 2, .int .i64 list, .int .i32 n, .int .i32 a] 34) (.cells #[.int .i64 0, .slice none 0 0] 31)
  have HRV : Hid (refV C rb rcap = .agg #[.int .i64 (C.N : Int), .slice (some ⟨rb, 0, none⟩) C.ls.length rcap]) := Lib.hid rfl
  rw [HRV.out]
  unfold actV
  have HC := Lib.hid hc
  have HR := Lib.hid hr
  have HG0 := Lib.hid hg0
  have HB0 := Lib.hid b0
  have HB1 := Lib.hid b1
  have HB2 := Lib.hid b2
  have HMl := Lib.hid hM
  have HF := Lib.hid hf
  clear hc hr hg0 b0 b1 b2 hM hf
  obtain ⟨M, HM⟩ : ∃ M, Hid (C.ls.length = M) := ⟨_, Lib.hid rfl⟩
  rw [HM.out] at HG0 HB0 HB1 HB2 HRV hz0 ⊢
  obtain ⟨c00, c01, _, _, l0⟩ := cells2 HB0.out
  obtain ⟨c10, c11, c12, c13⟩ := cells4 HB1.out
  go_enter Try.func11, Try.ntmps11
  go_wp2_with fail
  have HR0 := Lib.hid (HR.out.kept HG0.out)
  have HC0 := Lib.hid (HC.out.kept HG0.out)
  generalize ((w.alloc (.cells #[.int .i64 (C.N : Int), .slice (some ⟨rb, 0, none⟩) M rcap] 31)).alloc (.cells #[.int .i64 2, .int .i64 list, .int .i32 n, .int .i32 a] 34)).alloc (.cells #[.int .i64 0, .slice none 0 0] 31) = w0 at *
  have hp : Calls Try.prog 32 #[.agg #[.int .i64 (C.N : Int), .slice (some ⟨rb, 0, none⟩) M rcap], .int .i32 n, .int .i32 a] w0 (InsPost w0 C rb rcap n a) := by
    have := rins_at HR0.out HMl.out HF.out hN6 n a hn ha
    rw [HRV.out] at this
    exact this
  refine hp.mono ?_
  clear hp
  rintro e w1 (⟨⟨rfl, hg1⟩, hne⟩ | ⟨j, k, x, y, rfl, rfl, h0, hjy, rb2, rcap2, rows2, rfl, hR1, hg1⟩)
  · rw [HRV.out]
    have HR1 := Lib.hid (HR0.out.kept hg1)
    obtain ⟨rb2, hrb2⟩ : ∃ rb2, rb2 = rb := ⟨_, rfl⟩
    obtain ⟨rcap2, hrc2⟩ : ∃ r2, r2 = rcap := ⟨_, rfl⟩
    rw [← hrb2, ← hrc2] at HR1 ⊢
    have Hne := Lib.hid hne
    obtain ⟨cd, Hcd⟩ : ∃ cd, Hid (C.insC n a = cd) := ⟨_, Lib.hid rfl⟩
    rw [Hcd.out]
    have hcc : (cd == cd) = true := by simp
    clear hrb2 hrc2 hne
    have HG1 := Lib.hid (grown_trans HG0.out hg1)
    have HB1a := Lib.hid (kept2 HB1.out hg1)
    have HB2a := Lib.hid (kept2 HB2.out hg1)
    have HC1 := Lib.hid (HC0.out.kept hg1)
    have hl1 : w.heap.size + 3 ≤ w1.heap.size := by have := hg1.size; omega
    clear c00 c01 l0 c10 c11 c12 c13 hg1 HB0 HB1 HB2 HG0 HC0 HR0
    have HG2 : Hid (w.grownBy (w1.alloc (.cells #[.int .i64 (C.N : Int), .slice (some ⟨rb2, 0, none⟩) M rcap2] 31)) none) := Lib.hid (grown_trans HG1.out (World.grownBy_alloc _ _ none))
    have HB1b := Lib.hid (kept2 HB1a.out (World.grownBy_alloc w1 (.cells #[.int .i64 (C.N : Int), .slice (some ⟨rb2, 0, none⟩) M rcap2] 31) none))
    have HB2b := Lib.hid (kept2 HB2a.out (World.grownBy_alloc w1 (.cells #[.int .i64 (C.N : Int), .slice (some ⟨rb2, 0, none⟩) M rcap2] 31) none))
    have HB3b := Lib.hid (heap_alloc_new w1 (.cells #[.int .i64 (C.N : Int), .slice (some ⟨rb2, 0, none⟩) M rcap2] 31))
    have HC2 := Lib.hid (HC1.out.kept (World.grownBy_alloc w1 (.cells #[.int .i64 (C.N : Int), .slice (some ⟨rb2, 0, none⟩) M rcap2] 31) none))
    have HR2 := Lib.hid (HR1.out.kept (World.grownBy_alloc w1 (.cells #[.int .i64 (C.N : Int), .slice (some ⟨rb2, 0, none⟩) M rcap2] 31) none))
    obtain ⟨B3, HB3e⟩ : ∃ B3, Hid (w1.heap.size = B3) := ⟨_, Lib.hid rfl⟩
    rw [HB3e.out] at HB3b hl1
    clear HG1 HB1a HB2a HC1 HR1
    go_wp2_with fail
    rw [HB3e.out]
    generalize w1.alloc (.cells #[.int .i64 (C.N : Int), .slice (some ⟨rb2, 0, none⟩) M rcap2] 31) = w2 at *
    obtain ⟨c10, c11, c12, c13⟩ := cells4 HB1b.out
    obtain ⟨c30, c31, _, _, l3⟩ := cells2 HB3b.out
    have HCd := Lib.hid (HC2.out.kept (grown_drewN w2 1 none))
    have Hch := Lib.hid (show Calls Try.prog 20 #[.pointer (some ⟨b, 0, none⟩), .int .i32 n, .int .i32 a] w2.drew fun e w'' => e = .returned (.int .i64 cd) ∧ IsCh w'' lo b gL gN C ∧ Kp gL gN (w2.drewN 1) w'' from by
        have := insert_er HCd.out hn ha Hne.out
        rw [Hcd.out] at this
        refine this.mono ?_
        rintro e w'' ⟨rfl, rfl⟩
        exact ⟨rfl, HCd.out, Stay.refl _ _⟩)
    go_region_held3 (fun w' => w'.cell? ⟨B3, 0, none⟩ = some (.int .i64 (C.N : Int)) ∧ w'.cell? ⟨B3, 1, none⟩ = some (.slice (some ⟨rb2, 0, none⟩) M rcap2) ∧ w'.cell? ⟨w.heap.size + 1, 2, none⟩ = some (.int .i32 n) ∧ w'.cell? ⟨w.heap.size + 1, 3, none⟩ = some (.int .i32 a)) (first | exact ⟨c30, c31, c12, c13⟩ | exact ⟨k30, k31, k12, k13⟩ | exact hst.out _ _ | go_keep)
      (first | (go_at_call 20; refine Hch.out.mono ?_; rintro e w3 ⟨rfl, hch, hk⟩; obtain ⟨k10, k11, k12, k13⟩ := cells4 (kp2 (kept2 HB1b.out (grown_drewN w2 1 none)) hk (by omega) (by omega)); obtain ⟨k30, k31, _, _, _⟩ := cells2 (kp2 (kept2 HB3b.out (grown_drewN w2 1 none)) hk (by omega) (by omega)); have HB2c := Lib.hid (kp2 (kept2 HB2b.out (grown_drewN w2 1 none)) hk (by omega) (by omega)); obtain ⟨c20, c21, f20, f21, l2⟩ := cells2 HB2c.out; have HCH3 := Lib.hid hch; have HK3 := Lib.hid (((Kp.of_new HG2.out).trans (Kp.of_new (grown_drewN w2 1 none))).trans hk); have HR3 := Lib.hid ((HR2.out.kept (grown_drewN w2 1 none)).kp hk HCd.out.types.2.1 HCd.out.types.2.2); have hst := Lib.hid (fun u v : Value => set2_cells (w := w3) (B := w.heap.size + 1 + 1) (u := u) (v := v) k30 k31 k12 k13 (by omega) (by omega)); clear hch hk))
    go_wp2
    refine bodyPost_ret (results_ref2 rfl _ _ _ _ _ _ _ rfl (fin2 HB2c.out)) rfl ?_
    exact ⟨_, rb2, rcap2, _, by unfold refV; first | (rw [Ch.len_put, HM.out]; rfl) | (rw [HM.out]; rfl), HCH3.out.set2 HB2c.out, HR3.out.set2 HB2c.out, Kp.set2 HK3.out (by omega), fun _ => Nat.le_succ _, by first | exact Ch.len_put _ _ _ | rfl⟩
  · unfold refV
    rw [Ch.len_put, HM.out, show (C.put j (((C.of j).take (k + 1) ++ [x]) ++ (C.of j).drop (k + 1))).N = C.N from rfl]
    have HR1 := Lib.hid hR1
    have hjC : j < C.ls.length := Ch.lt_of_mem (List.mem_of_getElem? hjy)
    have hxx : x < C.N ∧ C.free x := by
      unfold Ch.insC at h0
      cases hi : inN C.N (x : Int) with
      | false => rw [hi] at h0; simp at h0
      | true =>
        obtain ⟨x', hx', hlt'⟩ : ∃ x' : Nat, (x : Int) = (x' : Int) ∧ x' < C.N := by
          have hx : 0 ≤ (x : Int) ∧ (x : Int) < (C.N : Int) := by unfold inN at hi; simpa using hi
          exact ⟨x, rfl, by omega⟩
        refine ⟨by omega, Ch.has_free.1 ?_⟩
        cases hh : C.has (x : Int) with
        | false => rfl
        | true => rw [hi, hh] at h0; cases hq : inN C.N (y : Int) <;> rw [hq] at h0 <;> simp at h0
    have he : ((C.of j).take (k + 1) ++ [x]) ++ (C.of j).drop (k + 1) = (C.of j).take k ++ y :: x :: (C.of j).drop (k + 1) := by rw [take_snoc hjy]; simp
    have hlen : (((C.of j).take (k + 1) ++ [x]) ++ (C.of j).drop (k + 1)).length ≤ (C.of j).length + 1 := by simp; omega
    have Hjy := Lib.hid hjy
    clear hR1 hjy h0
    have HG1 := Lib.hid (grown_trans HG0.out hg1)
    have HB1a := Lib.hid (kept2 HB1.out hg1)
    have HB2a := Lib.hid (kept2 HB2.out hg1)
    have HC1 := Lib.hid (HC0.out.kept hg1)
    have hl1 : w.heap.size + 3 ≤ w1.heap.size := by have := hg1.size; omega
    clear c00 c01 l0 c10 c11 c12 c13 hg1 HB0 HB1 HB2 HG0 HC0 HR0
    have HG2 : Hid (w.grownBy (w1.alloc (.cells #[.int .i64 (C.N : Int), .slice (some ⟨rb2, 0, none⟩) M rcap2] 31)) none) := Lib.hid (grown_trans HG1.out (World.grownBy_alloc _ _ none))
    have HB1b := Lib.hid (kept2 HB1a.out (World.grownBy_alloc w1 (.cells #[.int .i64 (C.N : Int), .slice (some ⟨rb2, 0, none⟩) M rcap2] 31) none))
    have HB2b := Lib.hid (kept2 HB2a.out (World.grownBy_alloc w1 (.cells #[.int .i64 (C.N : Int), .slice (some ⟨rb2, 0, none⟩) M rcap2] 31) none))
    have HB3b := Lib.hid (heap_alloc_new w1 (.cells #[.int .i64 (C.N : Int), .slice (some ⟨rb2, 0, none⟩) M rcap2] 31))
    have HC2 := Lib.hid (HC1.out.kept (World.grownBy_alloc w1 (.cells #[.int .i64 (C.N : Int), .slice (some ⟨rb2, 0, none⟩) M rcap2] 31) none))
    have HR2 := Lib.hid (HR1.out.kept (World.grownBy_alloc w1 (.cells #[.int .i64 (C.N : Int), .slice (some ⟨rb2, 0, none⟩) M rcap2] 31) none))
    obtain ⟨B3, HB3e⟩ : ∃ B3, Hid (w1.heap.size = B3) := ⟨_, Lib.hid rfl⟩
    rw [HB3e.out] at HB3b hl1
    clear HG1 HB1a HB2a HC1 HR1
    go_wp2_with fail
    rw [HB3e.out]
    generalize w1.alloc (.cells #[.int .i64 (C.N : Int), .slice (some ⟨rb2, 0, none⟩) M rcap2] 31) = w2 at *
    obtain ⟨c10, c11, c12, c13⟩ := cells4 HB1b.out
    obtain ⟨c30, c31, _, _, l3⟩ := cells2 HB3b.out
    have HCd := Lib.hid (HC2.out.kept (grown_drewN w2 1 none))
    have Hch := Lib.hid (show Calls Try.prog 20 #[.pointer (some ⟨b, 0, none⟩), .int .i32 (x : Int), .int .i32 (y : Int)] w2.drew fun e w'' => e = .returned (.int .i64 0) ∧ IsCh w'' lo b gL gN (C.put j (((C.of j).take (k + 1) ++ [x]) ++ (C.of j).drop (k + 1))) ∧ Kp gL gN (w2.drewN 1) w'' from by
        have := insert_is HCd.out (take_drop_at Hjy.out) hxx.1 hxx.2
        rw [he]
        exact this)
    go_region_held3 (fun w' => w'.cell? ⟨B3, 0, none⟩ = some (.int .i64 (C.N : Int)) ∧ w'.cell? ⟨B3, 1, none⟩ = some (.slice (some ⟨rb2, 0, none⟩) M rcap2) ∧ w'.cell? ⟨w.heap.size + 1, 2, none⟩ = some (.int .i32 (x : Int)) ∧ w'.cell? ⟨w.heap.size + 1, 3, none⟩ = some (.int .i32 (y : Int))) (first | exact ⟨c30, c31, c12, c13⟩ | exact ⟨k30, k31, k12, k13⟩ | exact hst.out _ _ | go_keep)
      (first | (go_at_call 20; refine Hch.out.mono ?_; rintro e w3 ⟨rfl, hch, hk⟩; obtain ⟨k10, k11, k12, k13⟩ := cells4 (kp2 (kept2 HB1b.out (grown_drewN w2 1 none)) hk (by omega) (by omega)); obtain ⟨k30, k31, _, _, _⟩ := cells2 (kp2 (kept2 HB3b.out (grown_drewN w2 1 none)) hk (by omega) (by omega)); have HB2c := Lib.hid (kp2 (kept2 HB2b.out (grown_drewN w2 1 none)) hk (by omega) (by omega)); obtain ⟨c20, c21, f20, f21, l2⟩ := cells2 HB2c.out; have HCH3 := Lib.hid hch; have HK3 := Lib.hid (((Kp.of_new HG2.out).trans (Kp.of_new (grown_drewN w2 1 none))).trans hk); have HR3 := Lib.hid ((HR2.out.kept (grown_drewN w2 1 none)).kp hk HCd.out.types.2.1 HCd.out.types.2.2); have hst := Lib.hid (fun u v : Value => set2_cells (w := w3) (B := w.heap.size + 1 + 1) (u := u) (v := v) k30 k31 k12 k13 (by omega) (by omega)); clear hch hk))
    go_wp2
    refine bodyPost_ret (results_ref2 rfl _ _ _ _ _ _ _ rfl (fin2 HB2c.out)) rfl ?_
    exact ⟨_, rb2, rcap2, _, by unfold refV; first | (rw [Ch.len_put, HM.out]; rfl) | (rw [HM.out]; rfl), HCH3.out.set2 HB2c.out, HR3.out.set2 HB2c.out, Kp.set2 HK3.out (by omega), len_put_le hjC hlen, by first | exact Ch.len_put _ _ _ | rfl⟩
set_option maxHeartbeats 4000000 in
theorem step3_at (hc : IsCh w lo b gL gN C) (hr : RefAt w C rb rcap rows) (kind list n a : Int) (hn : i32in n) (hk : ¬ kind = 0 ∧ ¬ kind = 1 ∧ ¬ kind = 2) :
    Calls Try.prog 11 #[.pointer (some ⟨b, 0, none⟩), refV C rb rcap, actV kind list n a] w (StepPost w lo b gL gN C) := by
  have hk0 : (kind == 0) = false := by simp [hk.1]
  have hk1 : (kind == 1) = false := by simp [hk.2.1]
  have hk2 : (kind == 2) = false := by simp [hk.2.2]
  clear hk
  have hM := hc.m8
  have hf := hc.few
  have hN6 := hc.n6
  have hlt := hc.lts
  obtain ⟨hg0, hz0, b0, b1, b2⟩ := alloc3 w (.cells #[.int .i64 (C.N : Int), .slice (some ⟨rb, 0, none⟩) C.ls.length rcap] 31) (.cells #[.int .i64 kind, .int .i64 list, .int .i32 n, .int .i32 a] 34) (.cells #[.int .i64 0, .slice none 0 0] 31)
  have HRV : Hid (refV C rb rcap = .agg #[.int .i64 (C.N : Int), .slice (some ⟨rb, 0, none⟩) C.ls.length rcap]) := Lib.hid rfl
  rw [HRV.out]
  unfold actV
  have HC := Lib.hid hc
  have HR := Lib.hid hr
  have HG0 := Lib.hid hg0
  have HB0 := Lib.hid b0
  have HB1 := Lib.hid b1
  have HB2 := Lib.hid b2
  have HMl := Lib.hid hM
  have HF := Lib.hid hf
  clear hc hr hg0 b0 b1 b2 hM hf
  obtain ⟨M, HM⟩ : ∃ M, Hid (C.ls.length = M) := ⟨_, Lib.hid rfl⟩
  rw [HM.out] at HG0 HB0 HB1 HB2 HRV hz0 ⊢
  obtain ⟨c00, c01, _, _, l0⟩ := cells2 HB0.out
  obtain ⟨c10, c11, c12, c13⟩ := cells4 HB1.out
  go_enter Try.func11, Try.ntmps11
  go_wp2_with fail
  have HR0 := Lib.hid (HR.out.kept HG0.out)
  have HC0 := Lib.hid (HC.out.kept HG0.out)
  generalize ((w.alloc (.cells #[.int .i64 (C.N : Int), .slice (some ⟨rb, 0, none⟩) M rcap] 31)).alloc (.cells #[.int .i64 kind, .int .i64 list, .int .i32 n, .int .i32 a] 34)).alloc (.cells #[.int .i64 0, .slice none 0 0] 31) = w0 at *
  have hp : Calls Try.prog 33 #[.agg #[.int .i64 (C.N : Int), .slice (some ⟨rb, 0, none⟩) M rcap], .int .i32 n] w0 (RemPost w0 C rb rcap n) := by
    have := rrem_at HR0.out HMl.out HF.out n
    rw [HRV.out] at this
    exact this
  refine hp.mono ?_
  clear hp
  rintro e w1 (⟨⟨rfl, hg1⟩, hne⟩ | ⟨j, k, x, rfl, hjx, rb2, rcap2, rows2, rfl, hR1, hg1⟩)
  · rw [HRV.out]
    have HR1 := Lib.hid (HR0.out.kept hg1)
    obtain ⟨rb2, hrb2⟩ : ∃ rb2, rb2 = rb := ⟨_, rfl⟩
    obtain ⟨rcap2, hrc2⟩ : ∃ r2, r2 = rcap := ⟨_, rfl⟩
    rw [← hrb2, ← hrc2] at HR1 ⊢
    have Hne := Lib.hid hne
    clear hrb2 hrc2 hne
    have HG1 := Lib.hid (grown_trans HG0.out hg1)
    have HB1a := Lib.hid (kept2 HB1.out hg1)
    have HB2a := Lib.hid (kept2 HB2.out hg1)
    have HC1 := Lib.hid (HC0.out.kept hg1)
    have hl1 : w.heap.size + 3 ≤ w1.heap.size := by have := hg1.size; omega
    clear c00 c01 l0 c10 c11 c12 c13 hg1 HB0 HB1 HB2 HG0 HC0 HR0
    have HG2 : Hid (w.grownBy (w1.alloc (.cells #[.int .i64 (C.N : Int), .slice (some ⟨rb2, 0, none⟩) M rcap2] 31)) none) := Lib.hid (grown_trans HG1.out (World.grownBy_alloc _ _ none))
    have HB1b := Lib.hid (kept2 HB1a.out (World.grownBy_alloc w1 (.cells #[.int .i64 (C.N : Int), .slice (some ⟨rb2, 0, none⟩) M rcap2] 31) none))
    have HB2b := Lib.hid (kept2 HB2a.out (World.grownBy_alloc w1 (.cells #[.int .i64 (C.N : Int), .slice (some ⟨rb2, 0, none⟩) M rcap2] 31) none))
    have HB3b := Lib.hid (heap_alloc_new w1 (.cells #[.int .i64 (C.N : Int), .slice (some ⟨rb2, 0, none⟩) M rcap2] 31))
    have HC2 := Lib.hid (HC1.out.kept (World.grownBy_alloc w1 (.cells #[.int .i64 (C.N : Int), .slice (some ⟨rb2, 0, none⟩) M rcap2] 31) none))
    have HR2 := Lib.hid (HR1.out.kept (World.grownBy_alloc w1 (.cells #[.int .i64 (C.N : Int), .slice (some ⟨rb2, 0, none⟩) M rcap2] 31) none))
    obtain ⟨B3, HB3e⟩ : ∃ B3, Hid (w1.heap.size = B3) := ⟨_, Lib.hid rfl⟩
    rw [HB3e.out] at HB3b hl1
    clear HG1 HB1a HB2a HC1 HR1
    go_wp2_with fail
    rw [HB3e.out]
    generalize w1.alloc (.cells #[.int .i64 (C.N : Int), .slice (some ⟨rb2, 0, none⟩) M rcap2] 31) = w2 at *
    obtain ⟨c10, c11, c12, c13⟩ := cells4 HB1b.out
    obtain ⟨c30, c31, _, _, l3⟩ := cells2 HB3b.out
    have HCd := Lib.hid (HC2.out.kept (grown_drewN w2 1 none))
    have Hch := Lib.hid (show Calls Try.prog 16 #[.pointer (some ⟨b, 0, none⟩), .int .i32 n] w2.drew fun e w'' => e = .returned (.bool false) ∧ IsCh w'' lo b gL gN C ∧ Kp gL gN (w2.drewN 1) w'' from by
        refine (remove_er HCd.out hn Hne.out).mono ?_
        rintro e w'' ⟨rfl, rfl⟩
        exact ⟨rfl, HCd.out, Stay.refl _ _⟩)
    go_region_held3 (fun w' => w'.cell? ⟨B3, 0, none⟩ = some (.int .i64 (C.N : Int)) ∧ w'.cell? ⟨B3, 1, none⟩ = some (.slice (some ⟨rb2, 0, none⟩) M rcap2) ∧ w'.cell? ⟨w.heap.size + 1, 2, none⟩ = some (.int .i32 n) ∧ w'.cell? ⟨w.heap.size + 1, 3, none⟩ = some (.int .i32 a)) (first | exact ⟨c30, c31, c12, c13⟩ | exact ⟨k30, k31, k12, k13⟩ | exact hst.out _ _ | go_keep)
      (first | (go_at_call 16; refine Hch.out.mono ?_; rintro e w3 ⟨rfl, hch, hk⟩; obtain ⟨k10, k11, k12, k13⟩ := cells4 (kp2 (kept2 HB1b.out (grown_drewN w2 1 none)) hk (by omega) (by omega)); obtain ⟨k30, k31, _, _, _⟩ := cells2 (kp2 (kept2 HB3b.out (grown_drewN w2 1 none)) hk (by omega) (by omega)); have HB2c := Lib.hid (kp2 (kept2 HB2b.out (grown_drewN w2 1 none)) hk (by omega) (by omega)); obtain ⟨c20, c21, f20, f21, l2⟩ := cells2 HB2c.out; have HCH3 := Lib.hid hch; have HK3 := Lib.hid (((Kp.of_new HG2.out).trans (Kp.of_new (grown_drewN w2 1 none))).trans hk); have HR3 := Lib.hid ((HR2.out.kept (grown_drewN w2 1 none)).kp hk HCd.out.types.2.1 HCd.out.types.2.2); have hst := Lib.hid (fun u v : Value => set2_cells (w := w3) (B := w.heap.size + 1 + 1) (u := u) (v := v) k30 k31 k12 k13 (by omega) (by omega)); clear hch hk))
    go_wp2
    refine bodyPost_ret (results_ref2 rfl _ _ _ _ _ _ _ rfl (fin2 HB2c.out)) rfl ?_
    exact ⟨_, rb2, rcap2, _, by unfold refV; first | (rw [Ch.len_put, HM.out]; rfl) | (rw [HM.out]; rfl), HCH3.out.set2 HB2c.out, HR3.out.set2 HB2c.out, Kp.set2 HK3.out (by omega), fun _ => Nat.le_succ _, by first | exact Ch.len_put _ _ _ | rfl⟩
  · unfold refV
    rw [Ch.len_put, HM.out, show (C.put j ((C.of j).take k ++ (C.of j).drop (k + 1))).N = C.N from rfl]
    have HR1 := Lib.hid hR1
    have hjC : j < C.ls.length := Ch.lt_of_mem (List.mem_of_getElem? hjx)
    have hlen : ((C.of j).take k ++ (C.of j).drop (k + 1)).length ≤ (C.of j).length + 1 := by simp; omega
    have Hjx := Lib.hid hjx
    clear hR1 hjx
    have HG1 := Lib.hid (grown_trans HG0.out hg1)
    have HB1a := Lib.hid (kept2 HB1.out hg1)
    have HB2a := Lib.hid (kept2 HB2.out hg1)
    have HC1 := Lib.hid (HC0.out.kept hg1)
    have hl1 : w.heap.size + 3 ≤ w1.heap.size := by have := hg1.size; omega
    clear c00 c01 l0 c10 c11 c12 c13 hg1 HB0 HB1 HB2 HG0 HC0 HR0
    have HG2 : Hid (w.grownBy (w1.alloc (.cells #[.int .i64 (C.N : Int), .slice (some ⟨rb2, 0, none⟩) M rcap2] 31)) none) := Lib.hid (grown_trans HG1.out (World.grownBy_alloc _ _ none))
    have HB1b := Lib.hid (kept2 HB1a.out (World.grownBy_alloc w1 (.cells #[.int .i64 (C.N : Int), .slice (some ⟨rb2, 0, none⟩) M rcap2] 31) none))
    have HB2b := Lib.hid (kept2 HB2a.out (World.grownBy_alloc w1 (.cells #[.int .i64 (C.N : Int), .slice (some ⟨rb2, 0, none⟩) M rcap2] 31) none))
    have HB3b := Lib.hid (heap_alloc_new w1 (.cells #[.int .i64 (C.N : Int), .slice (some ⟨rb2, 0, none⟩) M rcap2] 31))
    have HC2 := Lib.hid (HC1.out.kept (World.grownBy_alloc w1 (.cells #[.int .i64 (C.N : Int), .slice (some ⟨rb2, 0, none⟩) M rcap2] 31) none))
    have HR2 := Lib.hid (HR1.out.kept (World.grownBy_alloc w1 (.cells #[.int .i64 (C.N : Int), .slice (some ⟨rb2, 0, none⟩) M rcap2] 31) none))
    obtain ⟨B3, HB3e⟩ : ∃ B3, Hid (w1.heap.size = B3) := ⟨_, Lib.hid rfl⟩
    rw [HB3e.out] at HB3b hl1
    clear HG1 HB1a HB2a HC1 HR1
    go_wp2_with fail
    rw [HB3e.out]
    generalize w1.alloc (.cells #[.int .i64 (C.N : Int), .slice (some ⟨rb2, 0, none⟩) M rcap2] 31) = w2 at *
    obtain ⟨c10, c11, c12, c13⟩ := cells4 HB1b.out
    obtain ⟨c30, c31, _, _, l3⟩ := cells2 HB3b.out
    have HCd := Lib.hid (HC2.out.kept (grown_drewN w2 1 none))
    have Hch := Lib.hid (show Calls Try.prog 16 #[.pointer (some ⟨b, 0, none⟩), .int .i32 (x : Int)] w2.drew fun e w'' => e = .returned (.bool true) ∧ IsCh w'' lo b gL gN (C.put j ((C.of j).take k ++ (C.of j).drop (k + 1))) ∧ Kp gL gN (w2.drewN 1) w'' from remove_is HCd.out (take_drop_at Hjx.out))
    go_region_held3 (fun w' => w'.cell? ⟨B3, 0, none⟩ = some (.int .i64 (C.N : Int)) ∧ w'.cell? ⟨B3, 1, none⟩ = some (.slice (some ⟨rb2, 0, none⟩) M rcap2) ∧ w'.cell? ⟨w.heap.size + 1, 2, none⟩ = some (.int .i32 (x : Int)) ∧ w'.cell? ⟨w.heap.size + 1, 3, none⟩ = some (.int .i32 a)) (first | exact ⟨c30, c31, c12, c13⟩ | exact ⟨k30, k31, k12, k13⟩ | exact hst.out _ _ | go_keep)
      (first | (go_at_call 16; refine Hch.out.mono ?_; rintro e w3 ⟨rfl, hch, hk⟩; obtain ⟨k10, k11, k12, k13⟩ := cells4 (kp2 (kept2 HB1b.out (grown_drewN w2 1 none)) hk (by omega) (by omega)); obtain ⟨k30, k31, _, _, _⟩ := cells2 (kp2 (kept2 HB3b.out (grown_drewN w2 1 none)) hk (by omega) (by omega)); have HB2c := Lib.hid (kp2 (kept2 HB2b.out (grown_drewN w2 1 none)) hk (by omega) (by omega)); obtain ⟨c20, c21, f20, f21, l2⟩ := cells2 HB2c.out; have HCH3 := Lib.hid hch; have HK3 := Lib.hid (((Kp.of_new HG2.out).trans (Kp.of_new (grown_drewN w2 1 none))).trans hk); have HR3 := Lib.hid ((HR2.out.kept (grown_drewN w2 1 none)).kp hk HCd.out.types.2.1 HCd.out.types.2.2); have hst := Lib.hid (fun u v : Value => set2_cells (w := w3) (B := w.heap.size + 1 + 1) (u := u) (v := v) k30 k31 k12 k13 (by omega) (by omega)); clear hch hk))
    go_wp2
    refine bodyPost_ret (results_ref2 rfl _ _ _ _ _ _ _ rfl (fin2 HB2c.out)) rfl ?_
    exact ⟨_, rb2, rcap2, _, by unfold refV; first | (rw [Ch.len_put, HM.out]; rfl) | (rw [HM.out]; rfl), HCH3.out.set2 HB2c.out, HR3.out.set2 HB2c.out, Kp.set2 HK3.out (by omega), len_put_le hjC hlen, by first | exact Ch.len_put _ _ _ | rfl⟩
end
end Go.Proofs.Ytmjccpgkgkindaa
