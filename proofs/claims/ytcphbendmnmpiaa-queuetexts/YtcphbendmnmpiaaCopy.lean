/-
  The things are copied into another row: copyTo.
-/
import Derived.Test.YtcphbendmnmpiaaPop
import Derived.Laws.IdiomCopy
namespace Go.Proofs.Ytcphbendmnmpiaa
open Go.ChangeShapes Go.WideShapes Go.ChangeAt Go.RowKit
set_option linter.unusedVariables false
set_option maxRecDepth 100000

theorem size2 : (Try.prog.info? 2).map (·.size) = some 1 := by kernel_rfl
theorem grown_setRow {w : World} {g : Nat} (cs : Array Value) : w.grownBy (w.setRow g cs) (some g) := ⟨rfl, rfl, rfl, by simp, fun k _ hk => setRow_other w g k _ (fun e => hk (by simp [e]))⟩
/-- what a row of m places holds behind it -/
def over (R : List Value) (f : Nat) (old : List Value) : List Value := (rotl R f).take old.length ++ old.drop R.length
theorem over_length (R : List Value) (f : Nat) (old : List Value) : (over R f old).length = old.length := by
  unfold over; rw [List.length_append, List.length_take, List.length_drop, rotl_length]; omega
section
variable {w : World} {lo b : Nat} {og : Option Nat} {g : Nat} {Q : Qu} {l : List Value}
def CopyPost (w : World) (q : Nat) (new : List Value) (e : Ending) (w' : World) : Prop := (∃ v, e = .returned v) ∧ w.grownBy w' (some q) ∧ w'.heap[q]? = some (.cells new.toArray 2 (0, 0))
theorem copy_nil (m c : Nat) (A : Option Addr) (w : World) : Calls Try.prog 28 #[.pointer none, .slice A m c] w fun e w' => (∃ v, e = .returned v) ∧ w = w' := by
  go_enter Try.func28, Try.ntmps28
  go_wp2
  refine bodyPost_ret (results_none rfl _ _ _) rfl ?_
  exact ⟨⟨_, rfl⟩, rfl⟩
/-- a queue that never had a thing -/
theorem copy_none (x : QAt 54 2 w lo b none Q) (h0 : Q.first = 0) {q m : Nat} {old : List Value} (hq : w.heap[q]? = some (.cells old.toArray 2 (0, 0))) (hm : old.length = m) (hm6 : m ≤ 1000000) :
    Calls Try.prog 28 #[.pointer (some ⟨b, 0, none⟩), .slice (some ⟨q, 0, none⟩) m m] w fun e w' => (∃ v, e = .returned v) ∧ ∃ n, w' = w.drewN n := by
  have c1 := x.c1
  have c2 := x.c2
  unfold ringV at c1
  rw [h0] at c2
  dsimp only at c1
  have hr1 := fun w ty => run_copy_none (P := Try.prog) w 22 22 ty 2 (some ⟨q, 0, none⟩) none m m 0 0 Try.underlying22 size2 (by show min 0 m = 0; omega)
  have k0 : (0 : Int) ≤ 0 := Int.le_refl 0
  clear x hq hm
  go_enter Try.func28, Try.ntmps28
  go_wp2_with fail
  refine region_tail 10 (by kernel_rfl) (by kernel_rfl) ?_
  intro w3 hw3
  have g1 : w3.cell? ⟨b, 1, none⟩ = some (.slice none 0 0) := by rw [hw3]; exact c1
  have g2 : w3.cell? ⟨b, 2, none⟩ = some (.int .i64 0) := by rw [hw3]; exact c2
  simp only [List.take_succ_cons, List.take_zero, List.drop_succ_cons, List.drop_zero]
  repeat still_step
  refine wpStill_nil ?_
  go_wp2_with fail
  refine region_tail 12 (by kernel_rfl) (by kernel_rfl) ?_
  intro w4 hw4
  have f1 : w4.cell? ⟨b, 1, none⟩ = some (.slice none 0 0) := by rw [hw4]; exact c1
  have f2 : w4.cell? ⟨b, 2, none⟩ = some (.int .i64 0) := by rw [hw4]; exact c2
  simp only [List.take_succ_cons, List.take_zero, List.drop_succ_cons, List.drop_zero]
  repeat still_step
  refine wpStill_nil ?_
  go_wp2_with fail
  go_end0
  exact ⟨⟨_, rfl⟩, 2, rfl⟩
theorem setRow_same {w : World} {q : Nat} {cur cs : Array Value} {t : TypeId} (h : w.heap[q]? = some (.cells cur t (0, 0))) : (w.setRow q cs).heap[q]? = some (.cells cs t (0, 0)) := setRow_heap w q cur cs t _ h
set_option maxHeartbeats 1000000 in
theorem copy_some (x : QAt 54 2 w lo b (some g) Q) (h1 : ∀ v ∈ Q.R, v.oneCell' = true) (hf : Q.first < Q.R.length) (hn6 : Q.R.length ≤ 65536) {q m : Nat} {old : List Value} (hq : w.heap[q]? = some (.cells old.toArray 2 (0, 0))) (hm : old.length = m) (hm6 : m ≤ 65536) (hqb : ¬ own b (some g) q) :
    Calls Try.prog 28 #[.pointer (some ⟨b, 0, none⟩), .slice (some ⟨q, 0, none⟩) m m] w (CopyPost w q (over Q.R Q.first old)) := by
  have HX := Lib.hid x
  have HQ := Lib.hid hqb
  have HQ0 := Lib.hid hq
  have H1 := Lib.hid h1
  have HM := Lib.hid hm
  have c1 := x.c1
  have c2 := x.c2
  unfold ringV at c1
  dsimp only at c1
  obtain ⟨n, HN⟩ : ∃ n, Hid (Q.R.length = n) := ⟨_, Lib.hid rfl⟩
  obtain ⟨f, HF⟩ : ∃ f, Hid (Q.first = f) := ⟨_, Lib.hid rfl⟩
  rw [HN.out] at c1 hf hn6
  rw [HF.out] at c2 hf ⊢
  have k0 : (0 : Int) ≤ (f : Int) := by omega
  have k1 : (f : Int) ≤ (n : Int) := by omega
  have k2 : ¬ (n : Int) = (f : Int) := by omega
  -- the first copy
  have hl1 : ((Q.R.drop f).take m).length = min (n - f) m := by rw [List.length_take, List.length_drop, HN.out, Nat.min_comm]
  have hr1 := fun ty c c' => run_copy_row (P := Try.prog) (w.drewN 1) 22 22 ty 2 q 0 m c ⟨g, f, none⟩ (n - f) c' old.toArray 2 ((Q.R.drop f).take m) Try.underlying22 size2 hq hl1 (fun j v hv => by
    have := HX.out.rc (f + j)
    rw [List.getElem?_take] at hv
    split at hv
    · rw [List.getElem?_drop] at hv
      rw [hv] at this
      rw [Addr.add_mid]
      exact this
    · cases hv) (by rw [hl1]; simp; omega) (fun v hv => h1 v (List.mem_of_mem_drop (List.mem_of_mem_take hv)))
  rw [hl1] at hr1
  obtain ⟨s1, hs1⟩ : ∃ s1, Hid ((old.toArray.toList.take 0 ++ (Q.R.drop f).take m ++ old.toArray.toList.drop (0 + min (n - f) m)) = s1) := ⟨_, Lib.hid rfl⟩
  rw [hs1.out] at hr1
  obtain ⟨kk, hkk⟩ : ∃ kk, Hid (min (n - f) m = kk) := ⟨_, Lib.hid rfl⟩
  rw [hkk.out] at hr1 hl1 hs1
  have HL1 := Lib.hid hl1
  clear x hqb hq h1 hl1 hm
  go_enter Try.func28, Try.ntmps28
  go_wp2_with fail
  refine region_tail 10 (by kernel_rfl) (by kernel_rfl) ?_
  intro w3 hw3
  rw [← hw3] at hr1
  have g1 : w3.cell? ⟨b, 1, none⟩ = some (.slice (some ⟨g, 0, none⟩) n n) := by rw [hw3]; exact c1
  have g2 : w3.cell? ⟨b, 2, none⟩ = some (.int .i64 (f : Int)) := by rw [hw3]; exact c2
  have HG3 : Hid (w.grownBy w3 none) := Lib.hid (by rw [hw3]; exact grown_drewN w 1 none)
  have HX3 := Lib.hid (HX.out.kept HG3.out)
  have HQ3 : Hid (w3.heap[q]? = some (.cells old.toArray 2 (0, 0))) := Lib.hid (by rw [hw3]; exact HQ0.out)
  clear hw3 c1 c2
  simp only [List.take_succ_cons, List.take_zero, List.drop_succ_cons, List.drop_zero]
  repeat still_step
  refine wpStill_nil ?_
  go_wp2_with fail
  have HG4 : Hid (w3.grownBy (w3.setRow q s1.toArray) (some q)) := Lib.hid (grown_setRow _)
  have HQ4 : Hid ((w3.setRow q s1.toArray).heap[q]? = some (.cells s1.toArray 2 (0, 0))) := Lib.hid (setRow_same HQ3.out)
  have HX4 : Hid (QAt 54 2 (w3.setRow q s1.toArray) lo b (some g) Q) := Lib.hid (HX3.out.stay fun k hk => HG4.out.block k (HX3.out.own_lo hk).2 (fun e => HQ.out (by injection e with e; rw [← e]; exact hk)))
  clear hr1 g1 g2
  generalize w3.setRow q s1.toArray = w4 at *
  have hkm : kk ≤ m := by rw [← hkk.out]; exact Nat.min_le_right _ _
  have hkn : kk ≤ n - f := by rw [← hkk.out]; exact Nat.min_le_left _ _
  have j0 : (0 : Int) ≤ (kk : Int) := by omega
  have j1 : (kk : Int) ≤ (m : Int) := by omega
  have hsl : s1.length = m := by rw [← hs1.out]; simp [HL1.out, HM.out]; omega
  -- the second copy
  by_cases hcase : kk = m
  · obtain rfl := hcase
    have hfin : s1 = over Q.R f old := by
      have hol := HM.out
      rw [← hs1.out]
      unfold over rotl
      rw [HM.out, HN.out, List.drop_of_length_le (show old.length ≤ n by omega), List.drop_of_length_le (show old.length ≤ 0 + kk by omega), List.take_append_of_le_length (by rw [List.length_drop, HN.out]; exact hkn)]
      simp
    have hr2 := fun w ty d dc cc => run_copy_none (P := Try.prog) w 22 22 ty 2 d (some ⟨g, 0, none⟩) 0 dc f cc Try.underlying22 size2 (by show min f 0 = 0; omega)
    have HFin : Hid (CopyPost w q (over Q.R f old) (.returned (.tuple #[])) (w4.drewN 1)) := Lib.hid ⟨⟨_, rfl⟩, grown_trans (grown_any HG3.out _) (grown_trans HG4.out (grown_drewN _ 1 _)), by rw [← hfin]; exact HQ4.out⟩
    clear hfin hsl
    refine region_tail 12 (by kernel_rfl) (by kernel_rfl) ?_
    intro w5 hw5
    have X5 := HX4.out.kept (grown_drewN w4 1 none)
    rw [← hw5] at HFin X5
    have g1 := X5.c1
    have g2 := X5.c2
    unfold ringV at g1
    dsimp only at g1
    rw [HN.out] at g1
    rw [HF.out] at g2
    clear X5 hw5
    simp only [List.take_succ_cons, List.take_zero, List.drop_succ_cons, List.drop_zero]
    repeat still_step
    refine wpStill_nil ?_
    go_wp2_with fail
    go_end0
    exact ⟨⟨_, rfl⟩, HFin.out.2⟩
  · have hkk2 : kk = n - f := by rw [← hkk.out]; have := hkk.out; omega
    have hl2 : ((Q.R.take f).take (m - kk)).length = min f (m - kk) := by rw [List.length_take, List.length_take, HN.out]; omega
    have hq4 : (w4.drewN 1).heap[q]? = some (.cells s1.toArray 2 (0, 0)) := HQ4.out
    have hr2 := fun ty c c' => run_copy_row (P := Try.prog) (w4.drewN 1) 22 22 ty 2 q kk (m - kk) c ⟨g, 0, none⟩ f c' s1.toArray 2 ((Q.R.take f).take (m - kk)) Try.underlying22 size2 hq4 hl2 (fun j v hv => by
      have := HX4.out.rc j
      rw [List.getElem?_take] at hv
      split at hv
      · rw [List.getElem?_take] at hv
        split at hv
        · rw [hv] at this
          rw [Addr.add_mid, Nat.zero_add]
          exact this
        · cases hv
      · cases hv) (by rw [hl2]; simp; omega) (fun v hv => H1.out v (List.mem_of_mem_take (List.mem_of_mem_take hv)))
    rw [hl2] at hr2
    have hfin : s1.toArray.toList.take kk ++ (Q.R.take f).take (m - kk) ++ s1.toArray.toList.drop (kk + min f (m - kk)) = over Q.R f old := by
      have hol := HM.out
      have e1 : (Q.R.drop f).take m = Q.R.drop f := List.take_of_length_le (by rw [List.length_drop, HN.out]; omega)
      have e2 : s1 = Q.R.drop f ++ old.drop kk := by rw [← hs1.out, e1]; simp
      have e3 : (Q.R.drop f).length = kk := by rw [List.length_drop, HN.out, hkk2]
      have e4 : s1.take kk = Q.R.drop f := by rw [e2, List.take_append_of_le_length (by omega), List.take_of_length_le (by omega)]
      have e5 : s1.drop (kk + min f (m - kk)) = old.drop n := by
        rw [e2, List.drop_append, List.drop_of_length_le (by omega), List.nil_append, e3, List.drop_drop]
        by_cases h : f ≤ m - kk
        · congr 1; omega
        · rw [List.drop_of_length_le (by omega), List.drop_of_length_le (by omega)]
      show s1.take kk ++ (Q.R.take f).take (m - kk) ++ s1.drop (kk + min f (m - kk)) = over Q.R f old
      rw [e4, e5]
      unfold over rotl
      rw [HM.out, HN.out, List.take_append, List.take_of_length_le (show (Q.R.drop f).length ≤ m by omega), e3]
    rw [hfin] at hr2
    have HFin : Hid (CopyPost w q (over Q.R f old) (.returned (.tuple #[])) ((w4.drewN 1).setRow q (over Q.R f old).toArray)) := Lib.hid ⟨⟨_, rfl⟩, grown_trans (grown_any HG3.out _) (grown_trans HG4.out (grown_trans (grown_drewN _ 1 _) (grown_setRow _))), setRow_same hq4⟩
    have j2 : ¬ (m : Int) = (kk : Int) := by omega
    clear hfin hsl hl2 hq4 hkk2
    refine region_tail 12 (by kernel_rfl) (by kernel_rfl) ?_
    intro w5 hw5
    have X5 := HX4.out.kept (grown_drewN w4 1 none)
    rw [← hw5] at HFin X5 hr2
    have g1 := X5.c1
    have g2 := X5.c2
    unfold ringV at g1
    dsimp only at g1
    rw [HN.out] at g1
    rw [HF.out] at g2
    clear X5 hw5
    simp only [List.take_succ_cons, List.take_zero, List.drop_succ_cons, List.drop_zero]
    repeat still_step
    refine wpStill_nil ?_
    go_wp2_with fail
    go_end0
    exact ⟨⟨_, rfl⟩, HFin.out.2⟩
end
end Go.Proofs.Ytcphbendmnmpiaa
