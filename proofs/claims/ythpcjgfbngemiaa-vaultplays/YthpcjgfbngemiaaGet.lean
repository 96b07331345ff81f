/-
  The value of a number; a number for a new block.
-/
import Derived.Test.YthpcjgfbngemiaaFind
namespace Go.Proofs.Ythpcjgfbngemiaa
open Go.ChangeShapes Go.WideShapes Go.ChangeAt Go.RowKit
set_option linter.unusedVariables false
set_option maxRecDepth 100000
section
variable {w : World} {lo b : Nat} {h : Hd} {V : Vl}
/-- what Get tells of a value -/
def GetPost (w : World) (n : Nat) (xs : List Int) (e : Ending) (w' : World) : Prop := ∃ A c, e = .returned (.tuple #[.slice A n c, .bool true]) ∧ w'.ownsRow w.heap.size 5 1 (.slice A n c) n (rvals benc xs) ∧ w.grownBy w' none
set_option maxHeartbeats 400000 in
theorem get_no (x : VAt w lo b h V) (hn : V.bk.length ≤ 1000000) (i : Int) (hi : i < 0 ∨ (V.bk.length : Int) ≤ i ∨ ∃ (k : Nat) (p : Int × Int × Int), i = (k : Int) ∧ V.bk[k]? = some p ∧ p.1 = -1) :
    Calls Try.prog 15 #[.pointer (some ⟨b, 0, none⟩), .int .i64 i] w fun e w' => e = .returned (.tuple #[.slice none 0 0, .bool false]) ∧ w.grownBy w' none := by
  have HF := Lib.hid (find_no x hn i hi)
  clear x hn hi
  unfold blkV at HF
  dsimp only at HF
  go_enter Try.func15, Try.ntmps15
  go_wp2_with fail
  refine HF.out.mono ?_
  rintro e w1 ⟨rfl, hg1⟩
  have HG1 := Lib.hid (grown_trans hg1 (World.grownBy_alloc w1 (.cells #[.int .i64 0, .int .i64 0, .int .i64 0] 59) none))
  clear hg1 HF
  go_wp2
  go_ret2
  exact ⟨rfl, HG1.out⟩
theorem get_nil (i : Int) (w : World) : Calls Try.prog 15 #[.pointer none, .int .i64 i] w fun e w' => e = .returned (.tuple #[.slice none 0 0, .bool false]) ∧ w.grownBy w' none := by
  have HF := Lib.hid (find_nil i w)
  unfold blkV at HF
  dsimp only at HF
  go_enter Try.func15, Try.ntmps15
  go_wp2_with fail
  refine HF.out.mono ?_
  rintro e w1 ⟨rfl, hg1⟩
  have HG1 := Lib.hid (grown_trans hg1 (World.grownBy_alloc w1 (.cells #[.int .i64 0, .int .i64 0, .int .i64 0] 59) none))
  clear hg1 HF
  go_wp2
  go_ret2
  exact ⟨rfl, HG1.out⟩
set_option maxHeartbeats 400000 in
theorem get_yes (x : VAt w lo b h V) (hn : V.bk.length ≤ 1000000) {i a m : Nat} {p : Int} (hi : V.bk[i]? = some (p, (a : Int), (m : Int))) (hp : p ≠ -1) (ham : a + m ≤ V.bs.length) (hb6 : V.bs.length ≤ 1048576) (h0 : m = 0 → a = 0) :
    Calls Try.prog 15 #[.pointer (some ⟨b, 0, none⟩), .int .i64 (i : Int)] w (GetPost w m ((V.bs.drop a).take m)) := by
  have HF := Lib.hid (find_yes x hn hi hp)
  unfold blkV at HF
  dsimp only at HF
  have HX := Lib.hid x
  clear x hi hp hn
  obtain ⟨A, c, e⟩ := owns_slice HX.out.rB
  have HE := Lib.hid e
  obtain ⟨n, HN⟩ : ∃ n, Hid (V.bs.length = n) := ⟨_, Lib.hid rfl⟩
  rw [HN.out] at ham hb6
  clear e
  go_enter Try.func15, Try.ntmps15
  go_wp2_with fail
  refine HF.out.mono ?_
  rintro e w1 ⟨rfl, hg1⟩
  have hga := World.grownBy_alloc w1 (.cells #[.int .i64 p, .int .i64 (a : Int), .int .i64 (m : Int)] 59) none
  have hb := heap_alloc_new w1 (.cells #[.int .i64 p, .int .i64 (a : Int), .int .i64 (m : Int)] 59)
  have HG1 := Lib.hid (grown_trans hg1 hga)
  have HB := Lib.hid hb
  clear hg1 HF hga hb
  go_wp2_with fail
  generalize w1.alloc (.cells #[.int .i64 p, .int .i64 (a : Int), .int .i64 (m : Int)] 59) = w2 at *
  refine region_tail 12 (by kernel_rfl) (by kernel_rfl) ?_
  intro w3 hw3
  have HG3 : Hid (w.grownBy w3 none) := Lib.hid (by rw [hw3]; exact grown_trans HG1.out (grown_drewN w2 1 none))
  have HB3 : Hid (w3.heap[w1.heap.size]? = some (.cells #[.int .i64 p, .int .i64 (a : Int), .int .i64 (m : Int)] 59 (0, 0))) := Lib.hid (by rw [hw3]; exact HB.out)
  have HX3 := Lib.hid (HX.out.kept HG3.out)
  clear hw3 HB HG1
  have c1 := HX3.out.c1
  rw [HE.out, HN.out] at c1
  have z1 := cell_of_head HB3.out 1
  have z2 := cell_of_head HB3.out 2
  have hr := HX3.out.rB
  rw [HE.out, HN.out] at hr
  have hcap := owns_cap hr
  have k0 : (0 : Int) ≤ (a : Int) := by omega
  have k1 : (a : Int) ≤ (a : Int) + (m : Int) := by omega
  have k2 : (a : Int) + (m : Int) ≤ (c : Int) := by omega
  have k3 : IntKind.i64.wrap ((a : Int) + (m : Int)) = (a : Int) + (m : Int) := by rw [IntKind.wrap_i64]; omega
  have k4 : (a : Int) ≤ (c : Int) := by omega
  have k5 : (0 : Int) ≤ (a : Int) + (m : Int) := by omega
  simp only [List.take_succ_cons, List.take_zero, List.drop_succ_cons, List.drop_zero]
  have HXL : Hid ((rvals benc ((V.bs.drop a).take m)).length = m) := Lib.hid (by rw [rvals_len benc_len, List.length_take, List.length_drop, HN.out]; omega)
  cases A with
  | none =>
    rcases hr.2 with ⟨e, hn0⟩ | ⟨_, _, _, e, _⟩
    · injection e with _ _ e
      subst e
      subst hn0
      obtain rfl : m = 0 := by omega
      obtain rfl : a = 0 := by omega
      have HC := Lib.hid (clone_nil w3)
      have y1 : w3.cell? ⟨w1.heap.size, 1, none⟩ = some (.int .i64 0) := z1
      have y2 : w3.cell? ⟨w1.heap.size, 2, none⟩ = some (.int .i64 0) := z2
      have y3 : IntKind.i64.wrap 0 = 0 := by rw [IntKind.wrap_i64]; omega
      clear hr hcap k0 k1 k2 k3 k4 k5 z1 z2
      repeat still_step
      refine wpStill_nil ?_
      go_wp2_with fail
      refine HC.out.mono ?_
      rintro e w4 ⟨A4, c4, rfl, ho4, hg4⟩
      have HFin : Hid (GetPost w 0 ((V.bs.drop 0).take 0) (.returned (.tuple #[.slice A4 0 c4, .bool true])) w4) := Lib.hid ⟨A4, c4, rfl, owns_base (by simpa [rvals] using ho4) HG3.out.size, grown_trans HG3.out hg4⟩
      clear ho4 hg4
      go_wp2
      go_ret2
      exact HFin.out
    · simp at e
  | some ad =>
    obtain ⟨g, rfl⟩ : ∃ g, ad = ⟨g, 0, none⟩ := by
      rcases hr.2 with ⟨e, hn0⟩ | ⟨g, _, _, e, _⟩
      · simp at e
      · injection e with e; injection e with e; exact ⟨g, e⟩
    have hcl : ∀ c', Calls Try.prog 31 #[.slice (some ⟨g, a, none⟩) m c'] w3 (ClonePost w3 m (rvals benc ((V.bs.drop a).take m))) := fun c' => clone_at w3 g a m c' _ HXL.out (fun j u hu => by
      have hj : j < m := by have := (List.getElem?_eq_some_iff.1 hu).1; rw [HXL.out] at this; exact this
      have hc := hr.cellAt (a + j) (by omega)
      rw [hc, ← hu]
      have e1 := rvals_take benc_len (V.bs.drop a) m
      have e2 := rvals_drop benc_len V.bs a
      rw [e1, e2, List.getElem?_take, if_pos (by omega), List.getElem?_drop]
      congr 1; omega) (rvals_one benc_one _) (by omega)
    have HCL := Lib.hid hcl
    have e9 : a + m - a = m := by omega
    clear hr hcl
    by_cases hca : c = a
    · obtain rfl : m = 0 := by omega
      obtain rfl : a = 0 := h0 rfl
      subst hca
      have y1 : w3.cell? ⟨w1.heap.size, 1, none⟩ = some (.int .i64 0) := z1
      have y2 : w3.cell? ⟨w1.heap.size, 2, none⟩ = some (.int .i64 0) := z2
      have y3 : IntKind.i64.wrap 0 = 0 := by rw [IntKind.wrap_i64]; omega
      clear k0 k1 k2 k3 k4 k5 z1 z2
      repeat still_step
      refine wpStill_nil ?_
      go_wp2_with fail
      refine (HCL.out _).mono ?_
      rintro e w4 ⟨A4, c4, rfl, ho4, hg4⟩
      have HFin : Hid (GetPost w 0 ((V.bs.drop 0).take 0) (.returned (.tuple #[.slice A4 0 c4, .bool true])) w4) := Lib.hid ⟨A4, c4, rfl, owns_base ho4 HG3.out.size, grown_trans HG3.out hg4⟩
      clear ho4 hg4
      go_wp2
      go_ret2
      exact HFin.out
    · have k6 : ¬ (c : Int) = (a : Int) := by omega
      repeat still_step
      refine wpStill_nil ?_
      go_wp2_with fail
      rw [e9]
      refine (HCL.out _).mono ?_
      rintro e w4 ⟨A4, c4, rfl, ho4, hg4⟩
      have HFin : Hid (GetPost w m ((V.bs.drop a).take m) (.returned (.tuple #[.slice A4 m c4, .bool true])) w4) := Lib.hid ⟨A4, c4, rfl, owns_base ho4 HG3.out.size, grown_trans HG3.out hg4⟩
      clear ho4 hg4
      go_wp2
      go_ret2
      exact HFin.out
end
end Go.Proofs.Ythpcjgfbngemiaa
