/-
  New: chains whose lists are empty.
-/
import Derived.Test.YtmjccpgkgkindaaEnter
import Derived.Deep.OwnRows
namespace Go.Proofs.Ytmjccpgkgkindaa
open Go.ChangeShapes Go.WideShapes Go.ChangeAt Go.RowKit
set_option linter.unusedVariables false

theorem info_parts {P : Program} {t : TypeId} {z : Value} {s b : Nat} (h : (P.info? t).map (fun i => (i.zero, i.size, i.bytes)) = some (some z, s, b)) : ∃ i, P.info? t = some i ∧ i.zero = some z ∧ i.size = s ∧ i.bytes = b := by
  obtain ⟨i, hi, hz⟩ := Option.map_eq_some_iff.1 h
  simp only [Prod.mk.injEq] at hz
  exact ⟨i, hi, hz.1, hz.2.1, hz.2.2⟩
theorem info69 : (Try.prog.info? 69).map (fun i => (i.zero, i.size, i.bytes)) = some (some (.agg #[.int .i32 0, .int .i32 0, .int .i64 0, .bool false]), 4, 24) := by kernel_rfl
theorem info3 : (Try.prog.info? 3).map (fun i => (i.zero, i.size, i.bytes)) = some (some (.int .i64 0), 1, 8) := by kernel_rfl
def zcells : Array Value := #[.int .i32 0, .int .i32 0, .int .i64 0, .bool false]
theorem make63 (L : Nat) (hL : L ≤ 70000) (w : World) : (Instr.makeSlice 63 (.int .i64 (L : Int)) (.int .i64 (L : Int))).run Try.prog w = .ok (.slice (some ⟨w.heap.size, 0, none⟩) L L) (w.alloc (.cells (madeCells zcells (L * 4)) 69)) := by
  obtain ⟨i, hi, hz, hs, hb⟩ := info_parts info69
  have hr := run_make (P := Try.prog) w 63 69 i _ Try.underlying63 hi hz .i64 .i64 L L (by omega) (Int.le_refl _) (by rw [hb]; omega) (by omega)
  rw [hr, hs, Int.toNat_natCast]; rfl
theorem made_at (L i t : Nat) (hi : i < L) (ht : t < 4) : (madeCells zcells (L * 4))[i * 4 + t]? = zlk.cells[t]? := by
  have h1 : i * 4 + t < L * 4 := by omega
  have h2 : (i * 4 + t) % 4 = t := by omega
  have hs : zcells.size = 4 := rfl
  unfold madeCells
  rw [Array.getElem?_map, hs]
  rw [show (Array.range (L * 4))[i * 4 + t]? = some (i * 4 + t) by simp [h1]]
  simp only [Option.map_some, h2]
  match t, ht with
  | 0, _ => rfl
  | 1, _ => rfl
  | 2, _ => rfl
  | 3, _ => rfl
theorem links_made {w : World} {g L : Nat} (h : w.heap[g]? = some (.cells (madeCells zcells (L * 4)) 69 (0, 0))) : LinksAt w g L (fun _ => zlk) :=
  ⟨_, h, size_madeCells _ _, fun i t hi ht => made_at L i t hi ht⟩
theorem lens_made {w : World} {g M : Nat} (h : w.heap[g]? = some (.cells (madeCells #[.int .i64 0] M) 3 (0, 0))) : LensAt w g M (fun _ => 0) :=
  ⟨_, h, size_madeCells _ _, fun i hi => by
    have := toList_madeCells_one (Value.int .i64 0) M
    rw [← Array.getElem?_toList, this, List.getElem?_replicate, if_pos hi]; rfl⟩
theorem new_no (n m : Int) (w : World) (h : n < 0 ∨ 65536 < n ∨ m < 1 ∨ 8 < m) :
    Calls Try.prog 7 #[.int .i64 n, .int .i64 m] w fun e w' => e = .returned (.tuple #[.pointer none, .int .i64 1]) ∧ w = w' := by
  by_cases h1 : n < 0
  · have hd1 : decide (n < 0) = true := by simp; omega
    go_enter Try.func7, Try.ntmps7
    go_wp2
    go_ret2
    exact ⟨rfl, rfl⟩
  · have hd1 : decide (n < 0) = false := by simp; omega
    by_cases h2 : 65536 < n
    · have hd2 : decide (65536 < n) = true := by simp; omega
      go_enter Try.func7, Try.ntmps7
      go_wp2
      go_ret2
      exact ⟨rfl, rfl⟩
    · have hd2 : decide (65536 < n) = false := by simp; omega
      by_cases h3 : m < 1
      · have hd3 : decide (m < 1) = true := by simp; omega
        go_enter Try.func7, Try.ntmps7
        go_wp2
        go_ret2
        exact ⟨rfl, rfl⟩
      · have hd3 : decide (m < 1) = false := by simp; omega
        have hd4 : decide (8 < m) = true := by simp; omega
        go_enter Try.func7, Try.ntmps7
        go_wp2
        go_ret2
        exact ⟨rfl, rfl⟩
/-- the heads of the first k lists are laid -/
def headLk (N k : Nat) : Nat → Lk := fun j => if N ≤ j ∧ j < N + k then ⟨j, j, j - N, false⟩ else zlk
theorem headLk_succ (N k : Nat) : put (headLk N k) (N + k) ⟨N + k, N + k, k, false⟩ = headLk N (k + 1) := by
  funext j
  unfold put headLk
  by_cases hj : j = N + k
  · subst hj; rw [if_pos rfl, if_pos (by omega), Nat.add_sub_cancel_left]
  · rw [if_neg hj]
    by_cases h2 : N ≤ j ∧ j < N + k
    · rw [if_pos h2, if_pos (by omega)]
    · rw [if_neg h2, if_neg (by omega)]
/-- three new blocks -/
theorem alloc3 (w : World) (o0 o1 o2 : Obj) : w.grownBy (((w.alloc o0).alloc o1).alloc o2) none ∧ (((w.alloc o0).alloc o1).alloc o2).heap.size = w.heap.size + 3 ∧
    (((w.alloc o0).alloc o1).alloc o2).heap[w.heap.size]? = some o0 ∧ (((w.alloc o0).alloc o1).alloc o2).heap[w.heap.size + 1]? = some o1 ∧ (((w.alloc o0).alloc o1).alloc o2).heap[w.heap.size + 2]? = some o2 := by
  have e : (((w.alloc o0).alloc o1).alloc o2).heap.toList = w.heap.toList ++ [o0, o1, o2] := by simp only [World.alloc, Array.toList_push, List.append_assoc, List.cons_append, List.nil_append]
  have g : ∀ (i : Nat) (o : Obj), [o0, o1, o2][i]? = some o → (((w.alloc o0).alloc o1).alloc o2).heap[w.heap.size + i]? = some o := fun i o h => by
    rw [← Array.getElem?_toList, e, List.getElem?_append_right (by rw [Array.length_toList]; omega), Array.length_toList, Nat.add_sub_cancel_left]; exact h
  exact ⟨grown_trans (grown_trans (World.grownBy_alloc _ _ none) (World.grownBy_alloc _ _ none)) (World.grownBy_alloc _ _ none), by simp only [World.size_alloc], g 0 _ rfl, g 1 _ rfl, g 2 _ rfl⟩
set_option maxHeartbeats 1000000 in
theorem new_raw (N M : Nat) (w : World) (hN : N ≤ 65536) (hM1 : 1 ≤ M) (hM8 : M ≤ 8) :
    Calls Try.prog 7 #[.int .i64 (N : Int), .int .i64 (M : Int)] w fun e w' => ∃ gL gN, e = .returned (.tuple #[.pointer (some ⟨w.heap.size + 2, 0, none⟩), .int .i64 0]) ∧ Mem w' w.heap.size (w.heap.size + 2) N M gL gN (headLk N M) (fun _ => 0) ∧ w.grownBy w' none := by
  have hd1 : decide ((N : Int) < 0) = false := by simp
  have hd2 : decide (65536 < (N : Int)) = false := by simp; omega
  have hd3 : decide ((M : Int) < 1) = false := by simp; omega
  have hd4 : decide (8 < (M : Int)) = false := by simp; omega
  obtain ⟨L, HL⟩ : ∃ L, Hid (N + M = L) := ⟨_, Lib.hid rfl⟩
  have hNM : (N : Int) + (M : Int) = (L : Int) := by rw [← HL.out]; omega
  have hmk1 := make63 L (by rw [← HL.out]; omega)
  have hmk2 := run_make_row' (P := Try.prog) 64 3 (.int .i64 0) 8 Try.underlying64 info3 rfl .i64 .i64 M (by omega) (by omega)
  go_enter Try.func7, Try.ntmps7
  go_wp2_with fail
  go_region
  · obtain ⟨hg, hz, b0, b1, b2⟩ := alloc3 w (.cells (madeCells zcells (L * 4)) 69) (.cells (madeCells #[.int .i64 0] M) 3) (.cells #[.int .i64 (N : Int), .slice (some ⟨w.heap.size, 0, none⟩) L L, .slice (some ⟨w.heap.size + 1, 0, none⟩) M M] 66)
    have hg : w.grownBy (((w.alloc (.cells (madeCells zcells (L * 4)) 69)).alloc (.cells (madeCells #[.int .i64 0] M) 3)).alloc (.cells #[.int .i64 (N : Int), .slice (some ⟨w.heap.size, 0, none⟩) L L, .slice (some ⟨w.heap.size + 1, 0, none⟩) M M] 66)).drew none := grown_trans hg (grown_drewN _ 1 none)
    have b2' : (((w.alloc (.cells (madeCells zcells (L * 4)) 69)).alloc (.cells (madeCells #[.int .i64 0] M) 3)).alloc (.cells #[.int .i64 (N : Int), .slice (some ⟨w.heap.size, 0, none⟩) L L, .slice (some ⟨w.heap.size + 1, 0, none⟩) M M] 66)).drew.heap[w.heap.size + 2]? = some (.cells #[.int .i64 (N : Int), .slice (some ⟨w.heap.size, 0, none⟩) (N + M) (N + M), .slice (some ⟨w.heap.size + 1, 0, none⟩) M M] 66 (0, 0)) := by rw [HL.out]; exact b2
    have HM0 : Hid (Mem (((w.alloc (.cells (madeCells zcells (L * 4)) 69)).alloc (.cells (madeCells #[.int .i64 0] M) 3)).alloc (.cells #[.int .i64 (N : Int), .slice (some ⟨w.heap.size, 0, none⟩) L L, .slice (some ⟨w.heap.size + 1, 0, none⟩) M M] 66)).drew w.heap.size (w.heap.size + 2) N M (w.heap.size) (w.heap.size + 1) (headLk N 0) (fun _ => 0)) := Lib.hid ⟨hN, hM8, by omega, by omega, by omega, b2', (links_made (g := w.heap.size) (L := N + M) (by rw [HL.out]; exact b0)).congr (fun i _ => by unfold headLk; rw [if_neg (by omega)]), lens_made (g := w.heap.size + 1) b1⟩
    have HG0 := Lib.hid hg
    clear hg hz b0 b1 b2 b2' hmk1 hmk2
    generalize (((w.alloc (.cells (madeCells zcells (L * 4)) 69)).alloc (.cells (madeCells #[.int .i64 0] M) 3)).alloc (.cells #[.int .i64 (N : Int), .slice (some ⟨w.heap.size, 0, none⟩) L L, .slice (some ⟨w.heap.size + 1, 0, none⟩) M M] 66)).drew = w0 at *
    obtain ⟨gL, gN, HlL, HM0⟩ : ∃ gL gN, Hid (w.heap.size ≤ gL ∧ w.heap.size ≤ gN) ∧ Hid (Mem w0 w.heap.size (w.heap.size + 2) N M gL gN (headLk N 0) (fun _ => 0)) := ⟨_, _, Lib.hid ⟨HM0.out.llo, HM0.out.nlo⟩, HM0⟩
    go_wp2_with fail
    go_loopw [33] (fun k wr => ∃ k' : Nat, k' ≤ M ∧ k = .int .i64 (k' : Int) ∧ Hid (Mem wr w.heap.size (w.heap.size + 2) N M gL gN (headLk N k') (fun _ => 0)) ∧ Hid (w.grownBy wr none)) (fun k _ => M - (intOf k).toNat)
    case atStart => exact ⟨0, by omega, by go_num, HM0, HG0⟩
    case round =>
      obtain ⟨k, hk, rfl, HM1, HG1⟩ := hrel
      by_cases hlt : k < M
      · have hc := head_at (w.heap.size + 2) N k wr hN (by omega) HM1.out.nodes0
        have h1 := HM1.out.links1
        rw [HL.out] at h1
        have hhL : N + k < L := by rw [← HL.out]; omega
        have HhM : Hid (N + k < N + M) := Lib.hid (by omega)
        have HE := Lib.hid (headLk_succ N k)
        obtain ⟨hd, Hhd⟩ : ∃ hd, Hid (N + k = hd) := ⟨_, Lib.hid rfl⟩
        rw [Hhd.out] at hc hhL HhM HE
        have HC := Lib.hid hc
        clear hc HG0 HM0
        go_wp2_with (first | (go_at_call 30; refine HC.out.mono ?_; rintro e w' ⟨rfl, rfl⟩) | (refine store_link HM1.out hd hd hd k false HhM.out rfl _ _ rfl rfl rfl size69 ?_; intro w2 hm2 hk2; have HM2 := Lib.hid hm2; have HG2 := Lib.hid (Kp.grown HG1.out hk2 HlL.out.1 HlL.out.2); clear hm2 hk2))
        go_roundw
        case rel => exact ⟨k + 1, by omega, by go_num, Lib.hid (by rw [← HE.out]; exact HM2.out), HG2⟩
        case measure => simp [intOf]; omega
      · obtain rfl : k = M := by omega
        clear HM0 HG0
        go_wp2
        go_ret2
        exact ⟨gL, gN, rfl, HM1.out, HG1.out⟩
  · obtain ⟨hg, hz, b0, b1, b2⟩ := alloc3 w (.cells (madeCells #[.int .i64 0] M) 3) (.cells (madeCells zcells (L * 4)) 69) (.cells #[.int .i64 (N : Int), .slice (some ⟨w.heap.size + 1, 0, none⟩) L L, .slice (some ⟨w.heap.size, 0, none⟩) M M] 66)
    have hg : w.grownBy (((w.alloc (.cells (madeCells #[.int .i64 0] M) 3)).alloc (.cells (madeCells zcells (L * 4)) 69)).alloc (.cells #[.int .i64 (N : Int), .slice (some ⟨w.heap.size + 1, 0, none⟩) L L, .slice (some ⟨w.heap.size, 0, none⟩) M M] 66)).drew none := grown_trans hg (grown_drewN _ 1 none)
    have b2' : (((w.alloc (.cells (madeCells #[.int .i64 0] M) 3)).alloc (.cells (madeCells zcells (L * 4)) 69)).alloc (.cells #[.int .i64 (N : Int), .slice (some ⟨w.heap.size + 1, 0, none⟩) L L, .slice (some ⟨w.heap.size, 0, none⟩) M M] 66)).drew.heap[w.heap.size + 2]? = some (.cells #[.int .i64 (N : Int), .slice (some ⟨w.heap.size + 1, 0, none⟩) (N + M) (N + M), .slice (some ⟨w.heap.size, 0, none⟩) M M] 66 (0, 0)) := by rw [HL.out]; exact b2
    have HM0 : Hid (Mem (((w.alloc (.cells (madeCells #[.int .i64 0] M) 3)).alloc (.cells (madeCells zcells (L * 4)) 69)).alloc (.cells #[.int .i64 (N : Int), .slice (some ⟨w.heap.size + 1, 0, none⟩) L L, .slice (some ⟨w.heap.size, 0, none⟩) M M] 66)).drew w.heap.size (w.heap.size + 2) N M (w.heap.size + 1) (w.heap.size) (headLk N 0) (fun _ => 0)) := Lib.hid ⟨hN, hM8, by omega, by omega, by omega, b2', (links_made (g := w.heap.size + 1) (L := N + M) (by rw [HL.out]; exact b1)).congr (fun i _ => by unfold headLk; rw [if_neg (by omega)]), lens_made (g := w.heap.size) b0⟩
    have HG0 := Lib.hid hg
    clear hg hz b0 b1 b2 b2' hmk1 hmk2
    generalize (((w.alloc (.cells (madeCells #[.int .i64 0] M) 3)).alloc (.cells (madeCells zcells (L * 4)) 69)).alloc (.cells #[.int .i64 (N : Int), .slice (some ⟨w.heap.size + 1, 0, none⟩) L L, .slice (some ⟨w.heap.size, 0, none⟩) M M] 66)).drew = w0 at *
    obtain ⟨gL, gN, HlL, HM0⟩ : ∃ gL gN, Hid (w.heap.size ≤ gL ∧ w.heap.size ≤ gN) ∧ Hid (Mem w0 w.heap.size (w.heap.size + 2) N M gL gN (headLk N 0) (fun _ => 0)) := ⟨_, _, Lib.hid ⟨HM0.out.llo, HM0.out.nlo⟩, HM0⟩
    go_wp2_with fail
    go_loopw [33] (fun k wr => ∃ k' : Nat, k' ≤ M ∧ k = .int .i64 (k' : Int) ∧ Hid (Mem wr w.heap.size (w.heap.size + 2) N M gL gN (headLk N k') (fun _ => 0)) ∧ Hid (w.grownBy wr none)) (fun k _ => M - (intOf k).toNat)
    case atStart => exact ⟨0, by omega, by go_num, HM0, HG0⟩
    case round =>
      obtain ⟨k, hk, rfl, HM1, HG1⟩ := hrel
      by_cases hlt : k < M
      · have hc := head_at (w.heap.size + 2) N k wr hN (by omega) HM1.out.nodes0
        have h1 := HM1.out.links1
        rw [HL.out] at h1
        have hhL : N + k < L := by rw [← HL.out]; omega
        have HhM : Hid (N + k < N + M) := Lib.hid (by omega)
        have HE := Lib.hid (headLk_succ N k)
        obtain ⟨hd, Hhd⟩ : ∃ hd, Hid (N + k = hd) := ⟨_, Lib.hid rfl⟩
        rw [Hhd.out] at hc hhL HhM HE
        have HC := Lib.hid hc
        clear hc HG0 HM0
        go_wp2_with (first | (go_at_call 30; refine HC.out.mono ?_; rintro e w' ⟨rfl, rfl⟩) | (refine store_link HM1.out hd hd hd k false HhM.out rfl _ _ rfl rfl rfl size69 ?_; intro w2 hm2 hk2; have HM2 := Lib.hid hm2; have HG2 := Lib.hid (Kp.grown HG1.out hk2 HlL.out.1 HlL.out.2); clear hm2 hk2))
        go_roundw
        case rel => exact ⟨k + 1, by omega, by go_num, Lib.hid (by rw [← HE.out]; exact HM2.out), HG2⟩
        case measure => simp [intOf]; omega
      · obtain rfl : k = M := by omega
        clear HM0 HG0
        go_wp2
        go_ret2
        exact ⟨gL, gN, rfl, HM1.out, HG1.out⟩
end Go.Proofs.Ytmjccpgkgkindaa
