/-
  A new set; a copy of a set; the document's example.
-/
import Derived.Test.YtjdapbianbikpaaDoorStore
import Derived.Test.YtjdapbianbikpaaDoorNext
import Derived.Deep.OwnRows
import Derived.Laws.OwnMore
namespace Go.Proofs.YtjdapbianbikpaaDoor
open Go.ChangeShapes Go.WideShapes Go.ChangeAt Go.RowKit
set_option linter.unusedVariables false

theorem new_no (n : Int) (w : World) (h : n < 0 ∨ 65536 < n) :
    Calls Tryd.prog 7 #[.int .i64 n] w fun e w' => e = .returned (.tuple #[.pointer none, .int .i64 1]) ∧ w = w' := by
  by_cases h0 : n < 0
  · have hd : decide (n < 0) = true := by simp [h0]
    go_enter Tryd.func7, Tryd.ntmps7
    go_wp2
    go_ret2
    exact ⟨rfl, rfl⟩
  · have hd : decide (n < 0) = false := by simp; omega
    have hd2 : decide (65536 < n) = true := by simp; omega
    go_enter Tryd.func7, Tryd.ntmps7
    go_wp2
    go_ret2
    exact ⟨rfl, rfl⟩
theorem info51 : (Tryd.prog.info? 51).map (fun i => (i.zero, i.size, i.bytes)) = some (some (.int .u64 0), 1, 8) := by kernel_rfl
/-- the world behind New -/
def newW (w : World) (n L : Nat) : World :=
  (w.alloc (.cells (madeCells #[.int .u64 0] L) 51)).alloc (.cells #[.int .i64 (n : Int), .slice (some ⟨w.heap.size, 0, none⟩) L L] 49)
set_option maxHeartbeats 400000 in
theorem new_raw (n L : Nat) (w : World) (h : n ≤ 65536) (hL : ((n : Int) + 64 - 1) / 64 = (L : Int)) :
    Calls Tryd.prog 7 #[.int .i64 (n : Int)] w fun e w' => e = .returned (.tuple #[.pointer (some ⟨w.heap.size + 1, 0, none⟩), .int .i64 0]) ∧ w' = newW w n L := by
  have hd : decide ((n : Int) < 0) = false := by simp
  have hd2 : decide (65536 < (n : Int)) = false := by simp; omega
  have hLn : L ≤ 1024 := by omega
  have hmk := run_make_row' (P := Tryd.prog) 47 51 (.int .u64 0) 8 Tryd.underlying47 info51 rfl .i64 .i64 L (by omega) (by omega)
  go_enter Tryd.func7, Tryd.ntmps7
  go_wp2
  go_ret2
  exact ⟨rfl, rfl⟩
theorem newW_at (w : World) (n L : Nat) (h : n ≤ 65536) (hL : L = (n + 63) / 64) : SetAt (newW w n L) (w.heap.size + 1) w.heap.size L n (List.replicate L 0) := by
  have hwd : ∀ k, wd (List.replicate L 0) k = 0 := by
    intro k; unfold wd; rw [List.getElem?_replicate]; split <;> rfl
  have hm : ∀ i, mem (List.replicate L 0) i = false := by
    intro i; unfold mem; rw [hwd, Nat.zero_testBit]
  have hsz : (newW w n L).heap.size = w.heap.size + 2 := by simp [newW]
  have hb : (newW w n L).heap[w.heap.size + 1]? = some (.cells #[.int .i64 (n : Int), .slice (some ⟨w.heap.size, 0, none⟩) L L] 49) := by
    have := heap_alloc_new (w.alloc (.cells (madeCells #[.int .u64 0] L) 51)) (.cells #[.int .i64 (n : Int), .slice (some ⟨w.heap.size, 0, none⟩) L L] 49)
    rwa [World.size_alloc] at this
  have hg : (newW w n L).heap[w.heap.size]? = some (.cells (madeCells #[.int .u64 0] L) 51) :=
    (Below.heap_alloc _ _ _ (by simp)).trans (heap_alloc_new w _)
  have hmc : ∀ k, k < L → (madeCells #[Value.int .u64 0] L)[k]? = some (.int .u64 0) := by
    intro k hk
    have := toList_madeCells_one (Value.int .u64 0) L
    rw [← Array.getElem?_toList, this, List.getElem?_replicate, if_pos hk]
  refine ⟨h, by simpa using hL, by simp, by unfold maxLen; omega, fun k => by rw [hwd]; decide, fun i _ => hm i, by omega, by omega, by omega, ?_, ?_, ?_, ?_⟩
  · simp [World.cell?, hb]
  · simp [World.cell?, hb]
  · intro k hk
    rw [List.length_replicate] at hk
    rw [hwd]
    simp [World.cell?, hg, hmc k hk]
  · intro k hk
    simp [World.frozen?, hg]
def NewPost (w : World) (n : Nat) (e : Ending) (w' : World) : Prop :=
  e = .returned (.tuple #[.pointer (some ⟨w.heap.size + 1, 0, none⟩), .int .i64 0]) ∧ w.grownBy w' none ∧ w'.heap.size = w.heap.size + 2 ∧ IsSet w' (w.heap.size + 1) w.heap.size n (fun _ => false)
theorem new_at (n : Nat) (w : World) (h : n ≤ 65536) : Calls Tryd.prog 7 #[.int .i64 (n : Int)] w (NewPost w n) := by
  refine (new_raw n ((n + 63) / 64) w h (by omega)).mono ?_
  rintro e w' ⟨rfl, rfl⟩
  refine ⟨rfl, ?_, by simp [newW], _, _, newW_at w n _ h rfl, ?_⟩
  · exact grown_trans (World.grownBy_alloc _ _ none) (World.grownBy_alloc _ _ none)
  · funext i
    unfold mem wd
    rw [List.getElem?_replicate]
    split <;> exact Nat.zero_testBit _
theorem isNext_at (w : World) (b g n : Nat) (m : Nat → Bool) (i : Int) (h : IsSet w b g n m) (ht : Tab w) :
    Calls Tryd.prog 18 #[.pointer (some ⟨b, 0, none⟩), .int .i64 i] w fun e w' => e = .returned (.tuple #[.int .i64 (((nxt m n i.toNat).getD 0 : Nat) : Int), .bool (nxt m n i.toNat).isSome]) ∧ ∃ q, w' = w.drewN q := by
  obtain ⟨cap, ws, hs, rfl⟩ := h
  exact next_at w b g cap n ws i hs ht
theorem isRank_at (w : World) (b g n : Nat) (m : Nat → Bool) (i : Int) (h : IsSet w b g n m) :
    Calls Tryd.prog 17 #[.pointer (some ⟨b, 0, none⟩), .int .i64 i] w fun e w' => e = .returned (.int .i64 ((cn m (min i.toNat n) : Nat) : Int)) ∧ ∃ q, w' = w.drewN q := by
  obtain ⟨cap, ws, hs, rfl⟩ := h
  exact rank_at w b g cap n ws i hs
theorem isCount_at (w : World) (b g n : Nat) (m : Nat → Bool) (h : IsSet w b g n m) :
    Calls Tryd.prog 23 #[.pointer (some ⟨b, 0, none⟩)] w fun e w' => e = .returned (.int .i64 ((cn m n : Nat) : Int)) ∧ ∃ q, w' = w.drewN q := by
  obtain ⟨cap, ws, hs, rfl⟩ := h
  exact count_at w b g cap n ws hs
/-- the one of which k are below -/
def pck (m : Nat → Bool) (n : Nat) (k : Int) : Option Nat := if k < 0 then none else (els m n)[k.toNat]?
theorem isPick_at (w : World) (b g n : Nat) (m : Nat → Bool) (k : Int) (h : IsSet w b g n m) (ht : Tab w) (hk : k < 9223372036854775808) :
    Calls Tryd.prog 16 #[.pointer (some ⟨b, 0, none⟩), .int .i64 k] w fun e w' => e = .returned (.tuple #[.int .i64 (((pck m n k).getD 0 : Nat) : Int), .bool (pck m n k).isSome]) ∧ w = w' := by
  obtain ⟨cap, ws, hs, rfl⟩ := h
  exact pick_at w b g cap n ws k hs ht hk
theorem grown_new {a b c : World} {g : Nat} (h1 : a.grownBy b none) (h2 : b.grownBy c (some g)) (hg : a.heap.size ≤ g) : a.grownBy c none :=
  ⟨h2.os.trans h1.os, h2.tape.trans h1.tape, h2.output.trans h1.output, Nat.le_trans h1.size h2.size,
    fun k hk hr => (h2.block k (Nat.lt_of_lt_of_le hk h1.size) (by intro e; cases e; omega)).trans (h1.block k hk hr)⟩

/-! ### the document's example -/
def m1 : Nat → Bool := fun j => false || decide (0 ≤ (3 : Int) ∧ (3 : Int) < ((100 : Nat) : Int) ∧ j = (3 : Int).toNat)
def m2 : Nat → Bool := fun j => m1 j || decide (0 ≤ (70 : Int) ∧ (70 : Int) < ((100 : Nat) : Int) ∧ j = (70 : Int).toNat)
def m3 : Nat → Bool := fun j => m2 j || decide (0 ≤ (3 : Int) ∧ (3 : Int) < ((100 : Nat) : Int) ∧ j = (3 : Int).toNat)
theorem m3_next : nxt m3 100 4 = some 70 := by decide +kernel
theorem m3_count : cn m3 100 = 2 := by decide +kernel
theorem m3_rank : cn m3 70 = 1 := by decide +kernel
set_option maxHeartbeats 400000 in
theorem alive_any (w : World) (ht : Tab w) (h0 : 0 < w.heap.size) : Calls Tryd.prog 8 #[] w fun e w' => e = .returned (.bool true) ∧ w.grownBy w' none := by
  have Ht := Lib.hid ht
  clear ht
  go_enter Tryd.func8, Tryd.ntmps8
  go_wp2_with fail
  refine (new_at 100 _ (by decide)).mono ?_
  rintro e w1 ⟨rfl, hg1, hz1, hs1⟩
  have HG1 := Lib.hid hg1
  have HZ1 := Lib.hid hz1
  have HS1 := Lib.hid hs1
  clear hg1 hz1 hs1
  go_wp2_with fail
  refine (put_at w1 _ _ 100 _ 3 HS1.out).mono ?_
  rintro e w2 ⟨rfl, hg2, hs2⟩
  have HG2 := Lib.hid hg2
  have HS2 : Hid (IsSet w2 (w.heap.size + 1) w.heap.size 100 m1) := Lib.hid hs2
  clear hg2 hs2
  go_wp2_with fail
  refine (put_at w2 _ _ 100 _ 70 HS2.out).mono ?_
  rintro e w3 ⟨rfl, hg3, hs3⟩
  have HG3 := Lib.hid hg3
  have HS3 : Hid (IsSet w3 (w.heap.size + 1) w.heap.size 100 m2) := Lib.hid hs3
  clear hg3 hs3
  have h170 : m1 70 = false := by decide
  go_wp2_with fail
  refine (put_at w3 _ _ 100 _ 3 HS3.out).mono ?_
  rintro e w4 ⟨rfl, hg4, hs4⟩
  have HG4 := Lib.hid hg4
  have HS4 : Hid (IsSet w4 (w.heap.size + 1) w.heap.size 100 m3) := Lib.hid hs4
  clear hg4 hs4
  have h23 : m2 3 = true := by decide
  have HG : Hid (w.grownBy w4 none) := Lib.hid (grown_new (grown_new (grown_new HG1.out HG2.out (Nat.le_refl _)) HG3.out (Nat.le_refl _)) HG4.out (Nat.le_refl _))
  have HT : Hid (Tab w4) := Lib.hid (Ht.out.kept HG.out (by simp))
  go_wp2_with fail
  refine (isNext_at w4 _ _ 100 _ 4 HS4.out HT.out).mono ?_
  rintro e w5 ⟨rfl, q5, rfl⟩
  rw [show (4 : Int).toNat = 4 from rfl, m3_next]
  go_wp2_with fail
  refine (isCount_at _ _ _ 100 _ (HS4.out.drewN q5)).mono ?_
  rintro e w6 ⟨rfl, q6, rfl⟩
  rw [m3_count]
  go_wp2_with fail
  refine (isRank_at _ _ _ 100 _ 70 (HS4.out.drewN (q5 + q6))).mono ?_
  rintro e w7 ⟨rfl, q7, rfl⟩
  rw [show min (70 : Int).toNat 100 = 70 from rfl, m3_rank]
  go_wp2
  go_ret
  exact ⟨rfl, grown_trans HG.out (grown_drewN _ _ _)⟩
end Go.Proofs.YtjdapbianbikpaaDoor
