/-
  The walk of the law that rank and pick undo one another.
-/
import Derived.Test.YtjdapbianbikpaaDoorRows2
namespace Go.Proofs.YtjdapbianbikpaaDoor
open Go.ChangeShapes Go.WideShapes Go.ChangeAt Go.RowKit
set_option linter.unusedVariables false

set_option maxHeartbeats 1000000 in
theorem ranks_walk (A : Option Addr) (len cap : Nat) (zs : List Int) (i : Int) (w : World) (hl : zs.length = len) (hz : ∀ j : Nat, 0 ≤ zs[j]?.getD 0 ∧ zs[j]?.getD 0 ≤ 65535) (hr : RowAt .u16 (fun b => b < w.heap.size) w A zs)
    (hi : i < 9223372036854775808) (ht : Tab w) (h0 : 0 < w.heap.size) (hlen : len ≤ 200) :
    Calls Tryd.prog 4 #[.slice A len cap, .int .i64 i] w fun e w' => e = .returned (.bool true) ∧ w.grownBy w' none := by
  have Hl := Lib.hid hl
  have Hz := Lib.hid hz
  have Hr := Lib.hid hr
  have Ht := Lib.hid ht
  have Hi := Lib.hid hi
  clear hl hz hr ht hi
  have hd : decide (200 < (len : Int)) = false := by simp; omega
  have hd' : decide (200 < len) = false := by simp; omega
  go_enter Tryd.func4, Tryd.ntmps4
  go_wp2_with fail
  refine (new_at 65536 _ (by decide)).mono ?_
  rintro e w1 ⟨rfl, hg1, hz1, hs1⟩
  have HG1 := Lib.hid hg1
  have hz1' : w.heap.size < w1.heap.size := by omega
  have HS1 := Lib.hid hs1
  clear hg1 hz1 hs1
  go_wp2_with fail
  go_loopw [33] (fun k wr => ∃ k' : Nat, k' ≤ len ∧ k = .int .i64 (k' : Int) ∧ Hid (w1.grownBy wr (some w.heap.size)) ∧ Hid (IsSet wr (w.heap.size + 1) w.heap.size 65536 (mof (zs.take k')))) (fun k _ => len - (intOf k).toNat)
  case atStart => exact ⟨0, by omega, by go_num, Lib.hid (World.grownBy.refl _ _), Lib.hid (by rw [List.take_zero, mof_nil]; exact HS1.out)⟩
  case round =>
    obtain ⟨k, hk, rfl, HG2, HS2⟩ := hrel
    by_cases hlt : k < len
    · obtain ⟨b, off, rfl, hb, _, hc⟩ := Hr.out.some (by rw [Hl.out]; omega)
      have hcell : wr.cell? ⟨b, off + k, none⟩ = some (.int .u16 (zs[k]?.getD 0)) :=
        HG2.out.cell (HG1.out.cell (hc k (by rw [Hl.out]; exact hlt)) (by simp)) (fun e => by have e' : b = w.heap.size := Option.some.inj e; omega)
      have hb0 := (Hz.out k).1
      have hb1 := (Hz.out k).2
      have HM := Lib.hid (mof_put (zs.take k) (zs[k]?.getD 0) 65536 hb0 (by omega))
      have HT2 := Lib.hid (take_more zs k (by rw [Hl.out]; exact hlt))
      clear hc
      generalize zs[k]?.getD 0 = z at *
      go_wp2_with (go_at_call 13; refine (put_at wr _ _ 65536 _ z HS2.out).mono ?_; rintro e w2 ⟨rfl, hg3, hs3⟩; have HG3 := Lib.hid (grown_trans HG2.out hg3); have HS3 := Lib.hid hs3; clear hg3 hs3)
      go_roundw
      case rel => exact ⟨k + 1, by omega, by go_num, HG3, Lib.hid (by rw [HT2.out, ← HM.out]; exact HS3.out)⟩
      case measure => simp [intOf]; omega
    · obtain rfl : k = len := by omega
      rw [List.take_of_length_le (by rw [Hl.out]; exact Nat.le_refl _)] at HS2
      have HGA : Hid (w.grownBy wr none) := Lib.hid (grown_new HG1.out HG2.out (Nat.le_refl _))
      have HTA : Hid (Tab wr) := Lib.hid (Ht.out.kept HGA.out (by simp))
      have HRA : Hid (RowAt .u16 (fun b => b < w.heap.size) wr A zs) := Lib.hid (Hr.out.kept HGA.out (by simp))
      clear HG2 HG1 HS1
      go_wp2
      go_loopw [44] (fun j wq => ∃ j' q : Nat, j' ≤ k ∧ j = .int .i64 (j' : Int) ∧ wq = wr.drewN q) (fun j _ => k - (intOf j).toNat)
      case atStart => exact ⟨0, 0, by omega, by go_num, rfl⟩
      case round =>
        obtain ⟨j, q, hj, rfl, rfl⟩ := hrel
        by_cases hlt2 : j < k
        · obtain ⟨b, off, rfl, hb, hb2, hc⟩ := HRA.out.some (by rw [Hl.out]; omega)
          have hcell : wr.cell? ⟨b, off + j, none⟩ = some (.int .u16 (zs[j]?.getD 0)) := hc j (by rw [Hl.out]; exact hlt2)
          have hb0 := (Hz.out j).1
          have hb1 := (Hz.out j).2
          have hmem : mof zs (zs[j]?.getD 0).toNat = true := by
            unfold mof
            rw [List.contains_iff_mem, Int.toNat_of_nonneg hb0]
            have hjl : j < zs.length := by rw [Hl.out]; exact hlt2
            rw [List.getElem?_eq_getElem hjl]
            exact List.getElem_mem hjl
          clear hc
          generalize zs[j]?.getD 0 = z at *
          have HE : Hid ((els (mof zs) 65536)[cn (mof zs) z.toNat]? = some z.toNat) := Lib.hid (els_get (by omega) hmem)
          clear hmem
          go_wp2_with fail
          refine (isRank_at _ _ _ 65536 _ z (HS2.out.drewN q)).mono ?_
          rintro e w3 ⟨rfl, q3, rfl⟩
          rw [show min z.toNat 65536 = z.toNat by omega]
          go_wp2_with fail
          refine (isPick_at _ _ _ 65536 _ _ (HS2.out.drewN (q + q3)) (HTA.out.kept (grown_drewN _ _ none) (by simp)) (by have := cn_le (mof zs) z.toNat; omega)).mono ?_
          rintro e w4 ⟨rfl, rfl⟩
          rw [show pck (mof zs) 65536 ((cn (mof zs) z.toNat : Nat) : Int) = some z.toNat by unfold pck; rw [if_neg (by omega), Int.toNat_natCast]; exact HE.out]
          have hzz : ((z.toNat : Nat) : Int) = z := Int.toNat_of_nonneg hb0
          rw [Option.getD_some, Option.isSome_some, hzz]
          clear hzz
          go_wp2
          go_roundw
          case rel => exact ⟨j + 1, q + q3, by omega, by go_num, rfl⟩
          case measure => simp [intOf]; omega
        · go_wp2_with fail
          refine (isNext_at _ _ _ 65536 _ i (HS2.out.drewN q) (HTA.out.kept (grown_drewN _ _ none) (by simp))).mono ?_
          rintro e w3 ⟨rfl, q3, rfl⟩
          go_wp2_with fail
          refine (isRank_at _ _ _ 65536 _ i (HS2.out.drewN (q + q3))).mono ?_
          rintro e w4 ⟨rfl, q4, rfl⟩
          go_wp2_with fail
          refine (isPick_at _ _ _ 65536 _ _ (HS2.out.drewN (q + q3 + q4)) (HTA.out.kept (grown_drewN _ _ none) (by simp)) (by have := cn_le (mof zs) (min i.toNat 65536); omega)).mono ?_
          rintro e w5 ⟨rfl, rfl⟩
          rw [show pck (mof zs) 65536 ((cn (mof zs) (min i.toNat 65536) : Nat) : Int) = nxt (mof zs) 65536 i.toNat by unfold pck nxt; rw [if_neg (by omega), Int.toNat_natCast]]
          generalize nxt (mof zs) 65536 i.toNat = o
          generalize o.isSome = ob
          generalize o.getD 0 = on
          go_wp2_with fail
          refine (alive_any _ (HTA.out.kept (grown_drewN _ _ none) (by simp)) (by have := HGA.out.size; simp; omega)).mono ?_
          rintro e w6 ⟨rfl, hg6⟩
          have HG6 := Lib.hid hg6
          clear hg6
          go_wp2
          go_ret
          exact ⟨rfl, grown_trans (grown_trans HGA.out (grown_drewN _ _ none)) HG6.out⟩
set_option maxHeartbeats 400000 in
theorem ranks_long (A : Option Addr) (len cap : Nat) (i : Int) (w : World) (ht : Tab w) (h0 : 0 < w.heap.size) (hlen : 200 < len) :
    Calls Tryd.prog 4 #[.slice A len cap, .int .i64 i] w fun e w' => e = .returned (.bool true) ∧ w.grownBy w' none := by
  have Ht := Lib.hid ht
  clear ht
  have hd : decide (200 < (len : Int)) = true := by simp; omega
  have hd' : decide (200 < len) = true := by simp; omega
  go_enter Tryd.func4, Tryd.ntmps4
  go_wp2_with fail
  refine (new_at 65536 _ (by decide)).mono ?_
  rintro e w1 ⟨rfl, hg1, hz1, hs1⟩
  have HG1 := Lib.hid hg1
  have hz1' : w.heap.size < w1.heap.size := by omega
  clear hg1 hz1 hs1
  go_wp2_with fail
  refine (alive_any _ (Ht.out.kept HG1.out (by simp)) (by omega)).mono ?_
  rintro e w6 ⟨rfl, hg6⟩
  have HG6 := Lib.hid hg6
  clear hg6
  go_wp2
  go_ret
  exact ⟨rfl, grown_trans HG1.out HG6.out⟩
theorem range_u16 {zs : List Int} (h : ∀ n ∈ zs, (Lit.int .u16 n).wf = true) (j : Nat) : 0 ≤ zs[j]?.getD 0 ∧ zs[j]?.getD 0 ≤ 65535 := by
  rcases Nat.lt_or_ge j zs.length with hj | hj
  · rw [List.getElem?_eq_getElem hj]
    have := bounds_u16 (h _ (List.getElem_mem hj))
    exact ⟨this.1, by have := this.2; simp; omega⟩
  · rw [List.getElem?_eq_none hj]; simp
theorem marksRanks_law (a0 : Option Addr) (len0 cap0 : Nat) (z0 : List Int) (a1 : Int) (w : World) (w0 : IsRow .u16 w a0 len0 cap0 z0) (w1 : (Lit.int .i64 a1).wf = true) (ht : Tab w) (h0 : 0 < w.heap.size) :
    Calls Tryd.prog 4 #[.slice a0 len0 cap0, .int .i64 a1] w fun e w' => e = .returned (.bool true) ∧ Below w.heap.size w w' := by
  have hb := bounds_i64 w1
  obtain ⟨ys, hl, hw, hr⟩ := w0.row
  by_cases hlen : len0 ≤ 200
  · refine (ranks_walk a0 len0 cap0 ys a1 w hl (range_u16 hw) hr (by omega) ht h0 hlen).mono ?_
    rintro e w' ⟨he, hg⟩
    exact ⟨he, grown_below hg (Nat.le_refl _) (by simp)⟩
  · refine (ranks_long a0 len0 cap0 a1 w ht h0 (by omega)).mono ?_
    rintro e w' ⟨he, hg⟩
    exact ⟨he, grown_below hg (Nat.le_refl _) (by simp)⟩
end Go.Proofs.YtjdapbianbikpaaDoor
