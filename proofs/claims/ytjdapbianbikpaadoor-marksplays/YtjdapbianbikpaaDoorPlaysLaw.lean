/-
  The walk of the law on what any acts make of a set.
-/
import Derived.Test.YtjdapbianbikpaaDoorStands
import Derived.Test.YtjdapbianbikpaaDoorCopy2
namespace Go.Proofs.YtjdapbianbikpaaDoor
open Go.ChangeShapes Go.WideShapes Go.ChangeAt Go.RowKit
set_option linter.unusedVariables false

theorem cn_one (m : Nat → Bool) (i : Nat) (b : Bool) (N : Nat) : cn (fun j => if j = i then b else m j) N + (if i < N ∧ m i = true then 1 else 0) = cn m N + (if i < N ∧ b = true then 1 else 0) := by
  induction N with
  | zero => simp [cn_zero]
  | succ N ih =>
    rw [cn_succ, cn_succ]
    rcases Nat.lt_trichotomy i N with h | h | h
    · have hne : N ≠ i := by omega
      have h1 : i < N + 1 := by omega
      simp only [h, h1, true_and, if_neg hne] at ih ⊢
      omega
    · subst h
      simp only [Nat.lt_irrefl, false_and, if_false, Nat.add_zero] at ih
      simp only [if_true, Nat.lt_succ_self, true_and]
      rw [ih]; omega
    · have h1 : ¬ i < N := by omega
      have h2 : ¬ i < N + 1 := by omega
      have hne : N ≠ i := by omega
      simp only [h1, h2, false_and, if_false, if_neg hne] at ih ⊢
      omega
theorem len_put (m : Nat → Bool) (i : Int) (N : Nat) (h0 : 0 ≤ i) (hi : i < N) :
    ((els (fun j => m j || decide (0 ≤ i ∧ i < (N : Int) ∧ j = i.toNat)) N).length != (els m N).length) = !m i.toNat := by
  have e : (fun j => m j || decide (0 ≤ i ∧ i < (N : Int) ∧ j = i.toNat)) = fun j => if j = i.toNat then true else m j := by
    funext j
    by_cases h : j = i.toNat
    · subst h; simp; omega
    · simp [h]
  rw [els_length, els_length, e]
  have := cn_one m i.toNat true N
  generalize cn (fun j => if j = i.toNat then true else m j) N = c1 at *
  generalize cn m N = c2 at *
  rw [if_pos (show i.toNat < N ∧ true = true from ⟨by omega, rfl⟩)] at this
  cases hm : m i.toNat with
  | true => rw [if_pos ⟨by omega, hm⟩] at this; simp; omega
  | false => rw [if_neg (by simp [hm])] at this; simp; omega
theorem len_drop (m : Nat → Bool) (i : Int) (N : Nat) (h0 : 0 ≤ i) (ho : ∀ j, N ≤ j → m j = false) :
    ((els (fun j => m j && !decide (0 ≤ i ∧ j = i.toNat)) N).length != (els m N).length) = m i.toNat := by
  have e : (fun j => m j && !decide (0 ≤ i ∧ j = i.toNat)) = fun j => if j = i.toNat then false else m j := by
    funext j
    by_cases h : j = i.toNat
    · subst h; simp [h0]
    · simp [h]
  rw [els_length, els_length, e]
  have := cn_one m i.toNat false N
  generalize cn (fun j => if j = i.toNat then false else m j) N = c1 at *
  generalize cn m N = c2 at *
  rw [if_neg (show ¬ (i.toNat < N ∧ false = true) by simp)] at this
  cases hm : m i.toNat with
  | true =>
    have hl : i.toNat < N := by
      refine Classical.byContradiction fun h => ?_
      rw [ho _ (by omega)] at hm; cases hm
    rw [if_pos ⟨hl, hm⟩] at this; simp; omega
  | false => rw [if_neg (by simp [hm])] at this; simp; omega

theorem bne_cast (a b : Nat) : ((a : Int) != (b : Int)) = (a != b) := by
  rw [Bool.eq_iff_iff, bne_iff_ne, bne_iff_ne]; omega
set_option maxHeartbeats 400000 in
theorem plays_wide (A : Option Addr) (len cap : Nat) (n i : Int) (w : World) (ht : Tab w) (h0 : 0 < w.heap.size) (hn : n < 0 ∨ 65536 < n) :
    Calls Tryd.prog 3 #[.int .i64 n, .slice A len cap, .int .i64 i] w fun e w' => e = .returned (.bool true) ∧ w.grownBy w' none := by
  have Ht := Lib.hid ht
  clear ht
  have Hn := Lib.hid hn
  rcases hn with hn | hn
  · have hd : decide (n < 0) = true := by simp [hn]
    go_enter Tryd.func3, Tryd.ntmps3
    go_wp2_with fail
    refine (new_no n w Hn.out).mono ?_
    rintro e w' ⟨rfl, rfl⟩
    go_wp2_with fail
    refine (alive_any _ Ht.out h0).mono ?_
    rintro e w6 ⟨rfl, hg6⟩
    have HG6 := Lib.hid hg6
    clear hg6
    go_wp2
    go_ret
    exact ⟨rfl, HG6.out⟩
  · have hd : decide (n < 0) = false := by simp; omega
    have hd2 : decide (65536 < n) = true := by simp [hn]
    go_enter Tryd.func3, Tryd.ntmps3
    go_wp2_with fail
    refine (new_no n w Hn.out).mono ?_
    rintro e w' ⟨rfl, rfl⟩
    go_wp2_with fail
    refine (alive_any _ Ht.out h0).mono ?_
    rintro e w6 ⟨rfl, hg6⟩
    have HG6 := Lib.hid hg6
    clear hg6
    go_wp2
    go_ret
    exact ⟨rfl, HG6.out⟩
set_option maxHeartbeats 400000 in
theorem plays_long (A : Option Addr) (len cap N : Nat) (i : Int) (w : World) (ht : Tab w) (h0 : 0 < w.heap.size) (hN : N ≤ 65536) (hlen : 100 < len) :
    Calls Tryd.prog 3 #[.int .i64 (N : Int), .slice A len cap, .int .i64 i] w fun e w' => e = .returned (.bool true) ∧ w.grownBy w' none := by
  have Ht := Lib.hid ht
  clear ht
  have hd : decide ((N : Int) < 0) = false := by simp
  have hd2 : decide (65536 < (N : Int)) = false := by simp; omega
  have hl : decide (100 < (len : Int)) = true := by simp; omega
  have hl' : decide (100 < len) = true := by simp; omega
  go_enter Tryd.func3, Tryd.ntmps3
  go_wp2_with fail
  refine (new_at N w hN).mono ?_
  rintro e w1 ⟨rfl, hg1, hz1, hs1⟩
  have HG1 := Lib.hid hg1
  have hw1 := hs1.width
  have hz1' : w.heap.size < w1.heap.size := by omega
  clear hg1 hz1 hs1
  go_wp2_with fail
  refine (width_at _ (N : Int) w1 hw1).mono ?_
  rintro e w' ⟨rfl, rfl⟩
  go_wp2_with fail
  refine (alive_any _ (Ht.out.kept HG1.out (by simp)) (by omega)).mono ?_
  rintro e w6 ⟨rfl, hg6⟩
  have HG6 := Lib.hid hg6
  clear hg6
  go_wp2
  go_ret
  exact ⟨rfl, grown_trans HG1.out HG6.out⟩
set_option maxHeartbeats 4000000 in
theorem plays_walk (A : Option Addr) (len cap N : Nat) (zs : List Int) (i : Int) (w : World) (hl : zs.length = len) (hz : ∀ j : Nat, -9223372036854775808 ≤ zs[j]?.getD 0 ∧ zs[j]?.getD 0 < 9223372036854775808)
    (hr : RowAt .i64 (fun b => b < w.heap.size) w A zs) (hi0 : -9223372036854775808 ≤ i) (hi1 : i < 9223372036854775808) (ht : Tab w) (h0 : 0 < w.heap.size) (hN : N ≤ 65536) (hlen : len ≤ 100) :
    Calls Tryd.prog 3 #[.int .i64 (N : Int), .slice A len cap, .int .i64 i] w fun e w' => e = .returned (.bool true) ∧ w.grownBy w' none := by
  have Hl := Lib.hid hl
  have Hz := Lib.hid hz
  have Hr := Lib.hid hr
  have Ht := Lib.hid ht
  have Hi0 := Lib.hid hi0
  have Hi1 := Lib.hid hi1
  clear hl hz hr ht hi0 hi1
  have hd : decide ((N : Int) < 0) = false := by simp
  have hd2 : decide (65536 < (N : Int)) = false := by simp; omega
  have hll : decide (100 < (len : Int)) = false := by simp; omega
  have hll' : decide (100 < len) = false := by simp; omega
  go_enter Tryd.func3, Tryd.ntmps3
  go_wp2_with fail
  refine (new_at N w hN).mono ?_
  rintro e w1 ⟨rfl, hg1, hz1, hs1⟩
  have HG1 := Lib.hid hg1
  have HS1 := Lib.hid hs1
  have hw1 := hs1.width
  have hz1' : w1.heap.size = w.heap.size + 2 := hz1
  have Hz1 := Lib.hid hz1
  clear hg1 hz1 hs1 hz1'
  go_wp2_with fail
  refine (width_at _ (N : Int) w1 hw1).mono ?_
  rintro e w' ⟨rfl, rfl⟩
  clear hw1
  go_wp2_with fail
  go_loopw [9, 54] (fun v k wr => ∃ (k' : Nat) (m : Nat → Bool), k' ≤ len ∧ k = .int .i64 (k' : Int) ∧ Hid (IsSet wr (w.heap.size + 1) w.heap.size N m) ∧ Hid (NatRow (w.heap.size + 2) wr v (els m N)) ∧ Hid (w.grownBy wr none) ∧ Hid (w.heap.size + 2 ≤ wr.heap.size)) (fun _ k _ => len - (intOf k).toNat)
  case atStart => exact ⟨0, fun _ => false, by omega, by go_num, HS1, Lib.hid (by rw [show els (fun _ => false) N = [] by unfold els; simp]; exact NatRow.nil _ _), HG1, Lib.hid (by rw [Hz1.out]; exact Nat.le_refl _)⟩
  case round =>
    obtain ⟨k, m, hk, rfl, HS, HV, HG, HZ⟩ := hrel
    clear HS1 HG1 Hz1
    by_cases hlt : k < len
    · obtain ⟨b, off, rfl, hb, _, hc⟩ := Hr.out.some (by rw [Hl.out]; omega)
      have hcell := HG.out.cell (hc k (by rw [Hl.out]; exact hlt)) (by simp)
      have hkI : (k : Int) < (len : Int) := by omega
      have ha0 := (Hz.out k).1
      have ha1 := (Hz.out k).2
      generalize zs[k]?.getD 0 = a at *
      clear hc
      go_wp2_with fail
      refine (copy_at wr _ _ N m HS.out).mono ?_
      rintro e w2 ⟨b2, g2, rfl, hg2, hgg, hgb, hs2⟩
      have hne1 : w.heap.size < g2 := by have := HZ.out; omega
      have hne2 : w.heap.size < b2 := by have := HZ.out; omega
      have HG2 := Lib.hid (grown_trans HG.out hg2)
      have HS2 := Lib.hid hs2
      have HSo := Lib.hid (HS.out.kept hg2 (by simp) (by simp))
      have HVo := Lib.hid (HV.out.kept hg2 (by simp))
      have HZ2 := Lib.hid (Nat.le_trans HZ.out hg2.size)
      clear hg2 hgg hgb hs2
      have hos : ∀ j, N ≤ j → m j = false := by obtain ⟨_, ws, hs', rfl⟩ := HS.out; exact hs'.out
      have HOs := Lib.hid hos
      clear hos
      obtain ⟨A5, c5, rfl, _, _⟩ := HV.out.slice
      obtain ⟨n5, Hn5⟩ : ∃ n5, Hid ((els m N).length = n5) := ⟨_, Lib.hid rfl⟩
      rw [Hn5.out] at HVo HV ⊢
      by_cases ha : a < 0
      · have hda : decide (a < 0) = true := by simp [ha]
        go_wp2_with fail
        obtain ⟨x, hx⟩ : ∃ x, -1 - a = x := ⟨_, rfl⟩
        rw [hx]
        have hx0 : 0 ≤ x := by omega
        have hx1 : x < 9223372036854775808 := by omega
        clear hx
        refine (drop_at w2 _ _ N m x HSo.out).mono ?_
        rintro e w3 ⟨rfl, hg3, hs3⟩
        have hne := len_drop m x N hx0 HOs.out
        have hokb : (decide (0 ≤ x) && m x.toNat) = m x.toNat := by simp [hx0]
        rw [hokb]
        clear hokb
        generalize m x.toNat = okb at *
        have HG3 := Lib.hid hg3
        have HS3 := Lib.hid hs3
        clear hg3 hs3
        go_wp2_with fail
        refine (withoutN_at (w.heap.size + 2) (w.heap.size + 2) N m _ x w3 (HVo.out.kept HG3.out (fun r e => by cases e; omega)) hN (Nat.le_trans HZ2.out HG3.out.size)).mono ?_
        rintro e w4 ⟨v4, rfl, hv4, hg4⟩
        have hs4 := HS3.out.kept hg4 (by simp) (by simp)
        have hcp4 := (HS2.out.kept HG3.out (fun e => by have := Option.some.inj e; omega) (fun e => by have := Option.some.inj e; omega)).kept hg4 (by simp) (by simp)
        have hv5 := (HVo.out.kept HG3.out (fun r e => by cases e; omega)).kept hg4 (by simp)
        have hgw4 := grown_trans (grown_new HG2.out HG3.out (Nat.le_refl _)) hg4
        have hzw4 := Nat.le_trans HZ2.out (Nat.le_trans HG3.out.size hg4.size)
        clear hg4
        -- what is made lies; both lists are slices
        obtain ⟨A4, c4, rfl, _, _⟩ := hv4.slice
        have HV4 := Lib.hid hv4
        have HS4 : Hid (IsSet w4 (w.heap.size + 1) w.heap.size N (fun j => m j && !decide (0 ≤ x ∧ j = x.toNat))) := Lib.hid hs4
        have HC4 : Hid (IsSet w4 b2 g2 N m) := Lib.hid hcp4
        have HV5 : Hid (NatRow (w.heap.size + 2) w4 (.slice A5 n5 c5) (els m N)) := Lib.hid hv5
        have HG4 := Lib.hid hgw4
        have HZ4 := Lib.hid hzw4
        have HT4 : Hid (Tab w4) := Lib.hid (Ht.out.kept hgw4 (by simp))
        have h04 : 0 < w4.heap.size := by have := hzw4; omega
        obtain ⟨n4, Hn4⟩ : ∃ n4, Hid ((els (fun j => m j && !decide (0 ≤ x ∧ j = x.toNat)) N).length = n4) := ⟨_, Lib.hid rfl⟩
        rw [Hn4.out] at hne HV4 ⊢
        rw [Hn5.out] at hne
        have hneI : ((n4 : Int) != (n5 : Int)) = okb := by rw [bne_cast]; exact hne
        have hok : (okb != okb) = false := by simp
        clear hv4 hs4 hcp4 hv5 hgw4 hzw4
        go_wp2_with fail
        refine (stands_at (w.heap.size + 2) _ _ N _ _ i w4 HS4.out HT4.out h04 hN Hi0.out Hi1.out HV4.out).mono ?_
        rintro e w5 ⟨rfl, hg5⟩
        have HG5 := Lib.hid hg5
        have h05 : 0 < w5.heap.size := by have := hg5.size; omega
        clear hg5
        go_wp2_with fail
        refine (stands_at (w.heap.size + 2) b2 g2 N m _ x w5 (HC4.out.kept HG5.out (by simp) (by simp)) (HT4.out.kept HG5.out (by simp)) h05 hN (by omega) (by omega) (HV5.out.kept HG5.out (by simp))).mono ?_
        rintro e w6 ⟨rfl, hg6⟩
        have HG6 := Lib.hid (grown_trans HG5.out hg6)
        clear hg6
        go_wp2
        go_roundw
        case rel => exact ⟨k + 1, (fun j => m j && !decide (0 ≤ x ∧ j = x.toNat)), by omega, by go_num, Lib.hid (HS4.out.kept HG6.out (by simp) (by simp)), Lib.hid (by have := HV4.out.kept HG6.out (by simp); exact this), Lib.hid (grown_trans HG4.out HG6.out), Lib.hid (Nat.le_trans HZ4.out HG6.out.size)⟩
        case measure => simp [intOf]; omega
      · have hda : decide (a < 0) = false := by simp [ha]
        have hx0 : 0 ≤ a := by omega
        go_wp2_with fail
        refine (put_at w2 _ _ N m a HSo.out).mono ?_
        rintro e w3 ⟨rfl, hg3, hs3⟩
        by_cases haN : a < N
        · have hdN : decide (a < (N : Int)) = true := by simp [haN]
          have hne := len_put m a N hx0 haN
          have hokb : (decide (0 ≤ a ∧ a < (N : Int)) && !m a.toNat) = !m a.toNat := by simp [hx0, haN]
          rw [hokb]
          clear hokb
          generalize (!m a.toNat) = okb at *
          have HG3 := Lib.hid hg3
          have HS3 := Lib.hid hs3
          clear hg3 hs3
          go_wp2_with fail
          refine (withN_at (w.heap.size + 2) (w.heap.size + 2) N m _ a w3 (HVo.out.kept HG3.out (fun r e => by cases e; omega)) hN hx0 haN (Nat.le_trans HZ2.out HG3.out.size)).mono ?_
          rintro e w4 ⟨v4, rfl, hv4, hg4⟩
          have hs4 := HS3.out.kept hg4 (by simp) (by simp)
          have hcp4 := (HS2.out.kept HG3.out (fun e => by have := Option.some.inj e; omega) (fun e => by have := Option.some.inj e; omega)).kept hg4 (by simp) (by simp)
          have hv5 := (HVo.out.kept HG3.out (fun r e => by cases e; omega)).kept hg4 (by simp)
          have hgw4 := grown_trans (grown_new HG2.out HG3.out (Nat.le_refl _)) hg4
          have hzw4 := Nat.le_trans HZ2.out (Nat.le_trans HG3.out.size hg4.size)
          clear hg4
          -- what is made lies; both lists are slices
          obtain ⟨A4, c4, rfl, _, _⟩ := hv4.slice
          have HV4 := Lib.hid hv4
          have HS4 : Hid (IsSet w4 (w.heap.size + 1) w.heap.size N (fun j => m j || decide (0 ≤ a ∧ a < (N : Int) ∧ j = a.toNat))) := Lib.hid hs4
          have HC4 : Hid (IsSet w4 b2 g2 N m) := Lib.hid hcp4
          have HV5 : Hid (NatRow (w.heap.size + 2) w4 (.slice A5 n5 c5) (els m N)) := Lib.hid hv5
          have HG4 := Lib.hid hgw4
          have HZ4 := Lib.hid hzw4
          have HT4 : Hid (Tab w4) := Lib.hid (Ht.out.kept hgw4 (by simp))
          have h04 : 0 < w4.heap.size := by have := hzw4; omega
          obtain ⟨n4, Hn4⟩ : ∃ n4, Hid ((els (fun j => m j || decide (0 ≤ a ∧ a < (N : Int) ∧ j = a.toNat)) N).length = n4) := ⟨_, Lib.hid rfl⟩
          rw [Hn4.out] at hne HV4 ⊢
          rw [Hn5.out] at hne
          have hneI : ((n4 : Int) != (n5 : Int)) = okb := by rw [bne_cast]; exact hne
          have hok : (okb != okb) = false := by simp
          clear hv4 hs4 hcp4 hv5 hgw4 hzw4
          go_wp2_with fail
          refine (stands_at (w.heap.size + 2) _ _ N _ _ i w4 HS4.out HT4.out h04 hN Hi0.out Hi1.out HV4.out).mono ?_
          rintro e w5 ⟨rfl, hg5⟩
          have HG5 := Lib.hid hg5
          have h05 : 0 < w5.heap.size := by have := hg5.size; omega
          clear hg5
          go_wp2_with fail
          refine (stands_at (w.heap.size + 2) b2 g2 N m _ a w5 (HC4.out.kept HG5.out (by simp) (by simp)) (HT4.out.kept HG5.out (by simp)) h05 hN (by omega) (by omega) (HV5.out.kept HG5.out (by simp))).mono ?_
          rintro e w6 ⟨rfl, hg6⟩
          have HG6 := Lib.hid (grown_trans HG5.out hg6)
          clear hg6
          go_wp2
          go_roundw
          case rel => exact ⟨k + 1, (fun j => m j || decide (0 ≤ a ∧ a < (N : Int) ∧ j = a.toNat)), by omega, by go_num, Lib.hid (HS4.out.kept HG6.out (by simp) (by simp)), Lib.hid (by have := HV4.out.kept HG6.out (by simp); exact this), Lib.hid (grown_trans HG4.out HG6.out), Lib.hid (Nat.le_trans HZ4.out HG6.out.size)⟩
          case measure => simp [intOf]; omega
        · have hdN : decide (a < (N : Int)) = false := by simp [haN]
          have hokb : (decide (0 ≤ a ∧ a < (N : Int)) && !m a.toNat) = false := by simp [haN]
          rw [hokb]
          clear hokb
          have hme : (fun j => m j || decide (0 ≤ a ∧ a < (N : Int) ∧ j = a.toNat)) = m := by funext j; simp [haN]
          rw [hme] at hs3
          clear hme
          have HG3 := Lib.hid hg3
          have HS3 := Lib.hid hs3
          clear hg3 hs3
          have hgw3 := grown_new HG2.out HG3.out (Nat.le_refl _)
          have HG4 := Lib.hid hgw3
          have HZ4 := Lib.hid (Nat.le_trans HZ2.out HG3.out.size)
          have HT4 : Hid (Tab w3) := Lib.hid (Ht.out.kept hgw3 (by simp))
          have h04 : 0 < w3.heap.size := by have := HZ4.out; omega
          have HV4 := Lib.hid (HVo.out.kept HG3.out (fun r e => by cases e; omega))
          have HC4 := Lib.hid (HS2.out.kept HG3.out (fun e => by have := Option.some.inj e; omega) (fun e => by have := Option.some.inj e; omega))
          clear hgw3
          have hneq : ((n5 : Int) != (n5 : Int)) = false := by simp
          go_wp2_with fail
          refine (stands_at (w.heap.size + 2) _ _ N _ _ i w3 HS3.out HT4.out h04 hN Hi0.out Hi1.out HV4.out).mono ?_
          rintro e w5 ⟨rfl, hg5⟩
          have HG5 := Lib.hid hg5
          have h05 : 0 < w5.heap.size := by have := hg5.size; omega
          clear hg5
          go_wp2_with fail
          refine (stands_at (w.heap.size + 2) b2 g2 N m _ a w5 (HC4.out.kept HG5.out (by simp) (by simp)) (HT4.out.kept HG5.out (by simp)) h05 hN (by omega) (by omega) (HV4.out.kept HG5.out (by simp))).mono ?_
          rintro e w6 ⟨rfl, hg6⟩
          have HG6 := Lib.hid (grown_trans HG5.out hg6)
          clear hg6
          go_wp2
          go_roundw
          case rel => exact ⟨k + 1, m, by omega, by go_num, Lib.hid (HS3.out.kept HG6.out (by simp) (by simp)), Lib.hid (by have := HV4.out.kept HG6.out (by simp); exact this), Lib.hid (grown_trans HG4.out HG6.out), Lib.hid (Nat.le_trans HZ4.out HG6.out.size)⟩
          case measure => simp [intOf]; omega
    · have h04 : 0 < wr.heap.size := by have := HZ.out; omega
      have HT4 : Hid (Tab wr) := Lib.hid (Ht.out.kept HG.out (by simp))
      go_wp2_with fail
      refine (alive_any _ HT4.out h04).mono ?_
      rintro e w6 ⟨rfl, hg6⟩
      have HG6 := Lib.hid hg6
      clear hg6
      go_wp2
      go_ret
      exact ⟨rfl, grown_trans HG.out HG6.out⟩
theorem range_i64 {zs : List Int} (h : ∀ n ∈ zs, (Lit.int .i64 n).wf = true) (j : Nat) : -9223372036854775808 ≤ zs[j]?.getD 0 ∧ zs[j]?.getD 0 < 9223372036854775808 := by
  rcases Nat.lt_or_ge j zs.length with hj | hj
  · rw [List.getElem?_eq_getElem hj]
    have := bounds_i64 (h _ (List.getElem_mem hj))
    exact ⟨this.1, by have := this.2; simp; omega⟩
  · rw [List.getElem?_eq_none hj]; simp
theorem marksPlays_law (a0 : Int) (a1 : Option Addr) (len1 cap1 : Nat) (z1 : List Int) (a2 : Int) (w : World) (w0 : (Lit.int .i64 a0).wf = true) (w1 : IsRow .i64 w a1 len1 cap1 z1) (w2 : (Lit.int .i64 a2).wf = true) (ht : Tab w) (h0 : 0 < w.heap.size) :
    Calls Tryd.prog 3 #[.int .i64 a0, .slice a1 len1 cap1, .int .i64 a2] w fun e w' => e = .returned (.bool true) ∧ Below w.heap.size w w' := by
  have key : Calls Tryd.prog 3 #[.int .i64 a0, .slice a1 len1 cap1, .int .i64 a2] w fun e w' => e = .returned (.bool true) ∧ w.grownBy w' none := by
    by_cases hn : a0 < 0 ∨ 65536 < a0
    · exact plays_wide a1 len1 cap1 a0 a2 w ht h0 hn
    · obtain ⟨N, rfl⟩ := Int.eq_ofNat_of_zero_le (show 0 ≤ a0 by omega)
      by_cases hl : 100 < len1
      · exact plays_long a1 len1 cap1 N a2 w ht h0 (by omega) hl
      · obtain ⟨ys, hyl, hw, hr⟩ := w1.row
        have hb := bounds_i64 w2
        exact plays_walk a1 len1 cap1 N ys a2 w hyl (range_i64 hw) hr hb.1 (by omega) ht h0 (by omega) (by omega)
  exact key.mono fun _ _ ⟨he, hg⟩ => ⟨he, grown_below hg (Nat.le_refl _) (by simp)⟩
end Go.Proofs.YtjdapbianbikpaaDoor
