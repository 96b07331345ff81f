/-
  How many numbers of a set are below one; which is the next; which one has so many below.
-/
import Derived.Test.YtjdapbianbikpaaDoorMem
import Derived.IntWalk
namespace Go.Proofs.YtjdapbianbikpaaDoor
open Go.ChangeShapes Go.WideShapes Go.ChangeAt Go.RowKit
set_option linter.unusedVariables false

theorem rank_low (p : Option Addr) (n i : Int) (w : World) (hd : i ≤ 0 ∨ n ≤ 0) (hw : Calls Tryd.prog 9 #[.pointer p] w fun e w' => e = .returned (.int .i64 n) ∧ w = w') :
    Calls Tryd.prog 17 #[.pointer p, .int .i64 i] w fun e w' => e = .returned (.int .i64 0) ∧ w = w' := by
  have Hw := Lib.hid hw
  clear hw
  obtain ⟨J, hJ⟩ : ∃ J : Int, (if n < i then n else i) = J := ⟨_, rfl⟩
  have hJ0 : J ≤ 0 := by rw [← hJ]; split <;> omega
  have hJd : decide (J ≤ 0) = true := by simp [hJ0]
  go_enter Tryd.func17, Tryd.ntmps17
  go_wp2_with (go_at_call 9; refine Hw.out.mono ?_; rintro e w' ⟨rfl, rfl⟩)
  go_ret
  exact ⟨rfl, rfl⟩
theorem rank_nil (i : Int) (w : World) : Calls Tryd.prog 17 #[.pointer none, .int .i64 i] w fun e w' => e = .returned (.int .i64 0) ∧ w = w' :=
  rank_low none 0 i w (.inr (by decide)) (width_nil w)
theorem wd_Wd {w : World} {b g cap n : Nat} {ws : List Nat} (h : SetAt w b g cap n ws) (k : Nat) : Wd ((wd ws k : Nat) : Int) := by
  have := h.word k
  exact ⟨by omega, by omega⟩
theorem mask_low (x R : Nat) (hR : R < 64) (hx : x < 18446744073709551616) : bits .and .u64 (x : Int) (IntKind.u64.wrap (((bt (R : Int) : Nat) : Int) - 1)) = ((x % 2 ^ R : Nat) : Int) := by
  have hb := bt_le (R : Int)
  have hp := bt_pos (R : Int)
  rw [show IntKind.u64.wrap (((bt (R : Int) : Nat) : Int) - 1) = ((bt (R : Int) - 1 : Nat) : Int) by rw [IntKind.wrap_u64]; omega, u64_and_nat _ _ hx (by omega)]
  have e : bt (R : Int) = 2 ^ R := by unfold bt; rw [Int.toNat_natCast, Nat.mod_eq_of_lt hR]
  rw [e, Nat.and_two_pow_sub_one_eq_mod]
theorem wd_mod (x R : Nat) (hx : x < 18446744073709551616) : Wd ((x % 2 ^ R : Nat) : Int) := by
  have := Nat.mod_le x (2 ^ R)
  generalize x % 2 ^ R = y at *
  exact ⟨by omega, by omega⟩
set_option maxHeartbeats 400000 in
theorem rank_walk (w : World) (b g cap n : Nat) (ws : List Nat) (i : Int) (J K R : Nat) (h : SetAt w b g cap n ws) (hJ : (if (n : Int) < i then (n : Int) else i) = (J : Int)) (h0 : 0 < J) (hn : J ≤ n)
    (hK : (J : Int) / 64 = (K : Int)) (hR : (J : Int) % 64 = (R : Int)) :
    Calls Tryd.prog 17 #[.pointer (some ⟨b, 0, none⟩), .int .i64 i] w fun e w' => e = .returned (.int .i64 ((cn (mem ws) J : Nat) : Int)) ∧ ∃ q, w' = w.drewN q := by
  have hw := h.width
  have hr := h.row
  have hle := h.le
  have hlen := h.len
  have hcl := h.cap_le
  have hcm := h.cap_max
  unfold maxLen at hcm
  have H := Lib.hid h
  clear h
  have hJd : decide ((J : Int) ≤ 0) = false := by simp; omega
  have hJe : decide (J = 0) = false := by simp; omega
  obtain ⟨len, Hlen⟩ : ∃ len, Hid (ws.length = len) := ⟨_, Lib.hid rfl⟩
  have hlen' : len = (n + 63) / 64 := by rw [← Hlen.out, hlen]
  rw [Hlen.out] at hr hcl
  have hkl : K ≤ len := by omega
  have hk2 : K ≤ cap := by omega
  have hk3 : K ≤ 1024 := by omega
  have HJ : Hid (J = 64 * K + R) := Lib.hid (by omega)
  have hRl : R < 64 := by omega
  have hKR : 0 < R → K < len := by omega
  have HKR := Lib.hid hKR
  have Hhn : Hid (J ≤ n ∧ n ≤ 65536) := Lib.hid ⟨hn, hle⟩
  clear hlen hlen' hKR
  go_enter Tryd.func17, Tryd.ntmps17
  go_wp2_with (go_at_call 9; refine (width_at b n _ hw).mono ?_; rintro e w' ⟨rfl, rfl⟩)
  rw [hR]
  clear hJ hK hR hJd hJe
  go_loop [7, 27] (fun s k => ∃ k' : Nat, k' ≤ K ∧ k = .int .i64 (k' : Int) ∧ s = .int .i64 ((cn (mem ws) (64 * k') : Nat) : Int)) (fun _ k => K - (intOf k).toNat)
  case atStart => exact ⟨0, by omega, by go_num, by rw [cn_zero]; rfl⟩
  case round =>
    obtain ⟨k, hk, rfl, rfl⟩ := hrel
    by_cases hlt : k < K
    · have hc := H.out.cell k (by rw [Hlen.out]; omega)
      have HW := wd_Wd H.out k
      have hb := cn_le (mem ws) (64 * k)
      have hb2 := cn_le (wd ws k).testBit 64
      have HS := Lib.hid (cn_words_succ ws k)
      generalize cn (mem ws) (64 * k) = s at *
      go_wp2_with (go_at_call 29; refine (ones_any _ _ HW).mono ?_; rintro e w' ⟨rfl, rfl⟩; rw [Int.toNat_natCast])
      go_round
      case rel => exact ⟨k + 1, by omega, by go_num, by rw [HS.out]; go_num⟩
      case measure => simp [intOf]; omega
    · obtain rfl : k = K := by omega
      by_cases hR0 : 0 < R
      · have hKl := HKR.out hR0
        have hc := H.out.cell k (by rw [Hlen.out]; exact hKl)
        have hm := mask_low (wd ws k) R hRl (H.out.word k)
        have HW := wd_mod (wd ws k) R (H.out.word k)
        have HE : Hid (cn (mem ws) J = cn (mem ws) (64 * k) + cn (wd ws k % 2 ^ R).testBit 64) := Lib.hid (by
          rw [HJ.out, cn_words ws k R (by omega), cn_mod, Nat.min_eq_left (by omega)])
        generalize wd ws k % 2 ^ R = y at *
        have hb := cn_le (mem ws) (64 * k)
        have hb2 := cn_le y.testBit 64
        have hwr : IntKind.i64.wrap (((cn (mem ws) (64 * k) : Nat) : Int) + ((cn y.testBit 64 : Nat) : Int)) = ((cn (mem ws) (64 * k) : Nat) : Int) + ((cn y.testBit 64 : Nat) : Int) := IntWalk.i64_in _ (by omega)
        generalize wd ws k = x at *
        generalize cn (mem ws) (64 * k) = s at *
        have hkI : (k : Int) < (len : Int) := by omega
        have hR0' : decide (0 < (R : Int)) = true := by simp; omega
        go_wp2
        go_quiet (first | (go_at_call 25; exact quiet_same (bit_any _ _ (by omega))) | (go_at_call 29; exact quiet_same (ones_any _ _ HW)))
        go_wp2
        go_ret
        exact ⟨ret_int (by rw [HE.out]; simp), _, rfl⟩
      · have hR0' : decide (0 < (R : Int)) = false := by simp; omega
        go_wp2
        go_ret
        exact ⟨ret_int (by rw [HJ.out, show R = 0 by omega, Nat.add_zero]), 0, rfl⟩
theorem rank_at (w : World) (b g cap n : Nat) (ws : List Nat) (i : Int) (h : SetAt w b g cap n ws) :
    Calls Tryd.prog 17 #[.pointer (some ⟨b, 0, none⟩), .int .i64 i] w fun e w' => e = .returned (.int .i64 ((cn (mem ws) (min i.toNat n) : Nat) : Int)) ∧ ∃ q, w' = w.drewN q := by
  by_cases h0 : 0 < i ∧ 0 < n
  · refine rank_walk w b g cap n ws i (min i.toNat n) (min i.toNat n / 64) (min i.toNat n % 64) h ?_ (by omega) (by omega) (by omega) (by omega)
    split <;> omega
  · refine (rank_low _ n i w (by omega) (width_at b n w h.width)).mono ?_
    rintro e w' ⟨rfl, rfl⟩
    rw [show min i.toNat n = 0 by omega, cn_zero]
    exact ⟨rfl, 0, rfl⟩
end Go.Proofs.YtjdapbianbikpaaDoor
