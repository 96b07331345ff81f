/-
  Which number of a set is the least from one on; which one has so many below; how many there are.
-/
import Derived.Test.YtjdapbianbikpaaDoorRank
namespace Go.Proofs.YtjdapbianbikpaaDoor
open Go.ChangeShapes Go.WideShapes Go.ChangeAt Go.RowKit
set_option linter.unusedVariables false

theorem count_nil (w : World) : Calls Tryd.prog 23 #[.pointer none] w fun e w' => e = .returned (.int .i64 0) ∧ w = w' := by
  go_enter Tryd.func23, Tryd.ntmps23
  go_wp2_with (first | (go_at_call 9; refine (width_nil _).mono ?_; rintro e w' ⟨rfl, rfl⟩) | (go_at_call 17; refine (rank_nil _ _).mono ?_; rintro e w' ⟨rfl, rfl⟩))
  go_ret
  exact ⟨rfl, rfl⟩
theorem count_at (w : World) (b g cap n : Nat) (ws : List Nat) (h : SetAt w b g cap n ws) :
    Calls Tryd.prog 23 #[.pointer (some ⟨b, 0, none⟩)] w fun e w' => e = .returned (.int .i64 ((cn (mem ws) n : Nat) : Int)) ∧ ∃ q, w' = w.drewN q := by
  have hr := rank_at w b g cap n ws n h
  rw [show min (n : Int).toNat n = n by omega] at hr
  have Hr := Lib.hid hr
  have hw := h.width
  clear hr h
  go_enter Tryd.func23, Tryd.ntmps23
  go_wp2_with (first | (go_at_call 9; refine (width_at b n _ hw).mono ?_; rintro e w' ⟨rfl, rfl⟩) | (go_at_call 17; refine Hr.out.mono ?_; rintro e w' ⟨rfl, q, rfl⟩))
  go_ret
  exact ⟨rfl, q, rfl⟩

theorem next_no (p : Option Addr) (i J : Int) (w : World) (hJ : (if i < 0 then 0 else i) = J) (hf : Calls Tryd.prog 26 #[.pointer p, .int .i64 J] w fun e w' => e = .returned (.bool false) ∧ w = w') :
    Calls Tryd.prog 18 #[.pointer p, .int .i64 i] w fun e w' => e = .returned (.tuple #[.int .i64 0, .bool false]) ∧ w = w' := by
  have Hf := Lib.hid hf
  clear hf
  go_enter Tryd.func18, Tryd.ntmps18
  go_wp2_with (go_at_call 26; refine Hf.out.mono ?_; rintro e w' ⟨rfl, rfl⟩)
  go_ret2
  exact ⟨rfl, rfl⟩
theorem next_nil (i : Int) (w : World) : Calls Tryd.prog 18 #[.pointer none, .int .i64 i] w fun e w' => e = .returned (.tuple #[.int .i64 0, .bool false]) ∧ w = w' :=
  next_no none i _ w rfl (fits_nil _ w)

theorem mask_high (x J : Nat) (hx : x < 18446744073709551616) : bits .andNot .u64 (x : Int) (IntKind.u64.wrap (((bt (J : Int) : Nat) : Int) - 1)) = ((x &&& (18446744073709551615 - (2 ^ (J % 64) - 1)) : Nat) : Int) := by
  have hb := bt_le (J : Int)
  have hp := bt_pos (J : Int)
  rw [show IntKind.u64.wrap (((bt (J : Int) : Nat) : Int) - 1) = ((bt (J : Int) - 1 : Nat) : Int) by rw [IntKind.wrap_u64]; omega, u64_andNot_nat _ _ hx (by omega)]
  have e : bt (J : Int) = 2 ^ (J % 64) := by unfold bt; rw [Int.toNat_natCast]
  rw [e]
/-- where the search stands: no number from J on lies in the words before, and the word at hand tells those of its own -/
def Seek (ws : List Nat) (J a x : Nat) : Prop :=
  x < 18446744073709551616 ∧ (∀ j, j < 64 → x.testBit j = (mem ws (64 * a + j) && decide (J ≤ 64 * a + j))) ∧ ∀ t, J ≤ t → t < 64 * a → mem ws t = false
theorem seek_start (ws : List Nat) (J : Nat) (hw : wd ws (J / 64) < 18446744073709551616) : Seek ws J (J / 64) (wd ws (J / 64) &&& (18446744073709551615 - (2 ^ (J % 64) - 1))) := by
  refine ⟨Nat.lt_of_le_of_lt Nat.and_le_left hw, fun j hj => ?_, fun t h1 h2 => by omega⟩
  rw [high_bit _ _ _ hw (by omega), mem_at _ _ _ hj]
  congr 1
  exact decide_eq_decide.2 (by omega)
theorem seek_past {ws : List Nat} {J a : Nat} (h : Seek ws J a 0) : ∀ t, J ≤ t → t < 64 * (a + 1) → mem ws t = false := by
  intro t h1 h2
  by_cases h3 : t < 64 * a
  · exact h.2.2 t h1 h3
  · have := h.2.1 (t - 64 * a) (by omega)
    rw [Nat.zero_testBit, show 64 * a + (t - 64 * a) = t by omega] at this
    simpa [h1] using this.symm
theorem seek_next {ws : List Nat} {J a : Nat} (h : Seek ws J a 0) (hj : J ≤ 64 * (a + 1)) (hw : wd ws (a + 1) < 18446744073709551616) : Seek ws J (a + 1) (wd ws (a + 1)) := by
  refine ⟨hw, fun j hj' => ?_, seek_past h⟩
  rw [mem_at _ _ _ hj']
  have : J ≤ 64 * (a + 1) + j := by omega
  simp [this]
theorem seek_none {ws : List Nat} {J a n : Nat} (h : Seek ws J a 0) (hn : n ≤ 64 * (a + 1)) : nxt (mem ws) n J = none :=
  nxt_none fun j h1 h2 => seek_past h j h1 (by omega)
theorem seek_some {ws : List Nat} {J a n x : Nat} (h : Seek ws J a x) (h0 : 0 < x) (ho : ∀ i, n ≤ i → mem ws i = false) : low x < 64 ∧ nxt (mem ws) n J = some (64 * a + low x) := by
  obtain ⟨hl, hb, hj⟩ := low_spec (by omega) (show x < 2 ^ 64 from h.1)
  have hm := h.2.1 (low x) hl
  rw [hb] at hm
  have hm := hm.symm
  simp only [Bool.and_eq_true, decide_eq_true_eq] at hm
  refine ⟨hl, nxt_some ?_ hm.1 hm.2 fun t h1 h2 => ?_⟩
  · refine Classical.byContradiction fun hn => ?_
    have := ho (64 * a + low x) (by omega)
    rw [this] at hm; exact absurd hm.1 (by decide)
  · by_cases h3 : t < 64 * a
    · exact h.2.2 t h1 h3
    · have e1 := h.2.1 (t - 64 * a) (by omega)
      have e2 := hj (t - 64 * a) (by omega)
      rw [e2, show 64 * a + (t - 64 * a) = t by omega] at e1
      simpa [h1] using e1.symm

theorem ret_pair {a b : Int} {c d : Bool} (h : a = b) (h2 : c = d) : Ending.returned (.tuple #[.int .i64 a, .bool c]) = .returned (.tuple #[.int .i64 b, .bool d]) := by rw [h, h2]
theorem and_one (y : Nat) (h0 : 0 < y) (hy : y < 18446744073709551616) : bits .and .u64 (y : Int) ((y : Int) - 1) = ((y &&& (y - 1) : Nat) : Int) := by
  rw [show (y : Int) - 1 = ((y - 1 : Nat) : Int) by omega, u64_and_nat _ _ hy (by omega)]
set_option maxHeartbeats 400000 in
theorem next_walk (w : World) (b g cap n : Nat) (ws : List Nat) (i : Int) (J K : Nat) (h : SetAt w b g cap n ws) (ht : Tab w) (hJ : (if i < 0 then 0 else i) = (J : Int)) (hn : J < n) (hK : (J : Int) / 64 = (K : Int)) :
    Calls Tryd.prog 18 #[.pointer (some ⟨b, 0, none⟩), .int .i64 i] w fun e w' =>
      e = .returned (.tuple #[.int .i64 (((nxt (mem ws) n J).getD 0 : Nat) : Int), .bool (nxt (mem ws) n J).isSome]) ∧ ∃ q, w' = w.drewN q := by
  have hw := h.width
  have hr := h.row
  have hle := h.le
  have hlen := h.len
  have hcl := h.cap_le
  have hcm := h.cap_max
  unfold maxLen at hcm
  have hKJ : K = J / 64 := by omega
  have HS : Hid (Seek ws J K (wd ws K &&& (18446744073709551615 - (2 ^ (J % 64) - 1)))) := Lib.hid (by rw [hKJ]; exact seek_start ws J (h.word _))
  have hc := h.cell K (by omega)
  have hm := mask_high (wd ws K) J (h.word K)
  generalize wd ws K &&& (18446744073709551615 - (2 ^ (J % 64) - 1)) = y0 at *
  generalize wd ws K = x0 at *
  have H := Lib.hid h
  clear h
  obtain ⟨len, Hlen⟩ : ∃ len, Hid (ws.length = len) := ⟨_, Lib.hid rfl⟩
  have hlen' : len = (n + 63) / 64 := by rw [← Hlen.out, hlen]
  rw [Hlen.out] at hr hcl
  have hl3 : len ≤ 1024 := by omega
  have Hl2 : Hid (len = (n + 63) / 64 ∧ K = J / 64) := Lib.hid ⟨hlen', hKJ⟩
  have hkl : K < len := by omega
  have hkI : (K : Int) < (len : Int) := by omega
  have hJn : (J : Int) < (n : Int) := by omega
  have Ht := Lib.hid ht
  clear hlen hlen' hKJ ht
  go_enter Tryd.func18, Tryd.ntmps18
  go_wp2_with (go_at_call 26; refine (fits_yes b n J _ hw (by omega) hJn).mono ?_; rintro e w' ⟨rfl, rfl⟩)
  go_quiet ((go_at_call 25; exact quiet_same (bit_any _ _ (by omega))))
  go_wp2
  clear hm hc hJ hK
  go_loop [6, 7] (fun a x => ∃ a' x' : Nat, a' < len ∧ K ≤ a' ∧ a = .int .i64 (a' : Int) ∧ x = .int .u64 (x' : Int) ∧ Hid (Seek ws J a' x')) (fun a _ => len - (intOf a).toNat)
  case atStart => exact ⟨K, y0, hkl, Nat.le_refl _, rfl, rfl, HS⟩
  case round =>
    obtain ⟨a, x, ha, hKa, rfl, rfl, HSx⟩ := hrel
    by_cases hx : x = 0
    · subst hx
      by_cases hal : a + 1 = len
      · have HE : Hid (nxt (mem ws) n J = none) := Lib.hid (seek_none HSx.out (by have := Hl2.out; omega))
        have hz : (((a : Int) + 1) == (len : Int)) = true := beq_iff_eq.2 (by omega)
        have hz2 : (a + 1 == len) = true := beq_iff_eq.2 hal
        go_wp2
        go_ret2
        rw [HE.out]
        exact ⟨rfl, _, rfl⟩
      · have hz : (((a : Int) + 1) == (len : Int)) = false := beq_eq_false_iff_ne.2 (by omega)
        have hz2 : (a + 1 == len) = false := beq_eq_false_iff_ne.2 hal
        have hc := H.out.cell (a + 1) (by rw [Hlen.out]; omega)
        have HN : Hid (Seek ws J (a + 1) (wd ws (a + 1))) := Lib.hid (seek_next HSx.out (by have := Hl2.out; omega) (H.out.word _))
        have ha1 : (a : Int) + 1 < (len : Int) := by omega
        have ha2 : ((a : Int) + 1).toNat = a + 1 := by omega
        go_wp2
        go_round
        case rel => exact ⟨a + 1, _, by omega, by omega, by go_num, rfl, HN⟩
        case measure => simp [intOf]; omega
    · have hx0 : ((x : Int) == 0) = false := beq_eq_false_iff_ne.2 (by omega)
      have hs := seek_some HSx.out (by omega) H.out.out
      have hl := hs.1
      have HE := Lib.hid hs.2
      have HW : Wd (x : Int) := ⟨by omega, by have := HSx.out.1; omega⟩
      have ht : Tab (w.drewN nq) := fun i hi => Ht.out i hi
      have HT := Lib.hid ht
      clear hs ht
      go_wp2_with (go_at_call 31; refine (tz_any _ _ HW (by omega) HT.out).mono ?_; rintro e w' ⟨rfl, rfl⟩; rw [Int.toNat_natCast])
      go_ret2
      rw [HE.out]
      exact ⟨ret_pair (by rw [Option.getD_some]; omega) rfl, _, rfl⟩
theorem next_at (w : World) (b g cap n : Nat) (ws : List Nat) (i : Int) (h : SetAt w b g cap n ws) (ht : Tab w) :
    Calls Tryd.prog 18 #[.pointer (some ⟨b, 0, none⟩), .int .i64 i] w fun e w' =>
      e = .returned (.tuple #[.int .i64 (((nxt (mem ws) n i.toNat).getD 0 : Nat) : Int), .bool (nxt (mem ws) n i.toNat).isSome]) ∧ ∃ q, w' = w.drewN q := by
  have hJ : (if i < 0 then 0 else i) = ((i.toNat : Nat) : Int) := by split <;> omega
  by_cases hn : i.toNat < n
  · exact next_walk w b g cap n ws i i.toNat (i.toNat / 64) h ht hJ hn (by omega)
  · refine (next_no _ i _ w hJ (fits_no b n _ w h.width (by omega))).mono ?_
    rintro e w' ⟨rfl, rfl⟩
    rw [nxt_none fun j h1 h2 => by omega]
    exact ⟨rfl, 0, rfl⟩

/-! ### the one of which so many are below -/
set_option maxHeartbeats 400000 in
theorem pickBit_any (x : Nat) (k : Nat) (w : World) (ht : Tab w) (hx : x < 18446744073709551616) (hk : k < cn x.testBit 64) :
    Calls Tryd.prog 30 #[.int .u64 (x : Int), .int .i64 (k : Int)] w fun e w' => e = .returned (.int .i64 ((low (strip x k) : Nat) : Int)) ∧ w = w' := by
  have hk64 := cn_le x.testBit 64
  have Ht := Lib.hid ht
  clear ht
  go_enter Tryd.func30, Tryd.ntmps30
  go_wp2
  go_loop [0, 6] (fun y j => ∃ j' : Nat, j' ≤ k ∧ j = .int .i64 (j' : Int) ∧ y = .int .u64 ((strip x j' : Nat) : Int)) (fun _ j => k - (intOf j).toNat)
  case atStart => exact ⟨0, by omega, by go_num, rfl⟩
  case round =>
    obtain ⟨j, hj, rfl, rfl⟩ := hrel
    have hlt := strip_lt (show x < 2 ^ 64 from hx) j
    by_cases hjk : j < k
    · have h0 := (strip_low hx (show j < cn x.testBit 64 by omega)).1
      have HE := Lib.hid (and_one (strip x j) (by omega) (by omega))
      have HS : Hid (strip x (j + 1) = (strip x j &&& (strip x j - 1))) := Lib.hid rfl
      generalize strip x j = y at *
      go_wp2
      go_round
      case rel => exact ⟨j + 1, by omega, by go_num, by rw [HS.out, ← HE.out]⟩
      case measure => simp [intOf]; omega
    · obtain rfl : j = k := by omega
      have h0 := (strip_low hx hk).1
      have HW : Wd ((strip x j : Nat) : Int) := ⟨by omega, by omega⟩
      generalize hy : strip x j = y at *
      have Hy := Lib.hid hy
      clear hy
      go_wp2_with (go_at_call 31; refine (tz_any _ _ HW (by omega) Ht.out).mono ?_; rintro e w' ⟨rfl, rfl⟩; rw [Int.toNat_natCast])
      go_ret
      exact ⟨ret_int (by rw [Hy.out]), rfl⟩

theorem pick_no (p : Option Addr) (k : Int) (w : World) (h : p = none ∨ k < 0) :
    Calls Tryd.prog 16 #[.pointer p, .int .i64 k] w fun e w' => e = .returned (.tuple #[.int .i64 0, .bool false]) ∧ w = w' := by
  cases p with
  | none =>
    go_enter Tryd.func16, Tryd.ntmps16
    go_wp2
    go_ret2
    exact ⟨rfl, rfl⟩
  | some a =>
    have hk : k < 0 := by rcases h with h | h; · cases h
                          · exact h
    have hd : decide (k < 0) = true := by simp [hk]
    go_enter Tryd.func16, Tryd.ntmps16
    go_wp2
    go_ret2
    exact ⟨rfl, rfl⟩
/-- the one of which k are below, by words: it lies in the word at hand -/
theorem pick_here {ws : List Nat} {a r n k : Nat} (hx : wd ws a < 18446744073709551616) (hr : r < cn (wd ws a).testBit 64) (hk : k = cn (mem ws) (64 * a) + r) (ho : ∀ i, n ≤ i → mem ws i = false) :
    low (strip (wd ws a) r) < 64 ∧ (els (mem ws) n)[k]? = some (64 * a + low (strip (wd ws a) r)) := by
  obtain ⟨_, hl, hb, hc⟩ := strip_low (show wd ws a < 2 ^ 64 from hx) hr
  refine ⟨hl, ?_⟩
  have hm : mem ws (64 * a + low (strip (wd ws a) r)) = true := by rw [mem_at _ _ _ hl]; exact hb
  have hcn : cn (mem ws) (64 * a + low (strip (wd ws a) r)) = k := by rw [cn_words _ _ _ (by omega), hc, hk]
  rw [← hcn]
  refine els_get ?_ hm
  refine Classical.byContradiction fun hn => ?_
  have := ho (64 * a + low (strip (wd ws a) r)) (by omega)
  rw [this] at hm; cases hm
theorem cn_past {m : Nat → Bool} {n N : Nat} (ho : ∀ i, n ≤ i → m i = false) (h : n ≤ N) : cn m N = cn m n := by
  obtain ⟨d, rfl⟩ := Nat.exists_eq_add_of_le h
  rw [cn_add, cn_none (m := fun j => m (n + j)) fun j hj => ho _ (by omega)]; rfl
set_option maxHeartbeats 400000 in
theorem pick_walk (w : World) (b g cap n : Nat) (ws : List Nat) (k : Nat) (h : SetAt w b g cap n ws) (ht : Tab w) (hkb : k < 9223372036854775808) :
    Calls Tryd.prog 16 #[.pointer (some ⟨b, 0, none⟩), .int .i64 (k : Int)] w fun e w' =>
      e = .returned (.tuple #[.int .i64 (((els (mem ws) n)[k]?.getD 0 : Nat) : Int), .bool (els (mem ws) n)[k]?.isSome]) ∧ w = w' := by
  have hr := h.row
  have hle := h.le
  have hlen := h.len
  have hcl := h.cap_le
  have hcm := h.cap_max
  unfold maxLen at hcm
  have H := Lib.hid h
  clear h
  obtain ⟨len, Hlen⟩ : ∃ len, Hid (ws.length = len) := ⟨_, Lib.hid rfl⟩
  have hlen' : len = (n + 63) / 64 := by rw [← Hlen.out, hlen]
  rw [Hlen.out] at hr hcl
  have hl3 : len ≤ 1024 := by omega
  have Hl2 : Hid (len = (n + 63) / 64) := Lib.hid hlen'
  have Ht := Lib.hid ht
  clear hlen hlen' ht
  have hk0 : decide ((k : Int) < 0) = false := by simp
  go_enter Tryd.func16, Tryd.ntmps16
  go_wp2
  go_loop [1, 20] (fun r a => ∃ a' r' : Nat, a' ≤ len ∧ a = .int .i64 (a' : Int) ∧ r = .int .i64 (r' : Int) ∧ Hid (k = cn (mem ws) (64 * a') + r')) (fun _ a => len - (intOf a).toNat)
  case atStart => exact ⟨0, k, by omega, by go_num, rfl, Lib.hid (by rw [cn_zero, Nat.zero_add])⟩
  case round =>
    obtain ⟨a, r, ha, rfl, rfl, HK⟩ := hrel
    by_cases hal : a < len
    · have hc := H.out.cell a (by rw [Hlen.out]; exact hal)
      have HW := wd_Wd H.out a
      have hb := cn_le (wd ws a).testBit 64
      by_cases hrc : r < cn (wd ws a).testBit 64
      · have hp := pick_here (H.out.word a) hrc HK.out H.out.out
        have hl := hp.1
        have HE := Lib.hid hp.2
        clear hp
        have hx := Lib.hid (H.out.word a)
        generalize wd ws a = x at *
        have HC : Hid (r < cn x.testBit 64) := Lib.hid hrc
        have hd1 : decide ((r : Int) < ((cn x.testBit 64 : Nat) : Int)) = true := by simp [hrc]
        generalize hcc : cn x.testBit 64 = c at *
        have Hcc := Lib.hid hcc
        clear hcc
        go_wp2_with (first | (go_at_call 29; refine (ones_any _ _ HW).mono ?_; rintro e w' ⟨rfl, rfl⟩; rw [Int.toNat_natCast, Hcc.out]) | (go_at_call 30; refine (pickBit_any x r _ Ht.out hx.out (by rw [Hcc.out]; exact hrc)).mono ?_; rintro e w' ⟨rfl, rfl⟩))
        go_ret2
        rw [HE.out]
        exact ⟨ret_pair (by rw [Option.getD_some]; omega) rfl, rfl⟩
      · have HS := Lib.hid (cn_words_succ ws a)
        generalize wd ws a = x at *
        have hd1 : decide ((r : Int) < ((cn x.testBit 64 : Nat) : Int)) = false := by simp; omega
        generalize hcc : cn x.testBit 64 = c at *
        have Hcc := Lib.hid hcc
        clear hcc
        have hrk := HK.out
        have hwr : wrap64 ((r : Int) - (c : Int)) = ((r - c : Nat) : Int) := by unfold wrap64; omega
        clear hrk
        go_wp2_with (go_at_call 29; refine (ones_any _ _ HW).mono ?_; rintro e w' ⟨rfl, rfl⟩; rw [Int.toNat_natCast, Hcc.out])
        go_round
        case rel => exact ⟨a + 1, r - c, by omega, by go_num, by go_num, Lib.hid (by rw [HS.out, HK.out]; omega)⟩
        case measure => simp [intOf]; omega
    · obtain rfl : a = len := by omega
      have HE : Hid ((els (mem ws) n)[k]? = none) := Lib.hid (by
        rw [List.getElem?_eq_none_iff, els_length, HK.out, cn_past (N := 64 * a) H.out.out (by have := Hl2.out; omega)]; omega)
      go_wp2
      go_ret2
      rw [HE.out]
      exact ⟨rfl, rfl⟩
theorem pick_at (w : World) (b g cap n : Nat) (ws : List Nat) (k : Int) (h : SetAt w b g cap n ws) (ht : Tab w) (hkb : k < 9223372036854775808) :
    Calls Tryd.prog 16 #[.pointer (some ⟨b, 0, none⟩), .int .i64 k] w fun e w' =>
      e = .returned (.tuple #[.int .i64 (((if k < 0 then none else (els (mem ws) n)[k.toNat]?).getD 0 : Nat) : Int), .bool (if k < 0 then none else (els (mem ws) n)[k.toNat]?).isSome]) ∧ w = w' := by
  by_cases hk : k < 0
  · simp only [if_pos hk]
    exact pick_no _ k w (.inr hk)
  · simp only [if_neg hk]
    obtain ⟨j, rfl⟩ := Int.eq_ofNat_of_zero_le (show 0 ≤ k by omega)
    rw [Int.toNat_natCast]
    exact pick_walk w b g cap n ws j h ht (by omega)
end Go.Proofs.YtjdapbianbikpaaDoor
