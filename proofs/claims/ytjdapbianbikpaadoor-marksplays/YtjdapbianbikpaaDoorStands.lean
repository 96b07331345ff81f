/-
  What the law's look at a set and a list tells: it stands.
-/
import Derived.Test.YtjdapbianbikpaaDoorLists2
import Derived.Test.YtjdapbianbikpaaDoorNilLaw
namespace Go.Proofs.YtjdapbianbikpaaDoor
open Go.ChangeShapes Go.WideShapes Go.ChangeAt Go.RowKit
set_option linter.unusedVariables false

theorem nxt_at (m : Nat → Bool) (N i : Nat) : nxt m N i = (els m N)[cn m (min i N)]? := rfl
theorem row_cell {base : Nat} {W : World} {A : Option Addr} {xs : List Nat} (h : RowAt .i64 (fun b => base ≤ b) W A (ci xs)) {k x : Nat} (hk : xs[k]? = some x) :
    ∃ b1 o1, A = some ⟨b1, o1, none⟩ ∧ W.cell? ⟨b1, o1 + k, none⟩ = some (.int .i64 (x : Int)) ∧ k < xs.length := by
  obtain ⟨hl, he⟩ := List.getElem?_eq_some_iff.1 hk
  obtain ⟨b1, o1, rfl, _, _, hc⟩ := h.some (by rw [ci_length]; omega)
  refine ⟨b1, o1, rfl, ?_, hl⟩
  rw [hc k (by rw [ci_length]; exact hl), ci_get, hk]; rfl

set_option maxHeartbeats 2000000 in
theorem stands_ss (base b g N : Nat) (m : Nat → Bool) (A : Option Addr) (cap : Nat) (i : Int) (w : World) (hs : IsSet w b g N m) (ht : Tab w) (h0 : 0 < w.heap.size) (hN : N ≤ 65536) (hi0 : -9223372036854775808 ≤ i) (hi1 : i < 9223372036854775808)
    (hv : NatRow base w (.slice A (els m N).length cap) (els m N)) (hr : RowAt .i64 (fun b => base ≤ b) w A (ci (els m N)))
    (x : Nat) (hx : (els m N)[cn m (min i.toNat N)]? = some x)
    (hp0 : 0 ≤ i) (y : Nat) (hy : (els m N)[i.toNat]? = some y) :
    Calls Tryd.prog 15 #[.pointer (some ⟨b, 0, none⟩), .slice A (els m N).length cap, .int .i64 i] w fun e w' => e = .returned (.bool true) ∧ w.grownBy w' none := by
  have ho : ∀ j, N ≤ j → m j = false := by obtain ⟨_, ws, hs', rfl⟩ := hs; exact hs'.out
  have HO := Lib.hid ho
  have HS := Lib.hid hs
  have HT := Lib.hid ht
  have HV := Lib.hid hv
  have Hi1 := Lib.hid hi1
  have hcl := cn_mono m (show min i.toNat N ≤ N by omega)
  obtain ⟨b1, o1, rfl, hcell, hkl⟩ := row_cell hr hx
  obtain ⟨b2, o2, e2, hcell2, hyl⟩ := row_cell hr hy
  injection e2 with e2
  injection e2 with e2 e3
  subst e2; subst e3
  have Hp : Hid (pck m N i = some y) := Lib.hid (by unfold pck; rw [if_neg (by omega)]; exact hy)
  obtain ⟨j, rfl⟩ := Int.eq_ofNat_of_zero_le hp0
  rw [Int.toNat_natCast] at hcell2 hyl hy
  rw [Int.toNat_natCast] at hcell hx hkl hcl
  have Hx : Hid (nxt m N j = some x) := Lib.hid (by rw [nxt_at]; exact hx)
  have HL : Hid ((els m N).length = cn m N) := Lib.hid (els_length m N)
  have hNc := cn_le m N
  obtain ⟨k, Hk⟩ : ∃ k, Hid (cn m (min j N) = k) := ⟨_, Lib.hid rfl⟩
  obtain ⟨len, Hlen⟩ : ∃ len, Hid ((els m N).length = len) := ⟨_, Lib.hid rfl⟩
  rw [HL.out] at Hlen
  rw [HL.out, Hlen.out] at hyl HV
  rw [HL.out, Hlen.out, Hk.out] at hkl
  rw [Hk.out, Hlen.out] at hcl
  rw [Hlen.out] at hNc
  rw [HL.out, Hlen.out]
  rw [Hk.out] at hcell
  have hkd : decide ((k : Int) < (len : Int)) = true := by simp; omega
  have hkd' : decide (k < len) = true := by simp; omega
  have hd1 : decide (0 ≤ (j : Int)) = true := by simp
  have hd2 : decide ((j : Int) < (len : Int)) = true := by simp; omega
  have hd2' : decide (j < len) = true := by simp; omega
  have HB := Lib.hid (show True from trivial)
  clear hs ht hv hi1 ho hr hx hy
  go_enter Tryd.func15, Tryd.ntmps15
  go_wp2_with fail
  refine (isNext_at w b g N m _ HS.out HT.out).mono ?_
  rintro e w' ⟨rfl, q1, rfl⟩
  rw [Int.toNat_natCast, Hx.out, Option.getD_some, Option.isSome_some]
  go_wp2_with fail
  refine (rrankN_at base _ m N _ (w.drewN q1) (by rw [← Hlen.out, ← HL.out] at HV ⊢; exact HV.out.kept (grown_drewN w q1 none) (by simp)) hN).mono ?_
  rintro e w' ⟨rfl, rfl⟩
  rw [Int.toNat_natCast, Hk.out]
  go_wp2_with fail
  refine (isPick_at (w.drewN q1) b g N m _ (HS.out.drewN q1) (HT.out.kept (grown_drewN w q1 none) (by simp)) Hi1.out).mono ?_
  rintro e w' ⟨rfl, rfl⟩
  rw [Hp.out, Option.getD_some, Option.isSome_some]
  go_wp2_with fail
  refine (told_set (w.drewN q1) b g N 100000 m (HS.out.drewN q1) (HT.out.kept (grown_drewN w q1 none) (by simp)) (by exact h0) (by decide)).mono ?_
  rintro e w2 ⟨v2, rfl, hown, hg2⟩
  rw [List.take_of_length_le (by rw [HL.out]; have := cn_le m N; omega)] at hown
  have HG2 := Lib.hid hg2
  have HV2 : Hid (NatRow (w.drewN q1).heap.size w2 v2 (els m N)) := Lib.hid hown
  have HVw : Hid (NatRow base w2 (.slice (some ⟨b1, o1, none⟩) len cap) (els m N)) := Lib.hid ((HV.out.kept (grown_drewN w q1 none) (by simp)).kept hg2 (by simp))
  have HS2 := Lib.hid ((HS.out.drewN q1).kept hg2 (by simp) (by simp))
  clear hown hg2
  have hll := els_le m hN
  have Hll := Lib.hid hll
  clear hll
  go_wp2_with fail
  refine (intsN_at _ base _ _ (els m N) (els m N) w2 HV2.out HVw.out Hll.out Hll.out).mono ?_
  rintro e w' ⟨rfl, q2, rfl⟩
  rw [decide_eq_true rfl]
  go_wp2_with fail
  refine (isCount_at _ b g N m (HS2.out.drewN q2)).mono ?_
  rintro e w' ⟨rfl, q3, rfl⟩
  rw [Hlen.out]
  go_wp2_with fail
  refine (isHas_at _ b g N m _ (HS2.out.drewN (q2 + q3))).mono ?_
  rintro e w' ⟨rfl, q4, rfl⟩
  generalize hhb : (decide (0 ≤ (j : Int)) && m ((j : Int)).toNat) = hb
  have Hhb := Lib.hid hhb
  clear hhb
  go_wp2_with fail
  refine (rhasN_at base _ m N _ _ (HVw.out.kept (grown_drewN w2 (q2 + q3 + q4) none) (by simp)) hN HO.out).mono ?_
  rintro e w' ⟨rfl, rfl⟩
  rw [Hhb.out]
  have hbb : (hb == hb) = true := by simp
  go_wp2_with fail
  refine (isRank_at _ b g N m _ (HS2.out.drewN (q2 + q3 + q4))).mono ?_
  rintro e w' ⟨rfl, q5, rfl⟩
  rw [Int.toNat_natCast, Hk.out]
  go_wp2
  go_ret
  exact ⟨rfl, grown_trans (grown_trans (grown_drewN w q1 none) HG2.out) (grown_drewN _ _ none)⟩

set_option maxHeartbeats 2000000 in
theorem stands_sn (base b g N : Nat) (m : Nat → Bool) (A : Option Addr) (cap : Nat) (i : Int) (w : World) (hs : IsSet w b g N m) (ht : Tab w) (h0 : 0 < w.heap.size) (hN : N ≤ 65536) (hi0 : -9223372036854775808 ≤ i) (hi1 : i < 9223372036854775808)
    (hv : NatRow base w (.slice A (els m N).length cap) (els m N)) (hr : RowAt .i64 (fun b => base ≤ b) w A (ci (els m N)))
    (x : Nat) (hx : (els m N)[cn m (min i.toNat N)]? = some x)
    (hy : pck m N i = none) :
    Calls Tryd.prog 15 #[.pointer (some ⟨b, 0, none⟩), .slice A (els m N).length cap, .int .i64 i] w fun e w' => e = .returned (.bool true) ∧ w.grownBy w' none := by
  have ho : ∀ j, N ≤ j → m j = false := by obtain ⟨_, ws, hs', rfl⟩ := hs; exact hs'.out
  have HO := Lib.hid ho
  have HS := Lib.hid hs
  have HT := Lib.hid ht
  have HV := Lib.hid hv
  have Hi1 := Lib.hid hi1
  have hcl := cn_mono m (show min i.toNat N ≤ N by omega)
  obtain ⟨b1, o1, rfl, hcell, hkl⟩ := row_cell hr hx
  have Hp := Lib.hid hy
  have hyl : ¬ (0 ≤ i ∧ i < ((els m N).length : Int)) := by
    rintro ⟨h1, h2⟩
    unfold pck at hy
    rw [if_neg (by omega)] at hy
    have := List.getElem?_eq_none_iff.1 hy
    omega
  have Hx : Hid (nxt m N i.toNat = some x) := Lib.hid (by rw [nxt_at]; exact hx)
  have HL : Hid ((els m N).length = cn m N) := Lib.hid (els_length m N)
  have hNc := cn_le m N
  obtain ⟨k, Hk⟩ : ∃ k, Hid (cn m (min i.toNat N) = k) := ⟨_, Lib.hid rfl⟩
  obtain ⟨len, Hlen⟩ : ∃ len, Hid ((els m N).length = len) := ⟨_, Lib.hid rfl⟩
  rw [HL.out] at Hlen
  rw [HL.out, Hlen.out] at hyl HV
  rw [HL.out, Hlen.out, Hk.out] at hkl
  rw [Hk.out, Hlen.out] at hcl
  rw [Hlen.out] at hNc
  rw [HL.out, Hlen.out]
  rw [Hk.out] at hcell
  have hkd : decide ((k : Int) < (len : Int)) = true := by simp; omega
  have hkd' : decide (k < len) = true := by simp; omega
  have hdd : (decide (0 ≤ i) = false) ∨ (decide (0 ≤ i) = true ∧ decide (i < (len : Int)) = false) := by
    by_cases h : 0 ≤ i
    · exact .inr ⟨by simp [h], by simp; omega⟩
    · exact .inl (by simp [h])
  have HB := Lib.hid (show True from trivial)
  clear hs ht hv hi1 ho hr hx hy
  rcases hdd with hd1 | ⟨hd1, hd2⟩
  · go_enter Tryd.func15, Tryd.ntmps15
    go_wp2_with fail
    refine (isNext_at w b g N m _ HS.out HT.out).mono ?_
    rintro e w' ⟨rfl, q1, rfl⟩
    rw [Hx.out, Option.getD_some, Option.isSome_some]
    go_wp2_with fail
    refine (rrankN_at base _ m N _ (w.drewN q1) (by rw [← Hlen.out, ← HL.out] at HV ⊢; exact HV.out.kept (grown_drewN w q1 none) (by simp)) hN).mono ?_
    rintro e w' ⟨rfl, rfl⟩
    rw [Hk.out]
    go_wp2_with fail
    refine (isPick_at (w.drewN q1) b g N m _ (HS.out.drewN q1) (HT.out.kept (grown_drewN w q1 none) (by simp)) Hi1.out).mono ?_
    rintro e w' ⟨rfl, rfl⟩
    rw [Hp.out, Option.getD_none, Option.isSome_none]
    go_wp2_with fail
    refine (told_set (w.drewN q1) b g N 100000 m (HS.out.drewN q1) (HT.out.kept (grown_drewN w q1 none) (by simp)) (by exact h0) (by decide)).mono ?_
    rintro e w2 ⟨v2, rfl, hown, hg2⟩
    rw [List.take_of_length_le (by rw [HL.out]; have := cn_le m N; omega)] at hown
    have HG2 := Lib.hid hg2
    have HV2 : Hid (NatRow (w.drewN q1).heap.size w2 v2 (els m N)) := Lib.hid hown
    have HVw : Hid (NatRow base w2 (.slice (some ⟨b1, o1, none⟩) len cap) (els m N)) := Lib.hid ((HV.out.kept (grown_drewN w q1 none) (by simp)).kept hg2 (by simp))
    have HS2 := Lib.hid ((HS.out.drewN q1).kept hg2 (by simp) (by simp))
    clear hown hg2
    have hll := els_le m hN
    have Hll := Lib.hid hll
    clear hll
    go_wp2_with fail
    refine (intsN_at _ base _ _ (els m N) (els m N) w2 HV2.out HVw.out Hll.out Hll.out).mono ?_
    rintro e w' ⟨rfl, q2, rfl⟩
    rw [decide_eq_true rfl]
    go_wp2_with fail
    refine (isCount_at _ b g N m (HS2.out.drewN q2)).mono ?_
    rintro e w' ⟨rfl, q3, rfl⟩
    rw [Hlen.out]
    go_wp2_with fail
    refine (isHas_at _ b g N m _ (HS2.out.drewN (q2 + q3))).mono ?_
    rintro e w' ⟨rfl, q4, rfl⟩
    generalize hhb : (decide (0 ≤ i) && m (i).toNat) = hb
    have Hhb := Lib.hid hhb
    clear hhb
    go_wp2_with fail
    refine (rhasN_at base _ m N _ _ (HVw.out.kept (grown_drewN w2 (q2 + q3 + q4) none) (by simp)) hN HO.out).mono ?_
    rintro e w' ⟨rfl, rfl⟩
    rw [Hhb.out]
    have hbb : (hb == hb) = true := by simp
    go_wp2_with fail
    refine (isRank_at _ b g N m _ (HS2.out.drewN (q2 + q3 + q4))).mono ?_
    rintro e w' ⟨rfl, q5, rfl⟩
    rw [Hk.out]
    go_wp2
    go_ret
    exact ⟨rfl, grown_trans (grown_trans (grown_drewN w q1 none) HG2.out) (grown_drewN _ _ none)⟩
  · go_enter Tryd.func15, Tryd.ntmps15
    go_wp2_with fail
    refine (isNext_at w b g N m _ HS.out HT.out).mono ?_
    rintro e w' ⟨rfl, q1, rfl⟩
    rw [Hx.out, Option.getD_some, Option.isSome_some]
    go_wp2_with fail
    refine (rrankN_at base _ m N _ (w.drewN q1) (by rw [← Hlen.out, ← HL.out] at HV ⊢; exact HV.out.kept (grown_drewN w q1 none) (by simp)) hN).mono ?_
    rintro e w' ⟨rfl, rfl⟩
    rw [Hk.out]
    go_wp2_with fail
    refine (isPick_at (w.drewN q1) b g N m _ (HS.out.drewN q1) (HT.out.kept (grown_drewN w q1 none) (by simp)) Hi1.out).mono ?_
    rintro e w' ⟨rfl, rfl⟩
    rw [Hp.out, Option.getD_none, Option.isSome_none]
    go_wp2_with fail
    refine (told_set (w.drewN q1) b g N 100000 m (HS.out.drewN q1) (HT.out.kept (grown_drewN w q1 none) (by simp)) (by exact h0) (by decide)).mono ?_
    rintro e w2 ⟨v2, rfl, hown, hg2⟩
    rw [List.take_of_length_le (by rw [HL.out]; have := cn_le m N; omega)] at hown
    have HG2 := Lib.hid hg2
    have HV2 : Hid (NatRow (w.drewN q1).heap.size w2 v2 (els m N)) := Lib.hid hown
    have HVw : Hid (NatRow base w2 (.slice (some ⟨b1, o1, none⟩) len cap) (els m N)) := Lib.hid ((HV.out.kept (grown_drewN w q1 none) (by simp)).kept hg2 (by simp))
    have HS2 := Lib.hid ((HS.out.drewN q1).kept hg2 (by simp) (by simp))
    clear hown hg2
    have hll := els_le m hN
    have Hll := Lib.hid hll
    clear hll
    go_wp2_with fail
    refine (intsN_at _ base _ _ (els m N) (els m N) w2 HV2.out HVw.out Hll.out Hll.out).mono ?_
    rintro e w' ⟨rfl, q2, rfl⟩
    rw [decide_eq_true rfl]
    go_wp2_with fail
    refine (isCount_at _ b g N m (HS2.out.drewN q2)).mono ?_
    rintro e w' ⟨rfl, q3, rfl⟩
    rw [Hlen.out]
    go_wp2_with fail
    refine (isHas_at _ b g N m _ (HS2.out.drewN (q2 + q3))).mono ?_
    rintro e w' ⟨rfl, q4, rfl⟩
    generalize hhb : (decide (0 ≤ i) && m (i).toNat) = hb
    have Hhb := Lib.hid hhb
    clear hhb
    go_wp2_with fail
    refine (rhasN_at base _ m N _ _ (HVw.out.kept (grown_drewN w2 (q2 + q3 + q4) none) (by simp)) hN HO.out).mono ?_
    rintro e w' ⟨rfl, rfl⟩
    rw [Hhb.out]
    have hbb : (hb == hb) = true := by simp
    go_wp2_with fail
    refine (isRank_at _ b g N m _ (HS2.out.drewN (q2 + q3 + q4))).mono ?_
    rintro e w' ⟨rfl, q5, rfl⟩
    rw [Hk.out]
    go_wp2
    go_ret
    exact ⟨rfl, grown_trans (grown_trans (grown_drewN w q1 none) HG2.out) (grown_drewN _ _ none)⟩

set_option maxHeartbeats 2000000 in
theorem stands_ns (base b g N : Nat) (m : Nat → Bool) (A : Option Addr) (cap : Nat) (i : Int) (w : World) (hs : IsSet w b g N m) (ht : Tab w) (h0 : 0 < w.heap.size) (hN : N ≤ 65536) (hi0 : -9223372036854775808 ≤ i) (hi1 : i < 9223372036854775808)
    (hv : NatRow base w (.slice A (els m N).length cap) (els m N)) (hr : RowAt .i64 (fun b => base ≤ b) w A (ci (els m N)))
    (hx : (els m N)[cn m (min i.toNat N)]? = none)
    (hp0 : 0 ≤ i) (y : Nat) (hy : (els m N)[i.toNat]? = some y) :
    Calls Tryd.prog 15 #[.pointer (some ⟨b, 0, none⟩), .slice A (els m N).length cap, .int .i64 i] w fun e w' => e = .returned (.bool true) ∧ w.grownBy w' none := by
  have ho : ∀ j, N ≤ j → m j = false := by obtain ⟨_, ws, hs', rfl⟩ := hs; exact hs'.out
  have HO := Lib.hid ho
  have HS := Lib.hid hs
  have HT := Lib.hid ht
  have HV := Lib.hid hv
  have Hi1 := Lib.hid hi1
  have hcl := cn_mono m (show min i.toNat N ≤ N by omega)
  have hkl : (els m N).length ≤ cn m (min i.toNat N) := List.getElem?_eq_none_iff.1 hx
  obtain ⟨b2, o2, rfl, hcell2, hyl⟩ := row_cell hr hy
  have Hp : Hid (pck m N i = some y) := Lib.hid (by unfold pck; rw [if_neg (by omega)]; exact hy)
  obtain ⟨j, rfl⟩ := Int.eq_ofNat_of_zero_le hp0
  rw [Int.toNat_natCast] at hcell2 hyl hy
  rw [Int.toNat_natCast] at hx hkl hcl
  have Hx : Hid (nxt m N j = none) := Lib.hid (by rw [nxt_at]; exact hx)
  have HL : Hid ((els m N).length = cn m N) := Lib.hid (els_length m N)
  have hNc := cn_le m N
  obtain ⟨k, Hk⟩ : ∃ k, Hid (cn m (min j N) = k) := ⟨_, Lib.hid rfl⟩
  obtain ⟨len, Hlen⟩ : ∃ len, Hid ((els m N).length = len) := ⟨_, Lib.hid rfl⟩
  rw [HL.out] at Hlen
  rw [HL.out, Hlen.out] at hyl HV
  rw [HL.out, Hlen.out, Hk.out] at hkl
  rw [Hk.out, Hlen.out] at hcl
  rw [Hlen.out] at hNc
  rw [HL.out, Hlen.out]
  have hkd : decide ((k : Int) < (len : Int)) = false := by simp; omega
  have hkd' : decide (k < len) = false := by simp; omega
  have hd1 : decide (0 ≤ (j : Int)) = true := by simp
  have hd2 : decide ((j : Int) < (len : Int)) = true := by simp; omega
  have hd2' : decide (j < len) = true := by simp; omega
  have HB := Lib.hid (show True from trivial)
  clear hs ht hv hi1 ho hr hx hy
  go_enter Tryd.func15, Tryd.ntmps15
  go_wp2_with fail
  refine (isNext_at w b g N m _ HS.out HT.out).mono ?_
  rintro e w' ⟨rfl, q1, rfl⟩
  rw [Int.toNat_natCast, Hx.out, Option.getD_none, Option.isSome_none]
  go_wp2_with fail
  refine (rrankN_at base _ m N _ (w.drewN q1) (by rw [← Hlen.out, ← HL.out] at HV ⊢; exact HV.out.kept (grown_drewN w q1 none) (by simp)) hN).mono ?_
  rintro e w' ⟨rfl, rfl⟩
  rw [Int.toNat_natCast, Hk.out]
  go_wp2_with fail
  refine (isPick_at (w.drewN q1) b g N m _ (HS.out.drewN q1) (HT.out.kept (grown_drewN w q1 none) (by simp)) Hi1.out).mono ?_
  rintro e w' ⟨rfl, rfl⟩
  rw [Hp.out, Option.getD_some, Option.isSome_some]
  go_wp2_with fail
  refine (told_set (w.drewN q1) b g N 100000 m (HS.out.drewN q1) (HT.out.kept (grown_drewN w q1 none) (by simp)) (by exact h0) (by decide)).mono ?_
  rintro e w2 ⟨v2, rfl, hown, hg2⟩
  rw [List.take_of_length_le (by rw [HL.out]; have := cn_le m N; omega)] at hown
  have HG2 := Lib.hid hg2
  have HV2 : Hid (NatRow (w.drewN q1).heap.size w2 v2 (els m N)) := Lib.hid hown
  have HVw : Hid (NatRow base w2 (.slice (some ⟨b2, o2, none⟩) len cap) (els m N)) := Lib.hid ((HV.out.kept (grown_drewN w q1 none) (by simp)).kept hg2 (by simp))
  have HS2 := Lib.hid ((HS.out.drewN q1).kept hg2 (by simp) (by simp))
  clear hown hg2
  have hll := els_le m hN
  have Hll := Lib.hid hll
  clear hll
  go_wp2_with fail
  refine (intsN_at _ base _ _ (els m N) (els m N) w2 HV2.out HVw.out Hll.out Hll.out).mono ?_
  rintro e w' ⟨rfl, q2, rfl⟩
  rw [decide_eq_true rfl]
  go_wp2_with fail
  refine (isCount_at _ b g N m (HS2.out.drewN q2)).mono ?_
  rintro e w' ⟨rfl, q3, rfl⟩
  rw [Hlen.out]
  go_wp2_with fail
  refine (isHas_at _ b g N m _ (HS2.out.drewN (q2 + q3))).mono ?_
  rintro e w' ⟨rfl, q4, rfl⟩
  generalize hhb : (decide (0 ≤ (j : Int)) && m ((j : Int)).toNat) = hb
  have Hhb := Lib.hid hhb
  clear hhb
  go_wp2_with fail
  refine (rhasN_at base _ m N _ _ (HVw.out.kept (grown_drewN w2 (q2 + q3 + q4) none) (by simp)) hN HO.out).mono ?_
  rintro e w' ⟨rfl, rfl⟩
  rw [Hhb.out]
  have hbb : (hb == hb) = true := by simp
  go_wp2_with fail
  refine (isRank_at _ b g N m _ (HS2.out.drewN (q2 + q3 + q4))).mono ?_
  rintro e w' ⟨rfl, q5, rfl⟩
  rw [Int.toNat_natCast, Hk.out]
  go_wp2
  go_ret
  exact ⟨rfl, grown_trans (grown_trans (grown_drewN w q1 none) HG2.out) (grown_drewN _ _ none)⟩

set_option maxHeartbeats 2000000 in
theorem stands_nn (base b g N : Nat) (m : Nat → Bool) (A : Option Addr) (cap : Nat) (i : Int) (w : World) (hs : IsSet w b g N m) (ht : Tab w) (h0 : 0 < w.heap.size) (hN : N ≤ 65536) (hi0 : -9223372036854775808 ≤ i) (hi1 : i < 9223372036854775808)
    (hv : NatRow base w (.slice A (els m N).length cap) (els m N)) (hr : RowAt .i64 (fun b => base ≤ b) w A (ci (els m N)))
    (hx : (els m N)[cn m (min i.toNat N)]? = none)
    (hy : pck m N i = none) :
    Calls Tryd.prog 15 #[.pointer (some ⟨b, 0, none⟩), .slice A (els m N).length cap, .int .i64 i] w fun e w' => e = .returned (.bool true) ∧ w.grownBy w' none := by
  have ho : ∀ j, N ≤ j → m j = false := by obtain ⟨_, ws, hs', rfl⟩ := hs; exact hs'.out
  have HO := Lib.hid ho
  have HS := Lib.hid hs
  have HT := Lib.hid ht
  have HV := Lib.hid hv
  have Hi1 := Lib.hid hi1
  have hcl := cn_mono m (show min i.toNat N ≤ N by omega)
  have hkl : (els m N).length ≤ cn m (min i.toNat N) := List.getElem?_eq_none_iff.1 hx
  have Hp := Lib.hid hy
  have hyl : ¬ (0 ≤ i ∧ i < ((els m N).length : Int)) := by
    rintro ⟨h1, h2⟩
    unfold pck at hy
    rw [if_neg (by omega)] at hy
    have := List.getElem?_eq_none_iff.1 hy
    omega
  have Hx : Hid (nxt m N i.toNat = none) := Lib.hid (by rw [nxt_at]; exact hx)
  have HL : Hid ((els m N).length = cn m N) := Lib.hid (els_length m N)
  have hNc := cn_le m N
  obtain ⟨k, Hk⟩ : ∃ k, Hid (cn m (min i.toNat N) = k) := ⟨_, Lib.hid rfl⟩
  obtain ⟨len, Hlen⟩ : ∃ len, Hid ((els m N).length = len) := ⟨_, Lib.hid rfl⟩
  rw [HL.out] at Hlen
  rw [HL.out, Hlen.out] at hyl HV
  rw [HL.out, Hlen.out, Hk.out] at hkl
  rw [Hk.out, Hlen.out] at hcl
  rw [Hlen.out] at hNc
  rw [HL.out, Hlen.out]
  have hkd : decide ((k : Int) < (len : Int)) = false := by simp; omega
  have hkd' : decide (k < len) = false := by simp; omega
  have hdd : (decide (0 ≤ i) = false) ∨ (decide (0 ≤ i) = true ∧ decide (i < (len : Int)) = false) := by
    by_cases h : 0 ≤ i
    · exact .inr ⟨by simp [h], by simp; omega⟩
    · exact .inl (by simp [h])
  have HB := Lib.hid (show True from trivial)
  clear hs ht hv hi1 ho hr hx hy
  rcases hdd with hd1 | ⟨hd1, hd2⟩
  · go_enter Tryd.func15, Tryd.ntmps15
    go_wp2_with fail
    refine (isNext_at w b g N m _ HS.out HT.out).mono ?_
    rintro e w' ⟨rfl, q1, rfl⟩
    rw [Hx.out, Option.getD_none, Option.isSome_none]
    go_wp2_with fail
    refine (rrankN_at base _ m N _ (w.drewN q1) (by rw [← Hlen.out, ← HL.out] at HV ⊢; exact HV.out.kept (grown_drewN w q1 none) (by simp)) hN).mono ?_
    rintro e w' ⟨rfl, rfl⟩
    rw [Hk.out]
    go_wp2_with fail
    refine (isPick_at (w.drewN q1) b g N m _ (HS.out.drewN q1) (HT.out.kept (grown_drewN w q1 none) (by simp)) Hi1.out).mono ?_
    rintro e w' ⟨rfl, rfl⟩
    rw [Hp.out, Option.getD_none, Option.isSome_none]
    go_wp2_with fail
    refine (told_set (w.drewN q1) b g N 100000 m (HS.out.drewN q1) (HT.out.kept (grown_drewN w q1 none) (by simp)) (by exact h0) (by decide)).mono ?_
    rintro e w2 ⟨v2, rfl, hown, hg2⟩
    rw [List.take_of_length_le (by rw [HL.out]; have := cn_le m N; omega)] at hown
    have HG2 := Lib.hid hg2
    have HV2 : Hid (NatRow (w.drewN q1).heap.size w2 v2 (els m N)) := Lib.hid hown
    have HVw : Hid (NatRow base w2 (.slice A len cap) (els m N)) := Lib.hid ((HV.out.kept (grown_drewN w q1 none) (by simp)).kept hg2 (by simp))
    have HS2 := Lib.hid ((HS.out.drewN q1).kept hg2 (by simp) (by simp))
    clear hown hg2
    have hll := els_le m hN
    have Hll := Lib.hid hll
    clear hll
    go_wp2_with fail
    refine (intsN_at _ base _ _ (els m N) (els m N) w2 HV2.out HVw.out Hll.out Hll.out).mono ?_
    rintro e w' ⟨rfl, q2, rfl⟩
    rw [decide_eq_true rfl]
    go_wp2_with fail
    refine (isCount_at _ b g N m (HS2.out.drewN q2)).mono ?_
    rintro e w' ⟨rfl, q3, rfl⟩
    rw [Hlen.out]
    go_wp2_with fail
    refine (isHas_at _ b g N m _ (HS2.out.drewN (q2 + q3))).mono ?_
    rintro e w' ⟨rfl, q4, rfl⟩
    generalize hhb : (decide (0 ≤ i) && m (i).toNat) = hb
    have Hhb := Lib.hid hhb
    clear hhb
    go_wp2_with fail
    refine (rhasN_at base _ m N _ _ (HVw.out.kept (grown_drewN w2 (q2 + q3 + q4) none) (by simp)) hN HO.out).mono ?_
    rintro e w' ⟨rfl, rfl⟩
    rw [Hhb.out]
    have hbb : (hb == hb) = true := by simp
    go_wp2_with fail
    refine (isRank_at _ b g N m _ (HS2.out.drewN (q2 + q3 + q4))).mono ?_
    rintro e w' ⟨rfl, q5, rfl⟩
    rw [Hk.out]
    go_wp2
    go_ret
    exact ⟨rfl, grown_trans (grown_trans (grown_drewN w q1 none) HG2.out) (grown_drewN _ _ none)⟩
  · go_enter Tryd.func15, Tryd.ntmps15
    go_wp2_with fail
    refine (isNext_at w b g N m _ HS.out HT.out).mono ?_
    rintro e w' ⟨rfl, q1, rfl⟩
    rw [Hx.out, Option.getD_none, Option.isSome_none]
    go_wp2_with fail
    refine (rrankN_at base _ m N _ (w.drewN q1) (by rw [← Hlen.out, ← HL.out] at HV ⊢; exact HV.out.kept (grown_drewN w q1 none) (by simp)) hN).mono ?_
    rintro e w' ⟨rfl, rfl⟩
    rw [Hk.out]
    go_wp2_with fail
    refine (isPick_at (w.drewN q1) b g N m _ (HS.out.drewN q1) (HT.out.kept (grown_drewN w q1 none) (by simp)) Hi1.out).mono ?_
    rintro e w' ⟨rfl, rfl⟩
    rw [Hp.out, Option.getD_none, Option.isSome_none]
    go_wp2_with fail
    refine (told_set (w.drewN q1) b g N 100000 m (HS.out.drewN q1) (HT.out.kept (grown_drewN w q1 none) (by simp)) (by exact h0) (by decide)).mono ?_
    rintro e w2 ⟨v2, rfl, hown, hg2⟩
    rw [List.take_of_length_le (by rw [HL.out]; have := cn_le m N; omega)] at hown
    have HG2 := Lib.hid hg2
    have HV2 : Hid (NatRow (w.drewN q1).heap.size w2 v2 (els m N)) := Lib.hid hown
    have HVw : Hid (NatRow base w2 (.slice A len cap) (els m N)) := Lib.hid ((HV.out.kept (grown_drewN w q1 none) (by simp)).kept hg2 (by simp))
    have HS2 := Lib.hid ((HS.out.drewN q1).kept hg2 (by simp) (by simp))
    clear hown hg2
    have hll := els_le m hN
    have Hll := Lib.hid hll
    clear hll
    go_wp2_with fail
    refine (intsN_at _ base _ _ (els m N) (els m N) w2 HV2.out HVw.out Hll.out Hll.out).mono ?_
    rintro e w' ⟨rfl, q2, rfl⟩
    rw [decide_eq_true rfl]
    go_wp2_with fail
    refine (isCount_at _ b g N m (HS2.out.drewN q2)).mono ?_
    rintro e w' ⟨rfl, q3, rfl⟩
    rw [Hlen.out]
    go_wp2_with fail
    refine (isHas_at _ b g N m _ (HS2.out.drewN (q2 + q3))).mono ?_
    rintro e w' ⟨rfl, q4, rfl⟩
    generalize hhb : (decide (0 ≤ i) && m (i).toNat) = hb
    have Hhb := Lib.hid hhb
    clear hhb
    go_wp2_with fail
    refine (rhasN_at base _ m N _ _ (HVw.out.kept (grown_drewN w2 (q2 + q3 + q4) none) (by simp)) hN HO.out).mono ?_
    rintro e w' ⟨rfl, rfl⟩
    rw [Hhb.out]
    have hbb : (hb == hb) = true := by simp
    go_wp2_with fail
    refine (isRank_at _ b g N m _ (HS2.out.drewN (q2 + q3 + q4))).mono ?_
    rintro e w' ⟨rfl, q5, rfl⟩
    rw [Hk.out]
    go_wp2
    go_ret
    exact ⟨rfl, grown_trans (grown_trans (grown_drewN w q1 none) HG2.out) (grown_drewN _ _ none)⟩
theorem stands_at (base b g N : Nat) (m : Nat → Bool) (v : Value) (i : Int) (w : World) (hs : IsSet w b g N m) (ht : Tab w) (h0 : 0 < w.heap.size) (hN : N ≤ 65536) (hi0 : -9223372036854775808 ≤ i) (hi1 : i < 9223372036854775808)
    (hv : NatRow base w v (els m N)) :
    Calls Tryd.prog 15 #[.pointer (some ⟨b, 0, none⟩), v, .int .i64 i] w fun e w' => e = .returned (.bool true) ∧ w.grownBy w' none := by
  obtain ⟨A, cap, rfl, hr, _⟩ := hv.slice
  cases hx : (els m N)[cn m (min i.toNat N)]? with
  | some x =>
    cases hy : pck m N i with
    | none => exact stands_sn base b g N m A cap i w hs ht h0 hN hi0 hi1 hv hr x hx hy
    | some y =>
      unfold pck at hy
      by_cases hp : i < 0
      · rw [if_pos hp] at hy; cases hy
      · rw [if_neg hp] at hy
        exact stands_ss base b g N m A cap i w hs ht h0 hN hi0 hi1 hv hr x hx (by omega) y hy
  | none =>
    cases hy : pck m N i with
    | none => exact stands_nn base b g N m A cap i w hs ht h0 hN hi0 hi1 hv hr hx hy
    | some y =>
      unfold pck at hy
      by_cases hp : i < 0
      · rw [if_pos hp] at hy; cases hy
      · rw [if_neg hp] at hy
        exact stands_ns base b g N m A cap i w hs ht h0 hN hi0 hi1 hv hr hx (by omega) y hy
end Go.Proofs.YtjdapbianbikpaaDoor
