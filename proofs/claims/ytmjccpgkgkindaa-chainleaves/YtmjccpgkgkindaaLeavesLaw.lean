/-
  The walk of the law that what is removed leaves all others as they stood.
-/
import Derived.Test.YtmjccpgkgkindaaAdds
import Derived.Deep.RegionHeld3
import Derived.Deep.CutRange
namespace Go.Proofs.Ytmjccpgkgkindaa
open Go.ChangeShapes Go.WideShapes Go.ChangeAt Go.RowKit
set_option linter.unusedVariables false
set_option maxRecDepth 100000

set_option maxHeartbeats 4000000 in
theorem leaves_walk (A : Option Addr) (len cap kk : Nat) (zs : List Nat) (w : World) (hlen : zs.length = len) (hz : ∀ x ∈ zs, x < 256) (hr : BRow w A zs) (hk : kk < 18446744073709551616) (h60 : len ≤ 60) :
    Calls Try.prog 4 #[.slice A len cap, .int .u64 (kk : Int)] w fun e w' => e = .returned (.bool true) ∧ w.grownBy w' none := by
  have hd : decide (60 < (len : Int)) = false := by simp; omega
  have hd' : decide (60 < len) = false := by simp; omega
  have c0 : Calls Try.prog 7 #[.int .i64 256, .int .i64 1] w fun e w' => ∃ gL gN, e = .returned (.tuple #[.pointer (some ⟨w.heap.size + 2, 0, none⟩), .int .i64 0]) ∧ IsCh w' w.heap.size (w.heap.size + 2) gL gN (chn 0 []) ∧ w.grownBy w' none := new_is 256 1 w (by decide) (by decide) (by decide)
  have Hlen := Lib.hid hlen
  have HZ := Lib.hid hz
  have HB := Lib.hid hr
  clear hlen hz hr
  go_enter Try.func4, Try.ntmps4
  go_wp2_with fail
  refine c0.mono ?_
  rintro e w1 ⟨gL, gN, rfl, hs, hg⟩
  have HG1 := Lib.hid hg
  have HS1 := Lib.hid hs
  have HL := Lib.hid hs.los
  clear hs hg c0
  go_wp2_with fail
  go_loopw [33] (fun k wr => ∃ k' : Nat, k' ≤ len ∧ k = .int .i64 (k' : Int) ∧ Hid (IsCh wr w.heap.size (w.heap.size + 2) gL gN (chn 0 (dl (zs.take k')))) ∧ Hid (w.grownBy wr none)) (fun k _ => len - (intOf k).toNat)
  case atStart => exact ⟨0, by omega, by go_num, HS1, HG1⟩
  case round =>
    obtain ⟨k, hk, rfl, HS2, HG2⟩ := hrel
    clear HS1 HG1
    by_cases hlt : k < len
    · have hx0 : ¬ zs = [] := by intro e; have := Hlen.out; rw [e] at this; simp at this; omega
      obtain ⟨b1, o1, rfl, hb1, hc1⟩ := HB.out.resolve_left hx0
      obtain ⟨x, Hx⟩ : ∃ x, Hid (zs[k]? = some x) := ⟨_, Lib.hid (List.getElem?_eq_getElem (by rw [Hlen.out]; exact hlt))⟩
      have hcell := HG2.out.cell (hc1 k x Hx.out) (by simp)
      have hx256 : x < 256 := HZ.out x (List.mem_of_getElem? Hx.out)
      have hw32 : IntKind.i32.wrap (x : Int) = (x : Int) := by rw [IntKind.wrap_i32]; omega
      have hc := behind_add HS2.out hx256
      rw [← dl_take Hx.out] at hc
      have HC := Lib.hid hc
      clear hc hc1 hx0
      go_wp2_with (go_at_call 14; refine HC.out.mono ?_; rintro e w2 ⟨v, rfl, hs, hk2⟩; have HS3 := Lib.hid hs; have HG3 := Lib.hid (Kp.grown HG2.out hk2 HL.out.2.1 HL.out.2.2); clear hs hk2)
      go_roundw
      case rel => exact ⟨k + 1, by omega, by go_num, HS3, HG3⟩
      case measure => simp [intOf]; omega
    · obtain rfl : k = len := by omega
      rw [List.take_of_length_le (by rw [Hlen.out]; exact Nat.le_refl _)] at HS2
      obtain ⟨l, Hl⟩ : ∃ l, Hid (dl zs = l) := ⟨_, Lib.hid rfl⟩
      have hll : l.length ≤ 60 := by rw [← Hl.out]; have := dl_len zs; have := Hlen.out; omega
      rw [Hl.out] at HS2
      have c1 : Calls Try.prog 15 #[.pointer (some ⟨w.heap.size + 2, 0, none⟩), .int .i64 0, .int .i64 1000] wr (ToldPost wr l 1000) := told_is HS2.out 0 1000 (by decide)
      go_wp2_with fail
      refine c1.mono ?_
      rintro e w2 ⟨v, rfl, hr, hg⟩
      rw [List.take_of_length_le (by omega)] at hr
      have HR2 := Lib.hid (NRow.of_owns hr rfl)
      have HG3 := Lib.hid (grown_trans HG2.out hg)
      have HS3 := Lib.hid (HS2.out.kept hg)
      obtain ⟨A2, cap2, rfl⟩ := owns_slice hr
      clear hr hg c1 HS2 HG2
      by_cases hl0 : l.length = 0
      · have hk0 : k = 0 := by
          have h1 : l = [] := List.eq_nil_of_length_eq_zero hl0
          by_cases hzn : zs = []
          · rw [← Hlen.out, hzn]; rfl
          · exact absurd (Hl.out.trans h1) (dl_ne hzn)
        subst hk0
        rw [hl0]
        go_wp2_with (go_at_call 9; refine (alive_any w2).mono ?_; rintro e w3 ⟨rfl, hg3⟩; have HG4 := Lib.hid (grown_trans HG3.out hg3); clear hg3)
        go_ret
        exact ⟨rfl, HG4.out⟩
      · obtain ⟨n, Hn⟩ : ∃ n, Hid (l.length = n) := ⟨_, Lib.hid rfl⟩
        rw [Hn.out] at hl0 hll ⊢
        have hne : ((n : Int) == 0) = false := by simp; omega
        have hne' : (n == 0) = false := by simp; omega
        obtain ⟨i, Hi⟩ : ∃ i, Hid (kk % n = i) := ⟨_, Lib.hid rfl⟩
        have hin : i < n := by rw [← Hi.out]; exact Nat.mod_lt _ (by omega)
        have hmod : wrap64 ((kk : Int) % (n : Int)) = (i : Int) := by
          have : ((kk : Int) % (n : Int)) = (i : Int) := by rw [← Int.natCast_emod, Hi.out]
          rw [this]; unfold wrap64; omega
        obtain ⟨x, Hx⟩ : ∃ x, Hid (l[i]? = some x) := ⟨_, Lib.hid (List.getElem?_eq_getElem (by rw [Hn.out]; exact hin))⟩
        have HD := Lib.hid (take_drop_at Hx.out)
        obtain ⟨l1, Hl1⟩ : ∃ l1, Hid (l.take i = l1) := ⟨_, Lib.hid rfl⟩
        obtain ⟨l2, Hl2⟩ : ∃ l2, Hid (l.drop (i + 1) = l2) := ⟨_, Lib.hid rfl⟩
        rw [Hl1.out, Hl2.out] at HD
        have HN3 := Lib.hid HS3.out.ok
        have hxl : x ∉ l1 ++ l2 := by
          have h1 := HN3.out.nd 0
          rw [chn_of0, HD.out] at h1
          have h2 := List.nodup_append.1 h1
          intro hm
          rcases List.mem_append.1 hm with hm | hm
          · exact h2.2.2 x hm x (by simp) rfl
          · exact (List.nodup_cons.1 h2.2.1).1 hm
        have Hxl := Lib.hid hxl
        have hx256 : x < 256 := HN3.out.lt 0 x (by rw [chn_of0, HD.out]; simp)
        have HX256 := Lib.hid hx256
        clear hxl HN3 hx256
        rw [Hn.out] at HR2
        obtain ⟨b2, o2, rfl, hcell⟩ := HR2.out.at Hx.out
        have c2 : Calls Try.prog 16 #[.pointer (some ⟨w.heap.size + 2, 0, none⟩), .int .i32 (x : Int)] w2 (ChPost w2 w.heap.size (w.heap.size + 2) gL gN (chn 0 (l1 ++ l2)) (.bool true)) := remove_is HS3.out (i := 0) HD.out
        have HC2 := Lib.hid c2
        clear c2
        go_wp2_with fail
        refine HC2.out.mono ?_
        rintro e w3 ⟨rfl, hs, hk3⟩
        have HS4 := Lib.hid hs
        have HG4 := Lib.hid (Kp.grown HG3.out hk3 HL.out.2.1 HL.out.2.2)
        have HR4 := Lib.hid (HR2.out.kp hk3 HS3.out.types.2.1 HS3.out.types.2.2)
        clear hs hk3 hcell HC2 HS3 HG3 HR2
        obtain ⟨b2', o2', hA, hcell⟩ := HR4.out.at Hx.out
        cases hA
        have c3 := remove_er HS4.out (n := (x : Int)) (by have := HX256.out; constructor <;> omega) (Ch.has_free.2 (chn_free Hxl.out))
        go_wp2_with fail
        refine c3.mono ?_
        rintro e w' ⟨rfl, rfl⟩
        have c4 : Calls Try.prog 15 #[.pointer (some ⟨w.heap.size + 2, 0, none⟩), .int .i64 0, .int .i64 1000] w3 (ToldPost w3 (l1 ++ l2) 1000) := told_is HS4.out 0 1000 (by decide)
        have hll2 : (l1 ++ l2).length ≤ 60 := by have h1 := Hn.out; rw [HD.out] at h1; simp at h1 ⊢; omega
        clear c3 hcell
        go_wp2_with fail
        refine c4.mono ?_
        rintro e w4 ⟨v4, rfl, hr, hg⟩
        rw [List.take_of_length_le (by omega)] at hr
        have HO5 := Lib.hid (NRow.of_owns hr rfl)
        have HG5 := Lib.hid (grown_trans HG4.out hg)
        have HS5 := Lib.hid (HS4.out.kept hg)
        have HR5 := Lib.hid (HR4.out.kept hg)
        obtain ⟨A4, cap4, rfl⟩ := owns_slice hr
        obtain ⟨m, Hm⟩ : ∃ m, Hid ((l1 ++ l2).length = m) := ⟨_, Lib.hid rfl⟩
        rw [Hm.out] at HO5 ⊢
        clear hr hg c4 HS4 HG4 HR4
        go_wp2_with fail
        have hincap : n ≤ cap2 := by obtain ⟨A', cap', hv, h1, _⟩ := HR5.out; cases hv; exact h1
        have hi1 : i + 1 ≤ n := by omega
        have hc0 : ¬ cap2 = 0 := by omega
        have hiI : (i : Int) ≤ (cap2 : Int) := by omega
        have hiI2 : (i : Int) + 1 ≤ (n : Int) := by omega
        have hJ : ∀ v u, NRow w4.drew v l1 → NRow w4.drew u l2 → Calls Try.prog 18 #[v, u] w4.drew fun e w' => ∃ Aj cj, e = .returned (.slice Aj m cj) ∧ Hid (NRow w' (.slice Aj m cj) (l1 ++ l2)) ∧ Hid (w4.grownBy w' none) := by
          intro v u hv hu
          refine (joined_at v u l1 l2 w4.drew hv hu (by rw [← List.length_append]; omega)).mono ?_
          rintro e w' ⟨r, rfl, ho, hg⟩
          obtain ⟨Aj, cj, rfl⟩ := owns_slice ho
          have hn := NRow.of_owns ho rfl
          rw [Hm.out] at hn ⊢
          exact ⟨Aj, cj, rfl, Lib.hid hn, Lib.hid (grown_trans (grown_drewN w4 1 none) hg)⟩
        have hNo : ∀ (wj : World) (Aj : Option Addr) (cj : Nat), Hid (w4.grownBy wj none) → Hid (NRow wj (.slice Aj m cj) (l1 ++ l2)) → Calls Try.prog 17 #[.slice A4 m cap4, .slice Aj m cj] wj fun e w' => e = .returned (.bool true) ∧ Hid (w4.grownBy w' none) := by
          intro wj Aj cj hg hn
          refine (nodes_at _ _ _ _ wj (HO5.out.kept hg.out) hn.out (by omega) (by omega)).mono ?_
          rintro e w' ⟨rfl, q, rfl⟩
          rw [show decide (l1 ++ l2 = l1 ++ l2) = true from decide_eq_true rfl]
          exact ⟨rfl, Lib.hid (grown_trans hg.out (grown_drewN wj q none))⟩
        have hN1 : NRow w4.drew (.slice (some ⟨b2, o2, none⟩) i cap2) l1 := by
          obtain ⟨A', cap', hv, h⟩ := (HR5.out.kept (grown_drewN w4 1 none)).take i (by rw [Hn.out]; omega)
          cases hv
          rw [Hl1.out] at h
          exact h
        have hN2 : (cap2 = i + 1 → NRow w4.drew (.slice (some ⟨b2, o2, none⟩) (n - (i + 1)) 0) l2) ∧ ∀ c', cap2 = i + 1 + (c' + 1) → NRow w4.drew (.slice (some ⟨b2, o2 + (i + 1), none⟩) (n - (i + 1)) (c' + 1)) l2 := by
          have := NRow.dropped (HR5.out.kept (grown_drewN w4 1 none)) (i + 1) (by rw [Hn.out]; omega)
          rw [Hl2.out] at this
          exact this
        have HJ := Lib.hid hJ
        have HNo := Lib.hid hNo
        have HN1 := Lib.hid hN1
        have HN2 := Lib.hid hN2
        clear hJ hNo hN1 hN2
        go_cut [99] from 89 to 99 (fun v wc => v = .bool false ∧ Hid (w4.grownBy wc none))
        case first =>
          have hwr : IntKind.i64.wrap ((i : Int) + 1) = (i : Int) + 1 := by rw [IntKind.wrap_i64]; omega
          have h0i : (0 : Int) ≤ (i : Int) := by omega
          have hp1 : 0 ≤ (i : Int) + 1 := by omega
          by_cases hcc : cap2 = i + 1
          · subst hcc
            have HJ2 := Lib.hid (HJ.out _ _ HN1.out (HN2.out.1 rfl))
            have hle : (i : Int) ≤ (i : Int) + 1 := by omega
            clear HJ HN1 HN2 hincap hc0 hiI
            go_region_held3 (fun _ => True) (first | exact trivial) (first | (go_at_call 18; refine HJ2.out.mono ?_; rintro e wj ⟨Aj, cj, rfl, HNj, HGj⟩) | (go_at_call 17; refine (HNo.out _ _ _ HGj HNj).mono ?_; rintro e wn ⟨rfl, HGn⟩))
            all_goals (go_wp2; go_meet; exact ⟨rfl, HGn⟩)
          · have HJ2 := Lib.hid (HJ.out _ _ HN1.out (HN2.out.2 (cap2 - (i + 1) - 1) (by omega)))
            rw [show cap2 - (i + 1) - 1 + 1 = cap2 - (i + 1) by omega] at HJ2
            clear HJ HN1 HN2
            go_region_held3 (fun _ => True) (first | exact trivial) (first | (go_at_call 18; refine HJ2.out.mono ?_; rintro e wj ⟨Aj, cj, rfl, HNj, HGj⟩) | (go_at_call 17; refine (HNo.out _ _ _ HGj HNj).mono ?_; rintro e wn ⟨rfl, HGn⟩))
            all_goals (go_wp2; go_meet; exact ⟨rfl, HGn⟩)
        case rest =>
          obtain ⟨rfl, HGc⟩ := hcut
          have HG6 := Lib.hid (grown_trans HG5.out HGc.out)
          have HS6 := Lib.hid (HS5.out.kept HGc.out)
          have HR6 := Lib.hid (HR5.out.kept HGc.out)
          clear HGc HG5 HS5 HR5 HJ HNo HN1 HN2 HO5
          -- it is put in again
          by_cases hi0 : i = 0
          · subst hi0
            have Hl1e : Hid (l1 = []) := Lib.hid (by rw [← Hl1.out]; simp)
            obtain ⟨b2', o2', hA, hcell⟩ := HR6.out.at Hx.out
            cases hA
            have hcell0 : wc.cell? ⟨b2, o2, none⟩ = some (.int .i32 (x : Int)) := hcell
            have c6 : Calls Try.prog 19 #[.pointer (some ⟨w.heap.size + 2, 0, none⟩), .int .i64 0, .int .i32 (x : Int)] wc (ChPost wc w.heap.size (w.heap.size + 2) gL gN (chn 0 l) (.int .i64 0)) := by
              have := ahead_is HS6.out (i := 0) (x := x) (by rw [chn_len]; omega) HX256.out (chn_free Hxl.out)
              rw [chn_of0, chn_put, Hl1e.out, List.nil_append] at this
              have e : l = x :: l2 := by have := HD.out; rw [Hl1e.out] at this; exact this
              rw [e]; exact this
            have HC6 := Lib.hid c6
            clear c6
            go_wp2_with fail
            refine HC6.out.mono ?_
            rintro e w6 ⟨rfl, hs, hk6⟩
            have HS7 := Lib.hid hs
            have HG7 := Lib.hid (Kp.grown HG6.out hk6 HL.out.2.1 HL.out.2.2)
            have HR7 := Lib.hid (HR6.out.kp hk6 HS6.out.types.2.1 HS6.out.types.2.2)
            clear hs hk6 hcell hcell0 HC6 HS6 HG6 HR6
            have c7 : Calls Try.prog 15 #[.pointer (some ⟨w.heap.size + 2, 0, none⟩), .int .i64 0, .int .i64 1000] w6 (ToldPost w6 l 1000) := told_is HS7.out 0 1000 (by decide)
            go_wp2_with fail
            refine c7.mono ?_
            rintro e w7 ⟨v7, rfl, hr, hg⟩
            rw [List.take_of_length_le (by rw [Hn.out]; omega)] at hr
            have HO8 := Lib.hid (NRow.of_owns hr rfl)
            have HG8 := Lib.hid (grown_trans HG7.out hg)
            have HR8 := Lib.hid (HR7.out.kept hg)
            obtain ⟨A7, cap7, rfl⟩ := owns_slice hr
            rw [Hn.out] at HO8 ⊢
            clear hr hg c7 HS7 HG7 HR7
            go_wp2_with fail
            refine (nodes_at _ _ _ _ w7 HO8.out HR8.out (by rw [Hn.out]; omega) (by rw [Hn.out]; omega)).mono ?_
            rintro e w8 ⟨rfl, q, rfl⟩
            rw [show decide (l = l) = true from decide_eq_true rfl]
            have HG9 := Lib.hid (grown_trans HG8.out (grown_drewN w7 q none))
            clear HG8 HO8 HR8
            generalize w7.drewN q = w9 at *
            go_wp2_with fail
            refine (alive_any w9).mono ?_
            rintro e w10 ⟨rfl, hg⟩
            have HGA := Lib.hid (grown_trans HG9.out hg)
            clear hg HG9
            go_wp2
            go_ret
            exact ⟨rfl, HGA.out⟩
          · obtain ⟨j, hj⟩ : ∃ j : Nat, i = j + 1 := ⟨i - 1, by omega⟩
            have hjn : j < n := by omega
            have hsub : (i : Int) - 1 = (j : Int) := by omega
            have hjw : IntKind.i64.wrap (j : Int) = (j : Int) := by rw [IntKind.wrap_i64]; omega
            obtain ⟨y, Hy⟩ : ∃ y, Hid (l[j]? = some y) := ⟨_, Lib.hid (List.getElem?_eq_getElem (by rw [Hn.out]; exact hjn))⟩
            have He : Hid (l1 = l.take j ++ [y]) := Lib.hid (by rw [← Hl1.out, hj]; exact take_snoc Hy.out)
            have c6 : ∀ w', wc.grownBy w' none → Calls Try.prog 20 #[.pointer (some ⟨w.heap.size + 2, 0, none⟩), .int .i32 (x : Int), .int .i32 (y : Int)] w' (ChPost w' w.heap.size (w.heap.size + 2) gL gN (chn 0 l) (.int .i64 0)) := by
              intro w' hg'
              have := insert_is (HS6.out.kept hg') (i := 0) (x := x) (a := y) (l1 := l.take j) (l2 := l2) (by rw [chn_of0, He.out]; simp) HX256.out (chn_free Hxl.out)
              rw [chn_put] at this
              have e : l = l.take j ++ y :: x :: l2 := by
                have h1 := HD.out
                rw [He.out, List.append_assoc] at h1
                exact h1
              rw [← e] at this; exact this
            have HC6 := Lib.hid c6
            have Hj := Lib.hid hj
            clear c6 hj
            go_wp2_with fail
            refine region_tail 10 (by kernel_rfl) (by kernel_rfl) ?_
            intro wd hwd
            have HGd : Hid (wc.grownBy wd none) := Lib.hid (by rw [hwd]; exact grown_drewN wc 1 none)
            have HRd := Lib.hid (HR6.out.kept HGd.out)
            have HSd := Lib.hid (HS6.out.kept HGd.out)
            have HG6d := Lib.hid (grown_trans HG6.out HGd.out)
            obtain ⟨b2', o2', hA, hcell⟩ := HRd.out.at Hx.out
            cases hA
            obtain ⟨b2', o2', hA, hcell2⟩ := HRd.out.at Hy.out
            cases hA
            have HCd := Lib.hid (HC6.out wd HGd.out)
            clear hwd HC6 HR6 HS6 HG6 HGd
            simp only [List.take_succ_cons, List.take_zero, List.drop_succ_cons, List.drop_zero]
            repeat still_step
            refine wpStill_nil ?_
            clear hcell hcell2
            go_wp2_with fail
            refine HCd.out.mono ?_
            rintro e w6 ⟨rfl, hs, hk6⟩
            have HS7 := Lib.hid hs
            have HG7 := Lib.hid (Kp.grown HG6d.out hk6 HL.out.2.1 HL.out.2.2)
            have HR7 := Lib.hid (HRd.out.kp hk6 HSd.out.types.2.1 HSd.out.types.2.2)
            clear hs hk6 HCd HSd HG6d HRd
            have c7 : Calls Try.prog 15 #[.pointer (some ⟨w.heap.size + 2, 0, none⟩), .int .i64 0, .int .i64 1000] w6 (ToldPost w6 l 1000) := told_is HS7.out 0 1000 (by decide)
            go_wp2_with fail
            refine c7.mono ?_
            rintro e w7 ⟨v7, rfl, hr, hg⟩
            rw [List.take_of_length_le (by rw [Hn.out]; omega)] at hr
            have HO8 := Lib.hid (NRow.of_owns hr rfl)
            have HG8 := Lib.hid (grown_trans HG7.out hg)
            have HR8 := Lib.hid (HR7.out.kept hg)
            obtain ⟨A7, cap7, rfl⟩ := owns_slice hr
            rw [Hn.out] at HO8 ⊢
            clear hr hg c7 HS7 HG7 HR7
            go_wp2_with fail
            refine (nodes_at _ _ _ _ w7 HO8.out HR8.out (by rw [Hn.out]; omega) (by rw [Hn.out]; omega)).mono ?_
            rintro e w8 ⟨rfl, q, rfl⟩
            rw [show decide (l = l) = true from decide_eq_true rfl]
            have HG9 := Lib.hid (grown_trans HG8.out (grown_drewN w7 q none))
            clear HG8 HO8 HR8
            generalize w7.drewN q = w9 at *
            go_wp2_with fail
            refine (alive_any w9).mono ?_
            rintro e w10 ⟨rfl, hg⟩
            have HGA := Lib.hid (grown_trans HG9.out hg)
            clear hg HG9
            go_wp2
            go_ret
            exact ⟨rfl, HGA.out⟩
theorem leaves_long (A : Option Addr) (len cap : Nat) (k : Int) (w : World) (h : 60 < len) :
    Calls Try.prog 4 #[.slice A len cap, .int .u64 k] w fun e w' => e = .returned (.bool true) ∧ w.grownBy w' none := by
  have hd : decide (60 < (len : Int)) = true := by simp; omega
  have hd' : decide (60 < len) = true := by simp; omega
  have H := Lib.hid (alive_any w)
  go_enter Try.func4, Try.ntmps4
  go_wp2_with (go_at_call 9; refine H.out.mono ?_; rintro e w' ⟨rfl, hg⟩; have HG := Lib.hid hg; clear hg)
  go_ret
  exact ⟨rfl, HG.out⟩
end Go.Proofs.Ytmjccpgkgkindaa
