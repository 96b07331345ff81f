/-
  What was put is found, however many there are: the law's walk.
-/
import Derived.Test.YtnhjnciadmgkeaaDoorManyLaw
namespace Go.Proofs.YtnhjnciadmgkeaaDoor
open Go.ChangeShapes Go.WideShapes Go.ChangeAt Go.RowKit
set_option linter.unusedVariables false
set_option maxHeartbeats 1000000 in
theorem many_even (f b m d : Int) (w : World) (ht : Tab w) (hf : Wd f) (hb : Wd b) (hm : 0 ≤ m ∧ m ≤ 65535) (hd : 0 ≤ d ∧ d ≤ 255) (ho : decide (b % 2 = 1) = false) :
    Calls Tryd.prog 4 #[.int .u64 f, .int .u64 b, .int .u16 m, .int .u8 d] w fun e w' => e = .returned (.bool true) ∧ w.grownBy w' none := by
  obtain ⟨m0, m1⟩ := hm
  obtain ⟨d0, d1⟩ := hd
  obtain ⟨n, hmn, hn⟩ : ∃ n : Nat, m % 700 = (n : Int) ∧ n < 700 := ⟨(m % 700).toNat, by omega, by omega⟩
  obtain ⟨e, hde, he2, he8⟩ : ∃ e : Nat, d % 7 + 2 = (e : Int) ∧ 2 ≤ e ∧ e ≤ 8 := ⟨(d % 7 + 2).toNat, by omega, by omega, by omega⟩
  have hbit := odd_bit b hb
  rw [ho] at hbit
  have b0 := hb.1
  have f0 := hf.1
  have HNEW := Lib.hid (new_is w)
  have HT := Lib.hid ht
  have HMN := Lib.hid hmn
  have HDE := Lib.hid hde
  clear ht ho hf hb hmn hde
  go_enter Tryd.func4, Tryd.ntmps4
  go_wp2_with fail
  refine HNEW.out.mono ?_
  rintro r w1 ⟨rfl, hs, hg⟩
  have HL0 : Hid (IsT w1 w.heap.size (w.heap.size + 1) Tb.new ∧ ML false f b 0 Tb.new ∧ w.grownBy w1 none) := Lib.hid ⟨hs, ⟨Nat.le_refl _, Nat.le_refl _, fun _ => rfl, fun _ j hj => absurd hj (Nat.not_lt_zero j), fun _ k2 _ _ => new_look k2⟩, hg⟩
  clear hs hg HNEW
  go_wp2_with fail
  rw [HMN.out]
  go_loopg [11, 12] n (fun g c v wr => ∃ (i : Nat) (T : Tb), c = .int .u64 (i : Int) ∧ v = .int .i64 (i : Int) ∧ i ≤ n ∧ g + i = n ∧ Hid (IsT wr w.heap.size (w.heap.size + 1) T ∧ ML false f b i T ∧ w.grownBy wr none))
  case atStart => exact ⟨0, Tb.new, by go_num, by go_num, by omega, by omega, HL0⟩
  case round =>
    obtain ⟨i, T, rfl, rfl, hin, hgi, HL⟩ := hrel
    clear HL0
    by_cases hlt : i < n
    · have e1 : IntKind.u64.wrap (i : Int) = (i : Int) := by rw [IntKind.wrap_u64]; omega
      have e2 : IntKind.i32.wrap (i : Int) = (i : Int) := by rw [IntKind.wrap_i32]; omega
      have e3 : IntKind.u64.wrap ((i : Int) + 1) = (i : Int) + 1 := by rw [IntKind.wrap_u64]; omega
      have hput := put_is HL.out.1 (keyAt f b i) (i : Int) (keyAt_wd _ _ _) ⟨by omega, by omega⟩ (HT.out.kept HL.out.2.2) HT.out.size (by have := HL.out.2.1.mv; omega) (by have := HL.out.2.1.le; omega)
      have hput2 : Calls Tryd.prog 13 #[.pointer (some ⟨w.heap.size + 1, 0, none⟩), .int .u64 (keyAt f b i), .int .i32 (i : Int)] wr fun r w2 => ∃ bb, r = .returned (.bool bb) ∧ ∃ T', IsT w2 w.heap.size (w.heap.size + 1) T' ∧ PutRel T (keyAt f b i) (i : Int) T' ∧ Keep w.heap.size wr w2 := hput.mono fun r w2 h => ⟨_, h.1, h.2⟩
      have HP := Lib.hid hput2
      unfold keyAt at HP
      clear hput hput2
      go_wp2_with fail
      refine HP.out.mono ?_
      rintro r w2 ⟨bb, rfl, T', g1, g2, g3⟩
      have HL2 : Hid (IsT w2 w.heap.size (w.heap.size + 1) T' ∧ ML false f b (i + 1) T' ∧ w.grownBy w2 none) := Lib.hid ⟨g1, HL.out.2.1.step (fun h => by cases h) (by omega) g2, g3.grown HL.out.2.2 (Nat.le_refl _)⟩
      clear g1 g2 g3 HP HL
      go_wp2_with fail
      go_roundg (gk - 1)
      case measure => omega
      case rel => exact ⟨i + 1, T', by go_num, by go_num, by omega, by omega, HL2⟩
    · obtain rfl : i = n := by omega
      clear hlt hin hgi
      have HD0 : Hid (IsT wr w.heap.size (w.heap.size + 1) T ∧ DL false f b i e 0 T ∧ w.grownBy wr none) := Lib.hid ⟨HL.out.1, ⟨HL.out.2.1.le, HL.out.2.1.mv, fun h j hj => by rw [if_neg (by omega)]; exact HL.out.2.1.has h j hj⟩, HL.out.2.2⟩
      clear HL
      obtain ⟨wo, hwo⟩ : ∃ wo : World, wo = wr := ⟨_, rfl⟩
      rw [← hwo] at HD0 ⊢
      clear hwo
      go_wp2_with fail
      rw [HDE.out]
      go_loopg [11, 14] (i + 1) (fun g c v wr => ∃ (q : Nat) (T : Tb), c = .int .u64 ((i + q : Nat) : Int) ∧ v = .int .i64 ((q * e : Nat) : Int) ∧ q * e ≤ i + 8 ∧ q ≤ i ∧ g + q = i + 1 ∧ Hid (IsT wr w.heap.size (w.heap.size + 1) T ∧ DL false f b i e q T ∧ w.grownBy wr none))
      case atStart => exact ⟨0, T, by go_num, by simp, by omega, by omega, by omega, HD0⟩
      case round =>
        obtain ⟨q, T, rfl, rfl, hq8, hqi, hgq, HL⟩ := hrel
        clear HD0
        obtain ⟨qe, hqe⟩ : ∃ qe, qe = q * e := ⟨_, rfl⟩
        obtain ⟨cc, hcc⟩ : ∃ cc, cc = i + q := ⟨_, rfl⟩
        have hq2 : q * 2 ≤ q * e := Nat.mul_le_mul_left q he2
        rw [← hqe] at hq8 hq2 ⊢
        rw [← hcc]
        have HQE := Lib.hid hqe
        have HCC := Lib.hid hcc
        clear hqe hcc
        by_cases hlt : qe < i
        · have e1 : IntKind.u64.wrap (qe : Int) = (qe : Int) := by rw [IntKind.wrap_u64]; omega
          have e3 : IntKind.u64.wrap ((cc : Int) + 1) = (cc : Int) + 1 := by have := HCC.out; rw [IntKind.wrap_u64]; omega
          have hdr := drop_is HL.out.1 (keyAt f b qe) (keyAt_wd _ _ _) (HT.out.kept HL.out.2.2) HT.out.size (by have := HL.out.2.1.mv; omega)
          have hdr2 : Calls Tryd.prog 15 #[.pointer (some ⟨w.heap.size + 1, 0, none⟩), .int .u64 (keyAt f b qe)] wr fun r w2 => ∃ bb, r = .returned (.bool bb) ∧ ∃ T', IsT w2 w.heap.size (w.heap.size + 1) T' ∧ DropRel T (keyAt f b qe) T' ∧ Keep w.heap.size wr w2 := hdr.mono fun r w2 h => ⟨_, h.1, h.2⟩
          have HP := Lib.hid hdr2
          unfold keyAt at HP
          clear hdr hdr2
          go_wp2_with fail
          refine HP.out.mono ?_
          rintro r w2 ⟨bb, rfl, T', g1, g2, g3⟩
          have HL2 : Hid (IsT w2 w.heap.size (w.heap.size + 1) T' ∧ DL false f b i e (q + 1) T' ∧ w.grownBy w2 none) := by
            refine Lib.hid ⟨g1, HL.out.2.1.step (fun h => by cases h) (by omega) he2 (by rw [← HQE.out]; exact hlt) ?_, g3.grown HL.out.2.2 (Nat.le_refl _)⟩
            rw [← HQE.out]; exact g2
          clear g1 g2 g3 HP HL
          go_wp2_with fail
          go_roundg (gk - 1)
          case measure => omega
          case rel =>
            have hE := HQE.out
            have hC := HCC.out
            refine ⟨q + 1, T', ?_, ?_, ?_, by omega, by omega, HL2⟩
            · rw [hC]; congr 1
            · rw [hE]; congr 1; rw [Nat.add_mul, Nat.one_mul]; omega
            · rw [Nat.add_mul, Nat.one_mul]; omega
        · have hmv := moves_is HL.out.1
          have hml : T.mv ≤ 4 * cc := by have := HL.out.2.1.mv; have := HCC.out; omega
          have HMV := Lib.hid hmv
          have hc9 : cc ≤ 1400 := by have := HCC.out; omega
          have e4 : IntKind.u64.wrap (4 * (cc : Int)) = 4 * (cc : Int) := by rw [IntKind.wrap_u64]; omega
          have HAL := Lib.hid (alive_any wr (HT.out.kept HL.out.2.2))
          have HG := Lib.hid HL.out.2.2
          clear hmv
          clear HL HQE HCC hq8 hqi hgq hq2
          generalize T.mv = mv at *
          go_wp2_with fail
          refine HMV.out.mono ?_
          rintro r w2 ⟨rfl, rfl⟩
          have hle : decide ((mv : Int) ≤ 4 * (cc : Int)) = true := by simp; omega
          go_wp2_with fail
          refine HAL.out.mono ?_
          rintro r w2 ⟨rfl, hg2⟩
          have HG2 := Lib.hid hg2
          clear hg2
          go_wp2
          go_ret
          exact ⟨rfl, grown_trans HG.out HG2.out⟩
set_option maxHeartbeats 1000000 in
theorem many_odd (f b m d : Int) (w : World) (ht : Tab w) (hf : Wd f) (hb : Wd b) (hm : 0 ≤ m ∧ m ≤ 65535) (hd : 0 ≤ d ∧ d ≤ 255) (ho : decide (b % 2 = 1) = true) :
    Calls Tryd.prog 4 #[.int .u64 f, .int .u64 b, .int .u16 m, .int .u8 d] w fun e w' => e = .returned (.bool true) ∧ w.grownBy w' none := by
  obtain ⟨m0, m1⟩ := hm
  obtain ⟨d0, d1⟩ := hd
  obtain ⟨n, hmn, hn⟩ : ∃ n : Nat, m % 700 = (n : Int) ∧ n < 700 := ⟨(m % 700).toNat, by omega, by omega⟩
  obtain ⟨e, hde, he2, he8⟩ : ∃ e : Nat, d % 7 + 2 = (e : Int) ∧ 2 ≤ e ∧ e ≤ 8 := ⟨(d % 7 + 2).toNat, by omega, by omega, by omega⟩
  have hbit := odd_bit b hb
  rw [ho] at hbit
  have HOD : Hid (b % 2 = 1) := Lib.hid (by simpa using ho)
  have b0 := hb.1
  have f0 := hf.1
  have HNEW := Lib.hid (new_is w)
  have HT := Lib.hid ht
  have HMN := Lib.hid hmn
  have HDE := Lib.hid hde
  clear ht ho hf hb hmn hde
  go_enter Tryd.func4, Tryd.ntmps4
  go_wp2_with fail
  refine HNEW.out.mono ?_
  rintro r w1 ⟨rfl, hs, hg⟩
  have HL0 : Hid (IsT w1 w.heap.size (w.heap.size + 1) Tb.new ∧ ML true f b 0 Tb.new ∧ w.grownBy w1 none) := Lib.hid ⟨hs, ⟨Nat.le_refl _, Nat.le_refl _, fun _ => rfl, fun _ j hj => absurd hj (Nat.not_lt_zero j), fun _ k2 _ _ => new_look k2⟩, hg⟩
  clear hs hg HNEW
  go_wp2_with fail
  rw [HMN.out]
  go_loopg [11, 12] n (fun g c v wr => ∃ (i : Nat) (T : Tb), c = .int .u64 (i : Int) ∧ v = .int .i64 (i : Int) ∧ i ≤ n ∧ g + i = n ∧ Hid (IsT wr w.heap.size (w.heap.size + 1) T ∧ ML true f b i T ∧ w.grownBy wr none))
  case atStart => exact ⟨0, Tb.new, by go_num, by go_num, by omega, by omega, HL0⟩
  case round =>
    obtain ⟨i, T, rfl, rfl, hin, hgi, HL⟩ := hrel
    clear HL0
    by_cases hlt : i < n
    · have e1 : IntKind.u64.wrap (i : Int) = (i : Int) := by rw [IntKind.wrap_u64]; omega
      have e2 : IntKind.i32.wrap (i : Int) = (i : Int) := by rw [IntKind.wrap_i32]; omega
      have e3 : IntKind.u64.wrap ((i : Int) + 1) = (i : Int) + 1 := by rw [IntKind.wrap_u64]; omega
      have hput := put_is HL.out.1 (keyAt f b i) (i : Int) (keyAt_wd _ _ _) ⟨by omega, by omega⟩ (HT.out.kept HL.out.2.2) HT.out.size (by have := HL.out.2.1.mv; omega) (by have := HL.out.2.1.le; omega)
      have hput2 : Calls Tryd.prog 13 #[.pointer (some ⟨w.heap.size + 1, 0, none⟩), .int .u64 (keyAt f b i), .int .i32 (i : Int)] wr fun r w2 => ∃ bb, r = .returned (.bool bb) ∧ ∃ T', IsT w2 w.heap.size (w.heap.size + 1) T' ∧ PutRel T (keyAt f b i) (i : Int) T' ∧ Keep w.heap.size wr w2 := hput.mono fun r w2 h => ⟨_, h.1, h.2⟩
      have HP := Lib.hid hput2
      unfold keyAt at HP
      clear hput hput2
      go_wp2_with fail
      refine HP.out.mono ?_
      rintro r w2 ⟨bb, rfl, T', g1, g2, g3⟩
      have HL2 : Hid (IsT w2 w.heap.size (w.heap.size + 1) T' ∧ ML true f b (i + 1) T' ∧ w.grownBy w2 none) := Lib.hid ⟨g1, HL.out.2.1.step (fun _ => HOD.out) (by omega) g2, g3.grown HL.out.2.2 (Nat.le_refl _)⟩
      clear g1 g2 g3 HP HL
      go_wp2_with fail
      go_roundg (gk - 1)
      case measure => omega
      case rel => exact ⟨i + 1, T', by go_num, by go_num, by omega, by omega, HL2⟩
    · obtain rfl : i = n := by omega
      clear hlt hin hgi
      have hlen := len_is HL.out.1
      rw [HL.out.2.1.cnt rfl] at hlen
      have HLEN := Lib.hid hlen
      clear hlen
      go_wp2_with fail
      refine HLEN.out.mono ?_
      rintro r w2 ⟨rfl, rfl⟩
      clear HLEN
      have HD0 : Hid (IsT wr w.heap.size (w.heap.size + 1) T ∧ DL true f b i e 0 T ∧ w.grownBy wr none) := Lib.hid ⟨HL.out.1, ⟨HL.out.2.1.le, HL.out.2.1.mv, fun h j hj => by rw [if_neg (by omega)]; exact HL.out.2.1.has h j hj⟩, HL.out.2.2⟩
      clear HL
      obtain ⟨wo, hwo⟩ : ∃ wo : World, wo = wr := ⟨_, rfl⟩
      rw [← hwo] at HD0 ⊢
      clear hwo
      go_wp2_with fail
      rw [HDE.out]
      go_loopg [11, 14] (i + 1) (fun g c v wr => ∃ (q : Nat) (T : Tb), c = .int .u64 ((i + q : Nat) : Int) ∧ v = .int .i64 ((q * e : Nat) : Int) ∧ q * e ≤ i + 8 ∧ q ≤ i ∧ g + q = i + 1 ∧ Hid (IsT wr w.heap.size (w.heap.size + 1) T ∧ DL true f b i e q T ∧ w.grownBy wr none))
      case atStart => exact ⟨0, T, by go_num, by simp, by omega, by omega, by omega, HD0⟩
      case round =>
        obtain ⟨q, T, rfl, rfl, hq8, hqi, hgq, HL⟩ := hrel
        clear HD0
        obtain ⟨qe, hqe⟩ : ∃ qe, qe = q * e := ⟨_, rfl⟩
        obtain ⟨cc, hcc⟩ : ∃ cc, cc = i + q := ⟨_, rfl⟩
        have hq2 : q * 2 ≤ q * e := Nat.mul_le_mul_left q he2
        rw [← hqe] at hq8 hq2 ⊢
        rw [← hcc]
        have HQE := Lib.hid hqe
        have HCC := Lib.hid hcc
        clear hqe hcc
        by_cases hlt : qe < i
        · have e1 : IntKind.u64.wrap (qe : Int) = (qe : Int) := by rw [IntKind.wrap_u64]; omega
          have e3 : IntKind.u64.wrap ((cc : Int) + 1) = (cc : Int) + 1 := by have := HCC.out; rw [IntKind.wrap_u64]; omega
          have hdr := drop_is HL.out.1 (keyAt f b qe) (keyAt_wd _ _ _) (HT.out.kept HL.out.2.2) HT.out.size (by have := HL.out.2.1.mv; omega)
          have hdr2 : Calls Tryd.prog 15 #[.pointer (some ⟨w.heap.size + 1, 0, none⟩), .int .u64 (keyAt f b qe)] wr fun r w2 => ∃ bb, r = .returned (.bool bb) ∧ ∃ T', IsT w2 w.heap.size (w.heap.size + 1) T' ∧ DropRel T (keyAt f b qe) T' ∧ Keep w.heap.size wr w2 := hdr.mono fun r w2 h => ⟨_, h.1, h.2⟩
          have HP := Lib.hid hdr2
          unfold keyAt at HP
          clear hdr hdr2
          go_wp2_with fail
          refine HP.out.mono ?_
          rintro r w2 ⟨bb, rfl, T', g1, g2, g3⟩
          have HL2 : Hid (IsT w2 w.heap.size (w.heap.size + 1) T' ∧ DL true f b i e (q + 1) T' ∧ w.grownBy w2 none) := by
            refine Lib.hid ⟨g1, HL.out.2.1.step (fun _ => HOD.out) (by omega) he2 (by rw [← HQE.out]; exact hlt) ?_, g3.grown HL.out.2.2 (Nat.le_refl _)⟩
            rw [← HQE.out]; exact g2
          clear g1 g2 g3 HP HL
          go_wp2_with fail
          go_roundg (gk - 1)
          case measure => omega
          case rel =>
            have hE := HQE.out
            have hC := HCC.out
            refine ⟨q + 1, T', ?_, ?_, ?_, by omega, by omega, HL2⟩
            · rw [hC]; congr 1
            · rw [hE]; congr 1; rw [Nat.add_mul, Nat.one_mul]; omega
            · rw [Nat.add_mul, Nat.one_mul]; omega
        · have hmv := moves_is HL.out.1
          have hml : T.mv ≤ 4 * cc := by have := HL.out.2.1.mv; have := HCC.out; omega
          have HMV := Lib.hid hmv
          have hc9 : cc ≤ 1400 := by have := HCC.out; omega
          have e4 : IntKind.u64.wrap (4 * (cc : Int)) = 4 * (cc : Int) := by rw [IntKind.wrap_u64]; omega
          have HAL := Lib.hid (alive_any wr (HT.out.kept HL.out.2.2))
          have HG := Lib.hid HL.out.2.2
          clear hmv
          obtain ⟨wp, hwp⟩ : ∃ wp : World, wp = wr := ⟨_, rfl⟩
          have HFND : Hid (∀ j, j < i → Calls Tryd.prog 16 #[.pointer (some ⟨w.heap.size + 1, 0, none⟩), .int .u64 (keyAt f b j)] wp fun r w' => r = .returned (tupO (if j % e = 0 then none else some (j : Int))) ∧ wp = w') := by
            refine Lib.hid fun j hj => ?_
            have := findT_is HL.out.1 (keyAt f b j) (keyAt_wd _ _ _) (HT.out.kept HL.out.2.2)
            have h1 := HL.out.2.1.has rfl j hj
            rw [h1] at this
            have hq := HQE.out
            have : (if j % e = 0 ∧ j < q * e then none else some (j : Int)) = if j % e = 0 then none else some (j : Int) := by
              by_cases h0 : j % e = 0
              · rw [if_pos ⟨h0, by omega⟩, if_pos h0]
              · rw [if_neg (fun h => h0 h.1), if_neg h0]
            rw [← this, hwp]
            assumption
          rw [← hwp] at HMV HAL HG ⊢
          clear HL hwp HQE HCC hq8 hqi hgq hq2 wr
          generalize T.mv = mv at *
          go_wp2_with fail
          go_loopg [15] i (fun g v wr => ∃ (j : Nat), v = .int .i64 (j : Int) ∧ j ≤ i ∧ g + j = i ∧ wr = wp)
          case atStart => exact ⟨0, by go_num, by omega, by omega, rfl⟩
          case round =>
            obtain ⟨j, rfl, hji, hgj, rfl⟩ := hrel
            by_cases hlt2 : j < i
            · have e1 : IntKind.u64.wrap (j : Int) = (j : Int) := by rw [IntKind.wrap_u64]; omega
              have hfj := HFND.out j hlt2
              unfold keyAt at hfj
              have t1 : Int.tmod (j : Int) (e : Int) = ((j % e : Nat) : Int) := by rw [Int.tmod_eq_emod_of_nonneg (by omega)]; omega
              have t2 : (j : Int) % (e : Int) = ((j % e : Nat) : Int) := by omega
              have hez : ¬ ((e : Int) = 0) := by omega
              by_cases h0 : j % e = 0
              · rw [if_pos h0] at hfj
                rw [h0] at t1 t2
                have HFJ := Lib.hid hfj
                clear hfj h0
                go_wp2_with fail
                refine HFJ.out.mono ?_
                unfold tupO
                rintro r w2 ⟨rfl, rfl⟩
                go_wp2_with fail
                go_roundg (gk - 1)
                case measure => omega
                case rel => exact ⟨j + 1, by go_num, by omega, by omega, rfl⟩
              · rw [if_neg h0] at hfj
                obtain ⟨rr, hrr⟩ : ∃ rr : Nat, rr = j % e := ⟨_, rfl⟩
                rw [← hrr] at t1 t2 h0
                have hb1 : ((rr : Int) != 0) = true := by simp; omega
                have e5 : IntKind.i64.wrap (j : Int) = (j : Int) := by rw [IntKind.wrap_i64]; omega
                have HFJ := Lib.hid hfj
                clear hfj h0 hrr
                go_wp2_with fail
                refine HFJ.out.mono ?_
                unfold tupO
                rintro r w2 ⟨rfl, rfl⟩
                go_wp2_with fail
                go_roundg (gk - 1)
                case measure => omega
                case rel => exact ⟨j + 1, by go_num, by omega, by omega, rfl⟩
            · go_wp2_with fail
              refine HMV.out.mono ?_
              rintro r w2 ⟨rfl, rfl⟩
              have hle : decide ((mv : Int) ≤ 4 * (cc : Int)) = true := by simp; omega
              go_wp2_with fail
              refine HAL.out.mono ?_
              rintro r w2 ⟨rfl, hg2⟩
              have HG2 := Lib.hid hg2
              clear hg2
              go_wp2
              go_ret
              exact ⟨rfl, grown_trans HG.out HG2.out⟩
theorem lookupMany_law (f b m d : Int) (W : World) (w0 : (Lit.int .u64 f).wf = true) (w1 : (Lit.int .u64 b).wf = true) (w2 : (Lit.int .u16 m).wf = true) (w3 : (Lit.int .u8 d).wf = true) (ht : Tab W) (hh : 1 < W.heap.size) :
    Calls Tryd.prog 4 #[.int .u64 f, .int .u64 b, .int .u16 m, .int .u8 d] W fun e W' => e = .returned (.bool true) ∧ Below W.heap.size W W' := by
  have hm := bounds_u16 w2
  have hd := bounds_u8 w3
  cases ho : decide (b % 2 = 1) with
  | true => exact (many_odd f b m d W ht (Wd.of_wf w0) (Wd.of_wf w1) ⟨hm.1, by omega⟩ ⟨hd.1, by omega⟩ ho).mono fun e W' h => ⟨h.1, below_of_grown h.2⟩
  | false => exact (many_even f b m d W ht (Wd.of_wf w0) (Wd.of_wf w1) ⟨hm.1, by omega⟩ ⟨hd.1, by omega⟩ ho).mono fun e W' h => ⟨h.1, below_of_grown h.2⟩
end Go.Proofs.YtnhjnciadmgkeaaDoor
