/-
  The law's look at a list: it is the document's.
-/
import Derived.Test.YtmjccpgkgkindaaRefIns
namespace Go.Proofs.Ytmjccpgkgkindaa
open Go.ChangeShapes Go.WideShapes Go.ChangeAt Go.RowKit
set_option linter.unusedVariables false
set_option maxRecDepth 100000

section
variable {w : World} {C : Ch} {lo b gL gN rb rcap : Nat} {rows : Nat → Value}
theorem in_cases {M : Nat} {list : Int} (h : inN M list = true) : ∃ i : Nat, list = (i : Int) ∧ i < M := by
  have hx : 0 ≤ list ∧ list < (M : Int) := by unfold inN at h; simpa using h
  obtain ⟨i, rfl⟩ := Int.eq_ofNat_of_zero_le hx.1
  exact ⟨i, rfl, by omega⟩
theorem first_any (h : IsCh w lo b gL gN C) (list : Int) : Calls Try.prog 25 #[.pointer (some ⟨b, 0, none⟩), .int .i64 list] w fun e w' => e = .returned (tupO (C.ofI list)[0]?) ∧ ∃ q, w' = w.drewN q := by
  by_cases hin : inN C.ls.length list = true
  · obtain ⟨i, rfl, hi⟩ := in_cases hin
    rw [Ch.ofI_nat hi, ← List.head?_eq_getElem?]
    exact first_is h i hi
  · rw [show C.ofI list = [] by unfold Ch.ofI; rw [if_neg hin]]
    refine (first_er h (by simpa using hin)).mono ?_
    rintro e w' ⟨rfl, rfl⟩
    exact ⟨rfl, 0, rfl⟩
theorem last_any (h : IsCh w lo b gL gN C) (list : Int) : Calls Try.prog 26 #[.pointer (some ⟨b, 0, none⟩), .int .i64 list] w fun e w' => e = .returned (tupO (C.ofI list)[(C.ofI list).length - 1]?) ∧ ∃ q, w' = w.drewN q := by
  by_cases hin : inN C.ls.length list = true
  · obtain ⟨i, rfl, hi⟩ := in_cases hin
    rw [Ch.ofI_nat hi, ← List.getLast?_eq_getElem?]
    exact last_is h i hi
  · rw [show C.ofI list = [] by unfold Ch.ofI; rw [if_neg hin]]
    refine (last_er h (by simpa using hin)).mono ?_
    rintro e w' ⟨rfl, rfl⟩
    exact ⟨rfl, 0, rfl⟩
theorem len_any (h : IsCh w lo b gL gN C) (list : Int) : Calls Try.prog 22 #[.pointer (some ⟨b, 0, none⟩), .int .i64 list] w fun e w' => e = .returned (.int .i64 ((C.ofI list).length : Int)) ∧ w = w' := by
  by_cases hin : inN C.ls.length list = true
  · obtain ⟨i, rfl, hi⟩ := in_cases hin
    rw [Ch.ofI_nat hi]
    exact len_is h i hi
  · rw [show C.ofI list = [] by unfold Ch.ofI; rw [if_neg hin]]
    exact len_er h (by simpa using hin)
set_option maxHeartbeats 4000000 in
theorem lists_at (hc : IsCh w lo b gL gN C) (hr : RefAt w C rb rcap rows) (list : Int) (h1000 : (C.ofI list).length ≤ 1000) :
    Calls Try.prog 13 #[.pointer (some ⟨b, 0, none⟩), refV C rb rcap, .int .i64 list] w fun e w' => e = .returned (.bool true) ∧ w.grownBy w' none := by
  have hO : Calls Try.prog 35 #[refV C rb rcap, .int .i64 list] (w.alloc (.cells #[.int .i64 (C.N : Int), .slice (some ⟨rb, 0, none⟩) C.ls.length rcap] 31)) _ := of_at (hr.kept (World.grownBy_alloc _ _ none)) list
  have hg0 := World.grownBy_alloc w (.cells #[.int .i64 (C.N : Int), .slice (some ⟨rb, 0, none⟩) C.ls.length rcap] 31) none
  have b0 := heap_alloc_new w (.cells #[.int .i64 (C.N : Int), .slice (some ⟨rb, 0, none⟩) C.ls.length rcap] 31)
  unfold refV at hO ⊢
  have HO := Lib.hid hO
  have HC := Lib.hid hc
  have HG0 := Lib.hid hg0
  have HB0 := Lib.hid b0
  clear hO hc hr hg0 b0
  obtain ⟨M, HM⟩ : ∃ M, Hid (C.ls.length = M) := ⟨_, Lib.hid rfl⟩
  rw [HM.out] at HO HG0 HB0 ⊢
  obtain ⟨l, Hl⟩ : ∃ l, Hid (C.ofI list = l) := ⟨_, Lib.hid rfl⟩
  rw [Hl.out] at HO h1000
  obtain ⟨L, HL⟩ : ∃ L, Hid (l.length = L) := ⟨_, Lib.hid rfl⟩
  rw [HL.out] at HO h1000
  obtain ⟨c00, c01, _, _, l0⟩ := cells2 HB0.out
  go_enter Try.func13, Try.ntmps13
  go_wp2_with fail
  generalize w.alloc (.cells #[.int .i64 (C.N : Int), .slice (some ⟨rb, 0, none⟩) M rcap] 31) = w0 at *
  refine HO.out.mono ?_
  rintro e w1 ⟨AL, cL, rfl, hrow, hg1⟩
  have HG1 := Lib.hid (grown_trans HG0.out hg1)
  have HC1 := Lib.hid (HC.out.kept HG1.out)
  have HR1 := Lib.hid hrow
  clear c00 c01 l0 hg1 hrow HO HB0 HG0 HC
  have cf := first_any HC1.out list
  rw [Hl.out] at cf
  have Hcf := Lib.hid cf
  clear cf
  have cl : ∀ q, Calls Try.prog 26 #[.pointer (some ⟨b, 0, none⟩), .int .i64 list] (w1.drewN q) fun e w' => e = .returned (tupO l[L - 1]?) ∧ ∃ q', w' = (w1.drewN q).drewN q' := fun q => by
    have := last_any (HC1.out.kept (grown_drewN w1 q none)) list
    rw [Hl.out, HL.out] at this
    exact this
  have Hcl := Lib.hid cl
  clear cl
  have cn : ∀ q, Calls Try.prog 22 #[.pointer (some ⟨b, 0, none⟩), .int .i64 list] (w1.drewN q) fun e w' => e = .returned (.int .i64 (L : Int)) ∧ w1.drewN q = w' := fun q => by
    have := len_any (HC1.out.kept (grown_drewN w1 q none)) list
    rw [Hl.out, HL.out] at this
    exact this
  have Hcn := Lib.hid cn
  clear cn
  have ct : ∀ w', w1.grownBy w' none → Calls Try.prog 15 #[.pointer (some ⟨b, 0, none⟩), .int .i64 list, .int .i64 1000] w' fun e w'' => ∃ A' c', e = .returned (.tuple #[.slice A' L c', .bool true]) ∧ Hid (NRow w'' (.slice A' L c') l) ∧ Hid (w'.grownBy w'' none) := fun w' hg => by
    have := told_is (HC1.out.kept hg) list 1000 (by decide)
    rw [Hl.out] at this
    refine this.mono ?_
    rintro e w'' ⟨v, rfl, ho, hg'⟩
    rw [List.take_of_length_le (by rw [HL.out]; exact h1000)] at ho
    obtain ⟨A', c', rfl⟩ := owns_slice ho
    have hn := NRow.of_owns ho rfl
    rw [HL.out] at hn ⊢
    exact ⟨A', c', rfl, Lib.hid hn, Lib.hid hg'⟩
  have Hct := Lib.hid ct
  clear ct
  have cb : ∀ w', w1.grownBy w' none → Calls Try.prog 21 #[.pointer (some ⟨b, 0, none⟩), .int .i64 list, .int .i64 1000] w' fun e w'' => ∃ A' c', e = .returned (.tuple #[.slice A' L c', .bool true]) ∧ Hid (NRow w'' (.slice A' L c') l.reverse) ∧ Hid (w'.grownBy w'' none) := fun w' hg => by
    have := back_is (HC1.out.kept hg) list 1000 (by decide)
    rw [Hl.out] at this
    refine this.mono ?_
    rintro e w'' ⟨v, rfl, ho, hg'⟩
    rw [List.take_of_length_le (by rw [List.length_reverse, HL.out]; exact h1000)] at ho
    obtain ⟨A', c', rfl⟩ := owns_slice ho
    have hn := NRow.of_owns ho rfl
    rw [List.length_reverse, HL.out] at hn ⊢
    exact ⟨A', c', rfl, Lib.hid hn, Lib.hid hg'⟩
  have Hcb := Lib.hid cb
  clear cb
  -- behind the test
  have ce : ∀ q, Hid (w.grownBy (w1.drewN q) none) := fun q => Lib.hid (grown_trans HG1.out (grown_drewN w1 q none))
  by_cases h0 : L = 0
  · have hl0 : l = [] := List.eq_nil_of_length_eq_zero (by rw [HL.out]; exact h0)
    subst h0
    rw [hl0] at Hcf Hcl
    simp only [List.getElem?_nil, tupO] at Hcf Hcl
    clear hl0
    go_wp2_with fail
    refine Hcf.out.mono ?_
    rintro e w2 ⟨rfl, q, rfl⟩
    go_wp2_with fail
    refine (Hcl.out q).mono ?_
    rintro e w2 ⟨rfl, q2, rfl⟩
    rw [World.drewN_drewN]
    go_wp2_with fail
    refine (Hcn.out (q + q2)).mono ?_
    rintro e w2 ⟨rfl, rfl⟩
    have HGq := ce (q + q2)
    have HRq := Lib.hid (HR1.out.kept (grown_drewN w1 (q + q2) none))
    have Hgq := Lib.hid (grown_drewN w1 (q + q2) none)
    generalize w1.drewN (q + q2) = w3 at *
    go_wp2_with fail
    refine (Hct.out w3 Hgq.out).mono ?_
    rintro e w4 ⟨At, ct, rfl, HNt, HGt⟩
    go_wp2_with fail
    refine (Hcb.out w4 (grown_trans Hgq.out HGt.out)).mono ?_
    rintro e w5 ⟨Ab, cb, rfl, HNb, HGb⟩
    have HNt5 := Lib.hid (HNt.out.kept HGb.out)
    have HR5 := Lib.hid ((HRq.out.kept HGt.out).kept HGb.out)
    have HG5 := Lib.hid (grown_trans (grown_trans HGq.out HGt.out) HGb.out)
    clear HNt HGt HGb HGq HRq Hgq Hct Hcb
    go_wp2_with fail
    have c5 := nodes_at _ _ _ _ w5 HNt5.out HR5.out (by rw [HL.out]; omega) (by rw [HL.out]; omega)
    rw [show decide (l = l) = true from decide_eq_true rfl] at c5
    refine c5.mono ?_
    rintro e w6 ⟨rfl, q5, rfl⟩
    have HR6 := Lib.hid (HR5.out.kept (grown_drewN w5 q5 none))
    have HNb6 := Lib.hid (HNb.out.kept (grown_drewN w5 q5 none))
    have HG6 := Lib.hid (grown_trans HG5.out (grown_drewN w5 q5 none))
    clear c5 HNt5 HR5 HG5 HNb
    generalize w5.drewN q5 = w6 at *
    go_wp2_with fail
    have c6 := turned_at _ _ w6 HR6.out (by rw [HL.out]; omega)
    rw [HL.out] at c6
    refine c6.mono ?_
    rintro e w7 ⟨r, rfl, ho, hg⟩
    have HO7 := Lib.hid (NRow.of_owns (xs := l.reverse) ho (by rw [List.length_reverse, HL.out]))
    have HNb7 := Lib.hid (HNb6.out.kept hg)
    have HG7 := Lib.hid (grown_trans HG6.out hg)
    obtain ⟨A7, c7, rfl⟩ := owns_slice ho
    clear ho hg c6 HR6 HNb6 HG6
    go_wp2_with fail
    have c8 := nodes_at _ _ _ _ w7 HNb7.out HO7.out (by rw [List.length_reverse, HL.out]; omega) (by rw [List.length_reverse, HL.out]; omega)
    rw [show decide (l.reverse = l.reverse) = true from decide_eq_true rfl] at c8
    refine c8.mono ?_
    rintro e w8 ⟨rfl, q8, rfl⟩
    have HG8 := Lib.hid (grown_trans HG7.out (grown_drewN w7 q8 none))
    clear c8 HO7 HNb7 HG7
    go_wp2
    go_ret
    exact ⟨rfl, HG8.out⟩
  · obtain ⟨x, hx⟩ : ∃ x, l[0]? = some x := ⟨_, List.getElem?_eq_getElem (by rw [HL.out]; omega)⟩
    obtain ⟨y, hy⟩ : ∃ y, l[L - 1]? = some y := ⟨_, List.getElem?_eq_getElem (by rw [HL.out]; omega)⟩
    rw [hx] at Hcf
    rw [hy] at Hcl
    simp only [tupO] at Hcf Hcl
    obtain ⟨L1, hL1⟩ : ∃ L1 : Nat, L = L1 + 1 := ⟨L - 1, by omega⟩
    have hsub : (L : Int) - 1 = (L1 : Int) := by omega
    have hL1L : L1 < L := by omega
    have hL0 : 0 < L := by omega
    rw [show L - 1 = L1 by omega] at hy
    have Hx := Lib.hid hx
    have Hy := Lib.hid hy
    have HL1 := Lib.hid hL1
    have hd1 : decide ((0 : Int) < (L : Int)) = true := by simp; omega
    have hd1' : decide (0 < L) = true := by simp; omega
    clear hx hy hL1
    go_wp2_with fail
    refine Hcf.out.mono ?_
    rintro e w2 ⟨rfl, q, rfl⟩
    go_wp2_with fail
    refine (Hcl.out q).mono ?_
    rintro e w2 ⟨rfl, q2, rfl⟩
    rw [World.drewN_drewN]
    go_wp2_with fail
    refine (Hcn.out (q + q2)).mono ?_
    rintro e w2 ⟨rfl, rfl⟩
    have HGq := ce (q + q2)
    have HRq := Lib.hid (HR1.out.kept (grown_drewN w1 (q + q2) none))
    have Hgq := Lib.hid (grown_drewN w1 (q + q2) none)
    generalize w1.drewN (q + q2) = w3 at *
    obtain ⟨bL, oL, rfl, hcx⟩ := HRq.out.at Hx.out
    obtain ⟨bL', oL', hA, hcy⟩ := HRq.out.at Hy.out
    cases hA
    simp only [Nat.add_zero] at hcx
    go_wp2_with fail
    clear hcx hcy
    refine (Hct.out w3 Hgq.out).mono ?_
    rintro e w4 ⟨At, ct, rfl, HNt, HGt⟩
    go_wp2_with fail
    refine (Hcb.out w4 (grown_trans Hgq.out HGt.out)).mono ?_
    rintro e w5 ⟨Ab, cb, rfl, HNb, HGb⟩
    have HNt5 := Lib.hid (HNt.out.kept HGb.out)
    have HR5 := Lib.hid ((HRq.out.kept HGt.out).kept HGb.out)
    have HG5 := Lib.hid (grown_trans (grown_trans HGq.out HGt.out) HGb.out)
    clear HNt HGt HGb HGq HRq Hgq Hct Hcb
    go_wp2_with fail
    have c5 := nodes_at _ _ _ _ w5 HNt5.out HR5.out (by rw [HL.out]; omega) (by rw [HL.out]; omega)
    rw [show decide (l = l) = true from decide_eq_true rfl] at c5
    refine c5.mono ?_
    rintro e w6 ⟨rfl, q5, rfl⟩
    have HR6 := Lib.hid (HR5.out.kept (grown_drewN w5 q5 none))
    have HNb6 := Lib.hid (HNb.out.kept (grown_drewN w5 q5 none))
    have HG6 := Lib.hid (grown_trans HG5.out (grown_drewN w5 q5 none))
    clear c5 HNt5 HR5 HG5 HNb
    generalize w5.drewN q5 = w6 at *
    go_wp2_with fail
    have c6 := turned_at _ _ w6 HR6.out (by rw [HL.out]; omega)
    rw [HL.out] at c6
    refine c6.mono ?_
    rintro e w7 ⟨r, rfl, ho, hg⟩
    have HO7 := Lib.hid (NRow.of_owns (xs := l.reverse) ho (by rw [List.length_reverse, HL.out]))
    have HNb7 := Lib.hid (HNb6.out.kept hg)
    have HG7 := Lib.hid (grown_trans HG6.out hg)
    obtain ⟨A7, c7, rfl⟩ := owns_slice ho
    clear ho hg c6 HR6 HNb6 HG6
    go_wp2_with fail
    have c8 := nodes_at _ _ _ _ w7 HNb7.out HO7.out (by rw [List.length_reverse, HL.out]; omega) (by rw [List.length_reverse, HL.out]; omega)
    rw [show decide (l.reverse = l.reverse) = true from decide_eq_true rfl] at c8
    refine c8.mono ?_
    rintro e w8 ⟨rfl, q8, rfl⟩
    have HG8 := Lib.hid (grown_trans HG7.out (grown_drewN w7 q8 none))
    clear c8 HO7 HNb7 HG7
    go_wp2
    go_ret
    exact ⟨rfl, HG8.out⟩
end
end Go.Proofs.Ytmjccpgkgkindaa
