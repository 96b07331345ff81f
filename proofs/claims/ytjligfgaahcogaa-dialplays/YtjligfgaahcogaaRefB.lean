/-
  The document's dial: around from a hand; how many steps it is.
-/
import Derived.Test.YtjligfgaahcogaaRef
namespace Go.Proofs.Ytjligfgaahcogaa
open Go.ChangeShapes Go.WideShapes Go.ChangeAt Go.RowKit
set_option linter.unusedVariables false

theorem nrow_nil (lo : Nat) (w : World) (A : Option Addr) (c : Nat) (hc : c ≤ maxLen) (hA : A = none → c = 0) : NRow lo w (.slice A 0 c) [] := ⟨A, c, rfl, Nat.zero_le _, hc, hA, .inl rfl⟩
def ArPost (w : World) (xs : List Nat) (e : Ending) (w' : World) : Prop :=
  ∃ A c, e = .returned (.slice A xs.length c) ∧ NRow w.heap.size w' (.slice A xs.length c) xs ∧ (A = none ∧ c = 0 ∨ ∃ b off, A = some ⟨b, off, none⟩) ∧ w.grownBy w' none
theorem fin_ar {w w2 w3 : World} {Ar : Option Addr} {cr n : Nat} {xs xs' : List Nat} (e : xs' = xs) (hn : n = xs'.length) (h : w3.ownsRow w2.heap.size 21 1 (.slice Ar xs'.length cr) xs'.length (nvals xs')) (hg : w.grownBy w3 none) (hz : w.heap.size ≤ w2.heap.size) : ArPost w xs (.returned (.slice Ar n cr)) w3 := by
  subst e hn
  have hs : Ar = none ∧ cr = 0 ∨ ∃ b off, Ar = some ⟨b, off, none⟩ := by
    rcases h.2 with ⟨hv, _⟩ | ⟨g, cap, cur, hv, _⟩
    · injection hv with e1 e2 e3; exact .inl ⟨e1, e3⟩
    · injection hv with e1 e2 e3; exact .inr ⟨g, 0, e1⟩
  exact ⟨_, _, rfl, (NRow.of_owns h rfl).lower hz, hs, hg⟩
section
variable {lo : Nat} {w : World} {D : Dl} {vL vH : Value}
set_option maxHeartbeats 2000000 in
theorem raround_at (h : RefAt lo w D vL vH) (ho : D.Ok) (hf : D.l.length ≤ 65536) (hM : D.hs.length ≤ 8) (n : Int) : Calls Try.prog 29 #[refV D vL vH, .int .i64 n] w (ArPost w (D.around n)) := by
  have HH := Lib.hid h
  obtain ⟨bH, oH, cH, rfl, hlH, _, _, hxH⟩ := h.h
  obtain ⟨A, c, rfl, hlc, hcm, hz, hr⟩ := h.l
  have hhd : ∀ w', Calls Try.prog 39 #[refV D (.slice A D.l.length c) (.slice (some ⟨bH, oH, none⟩) D.hs.length cH), .int .i64 n] w' fun e w'' => e = .returned (.bool (inN D.hs.length n)) ∧ w'.grownBy w'' none := fun w' => rhand_at D _ n w' rfl
  have HR := Lib.hid hr
  have HF := Lib.hid hf
  unfold refV at hhd ⊢
  obtain ⟨L, HL⟩ : ∃ L, Hid (D.l.length = L) := ⟨_, Lib.hid rfl⟩
  obtain ⟨M, HM⟩ : ∃ M, Hid (D.hs.length = M) := ⟨_, Lib.hid rfl⟩
  rw [HL.out, HM.out] at hhd
  rw [HL.out] at hf hlc HH ⊢
  rw [HM.out] at hlH hM HH ⊢
  have hg0 := World.grownBy_alloc w (.cells #[.int .i64 (D.N : Int), .slice A L c, .slice (some ⟨bH, oH, none⟩) M cH] 32) none
  have HB0 := Lib.hid (heap_alloc_new w (.cells #[.int .i64 (D.N : Int), .slice A L c, .slice (some ⟨bH, oH, none⟩) M cH] 32))
  obtain ⟨b0, b1, b2, _, _, _, hbl⟩ := cells3 HB0.out
  have HG := Lib.hid hg0
  have HHd := Lib.hid hhd
  have HXH := Lib.hid hxH
  clear h hr hg0 hhd hxH
  cases hin : inN M n with
  | false =>
    have e : D.around n = [] := Dl.around_none (by rw [HM.out]; exact hin)
    rw [e]
    rw [hin] at HHd
    go_enter Try.func29, Try.ntmps29
    go_wp2_with fail
    generalize w.alloc (.cells #[.int .i64 (D.N : Int), .slice A L c, .slice (some ⟨bH, oH, none⟩) M cH] 32) = w0 at *
    refine (HHd.out w0).mono ?_
    rintro e w1 ⟨rfl, hg1⟩
    have HG1 := Lib.hid (grown_trans HG.out hg1)
    clear hg1 b0 b1 b2
    go_wp2
    go_ret
    exact ⟨none, 0, rfl, nrow_nil _ _ _ _ (by decide) fun _ => rfl, .inl ⟨rfl, rfl⟩, HG1.out⟩
  | true =>
    obtain ⟨i, rfl, hi⟩ := inN_get hin
    obtain ⟨k, Hk⟩ : ∃ k, Hid (D.hs[i]? = some k) := ⟨_, Lib.hid (List.getElem?_eq_getElem (by rw [HM.out]; exact hi))⟩
    rw [Dl.around_at Hk.out]
    rw [hin] at HHd
    have hkL : k < L ∨ (D.l = [] ∧ k = 0) := by have := ho.hh k (List.mem_of_getElem? Hk.out); rw [HL.out] at this; exact this
    have HkL := Lib.hid hkL
    clear hin ho hkL
    go_enter Try.func29, Try.ntmps29
    go_wp2_with fail
    generalize w.alloc (.cells #[.int .i64 (D.N : Int), .slice A L c, .slice (some ⟨bH, oH, none⟩) M cH] 32) = w0 at *
    refine (HHd.out w0).mono ?_
    rintro e w1 ⟨rfl, hg1⟩
    have HG1 := Lib.hid (grown_trans HG.out hg1)
    have HB1 := Lib.hid (kept2 HB0.out hg1)
    clear hg1 b0 b1 b2 HB0 HG hbl
    go_wp2_with fail
    by_cases h0 : D.l = []
    · obtain rfl : k = 0 := by rcases HkL.out with e | e; have := HL.out; rw [h0] at this; simp at this; omega; exact e.2
      have hL0 : L = 0 := by rw [← HL.out, h0]; rfl
      subst hL0
      have Her : Hid ([] ++ [] = rot D.l 0) := Lib.hid (by rw [h0]; rfl)
      have H0 := Lib.hid h0
      clear h0
      rcases HH.out.sh with hsh | ⟨bL, oL, n', c', hsh⟩
      · injection hsh with e1 e2 e3
        subst e1 e3
        clear e2
        have hcell := HG1.out.cell (HXH.out i 0 Hk.out) (by simp)
        refine region_tail 16 (by kernel_rfl) (by kernel_rfl) ?_
        intro w2 hw2
        have HG2 : Hid (w1.grownBy w2 none) := Lib.hid (by rw [hw2]; exact grown_drewN w1 1 none)
        obtain ⟨b0, b1, b2, _, _, _, hbl⟩ := cells3 (kept2 HB1.out HG2.out)
        have hcell := HG2.out.cell hcell (by simp)
        have HGw2 := Lib.hid (grown_trans HG1.out HG2.out)
        clear hw2 HG2 HB1
        simp only [List.take_succ_cons, List.take_zero, List.drop_succ_cons, List.drop_zero]
        repeat still_step
        refine wpStill_nil ?_
        clear hcell b0 b1 b2 hbl
        have HJ := Lib.hid (joined_at (.slice none 0 0) (.slice none 0 0) [] [] w2 (nrow_nil 0 _ _ _ (by decide) fun _ => rfl) (nrow_nil 0 _ _ _ (by decide) fun _ => rfl) (by decide))
        go_wp2_with fail
        refine HJ.out.mono ?_
        rintro e w3 ⟨r, rfl, hr3, hg3⟩
        have HR3 := Lib.hid hr3
        have HG3 := Lib.hid (grown_trans HGw2.out hg3)
        obtain ⟨Ar, cr, rfl⟩ := owns_slice hr3
        clear hr3 hg3 HJ
        go_wp2
        go_ret
        exact fin_ar Her.out rfl HR3.out HG3.out HGw2.out.size
      · injection hsh with e1 e2 e3
        subst e1 e3
        clear e2
        have hcell := HG1.out.cell (HXH.out i 0 Hk.out) (by simp)
        by_cases hc0 : c = 0
        · subst hc0
          refine region_tail 16 (by kernel_rfl) (by kernel_rfl) ?_
          intro w2 hw2
          have HG2 : Hid (w1.grownBy w2 none) := Lib.hid (by rw [hw2]; exact grown_drewN w1 1 none)
          obtain ⟨b0, b1, b2, _, _, _, hbl⟩ := cells3 (kept2 HB1.out HG2.out)
          have hcell := HG2.out.cell hcell (by simp)
          have HGw2 := Lib.hid (grown_trans HG1.out HG2.out)
          clear hw2 HG2 HB1
          simp only [List.take_succ_cons, List.take_zero, List.drop_succ_cons, List.drop_zero]
          repeat still_step
          refine wpStill_nil ?_
          clear hcell b0 b1 b2 hbl
          have HJ := Lib.hid (joined_at (.slice (some ⟨bL, oL, none⟩) 0 0) (.slice (some ⟨bL, oL, none⟩) 0 0) [] [] w2 (nrow_nil 0 _ _ _ (by decide) (by simp)) (nrow_nil 0 _ _ _ (by decide) (by simp)) (by decide))
          go_wp2_with fail
          refine HJ.out.mono ?_
          rintro e w3 ⟨r, rfl, hr3, hg3⟩
          have HR3 := Lib.hid hr3
          have HG3 := Lib.hid (grown_trans HGw2.out hg3)
          obtain ⟨Ar, cr, rfl⟩ := owns_slice hr3
          clear hr3 hg3 HJ
          go_wp2
          go_ret
          exact fin_ar Her.out rfl HR3.out HG3.out HGw2.out.size
        · have HC0 := Lib.hid hc0
          refine region_tail 16 (by kernel_rfl) (by kernel_rfl) ?_
          intro w2 hw2
          have HG2 : Hid (w1.grownBy w2 none) := Lib.hid (by rw [hw2]; exact grown_drewN w1 1 none)
          obtain ⟨b0, b1, b2, _, _, _, hbl⟩ := cells3 (kept2 HB1.out HG2.out)
          have hcell := HG2.out.cell hcell (by simp)
          have HGw2 := Lib.hid (grown_trans HG1.out HG2.out)
          clear hw2 HG2 HB1
          simp only [List.take_succ_cons, List.take_zero, List.drop_succ_cons, List.drop_zero]
          repeat still_step
          refine wpStill_nil ?_
          clear hcell b0 b1 b2 hbl
          have HJ := Lib.hid (joined_at (.slice (some ⟨bL, oL, none⟩) 0 c) (.slice (some ⟨bL, oL, none⟩) 0 c) [] [] w2 (nrow_nil 0 _ _ _ hcm (by simp)) (nrow_nil 0 _ _ _ hcm (by simp)) (by decide))
          go_wp2_with fail
          refine HJ.out.mono ?_
          rintro e w3 ⟨r, rfl, hr3, hg3⟩
          have HR3 := Lib.hid hr3
          have HG3 := Lib.hid (grown_trans HGw2.out hg3)
          obtain ⟨Ar, cr, rfl⟩ := owns_slice hr3
          clear hr3 hg3 HJ
          go_wp2
          go_ret
          exact fin_ar Her.out rfl HR3.out HG3.out HGw2.out.size
    · have hkl : k < L := HkL.out.resolve_right fun e => h0 e.1
      obtain ⟨bL, oL, rfl, _⟩ := HR.out.resolve_left h0
      have hcell := HG1.out.cell (HXH.out i k Hk.out) (by simp)
      have hkc : (k : Int) ≤ (c : Int) := by omega
      have hkI : (k : Int) ≤ (L : Int) := by omega
      have hk0 : (0 : Int) ≤ (k : Int) := by omega
      have hck : ¬ c = k := by omega
      have hcz : ¬ c = 0 := by omega
      refine region_tail 16 (by kernel_rfl) (by kernel_rfl) ?_
      intro w2 hw2
      have HG2 : Hid (w1.grownBy w2 none) := Lib.hid (by rw [hw2]; exact grown_drewN w1 1 none)
      obtain ⟨b0, b1, b2, _, _, _, hbl⟩ := cells3 (kept2 HB1.out HG2.out)
      have hcell := HG2.out.cell hcell (by simp)
      have HGw2 := Lib.hid (grown_trans HG1.out HG2.out)
      clear hw2 HG2 HB1
      simp only [List.take_succ_cons, List.take_zero, List.drop_succ_cons, List.drop_zero]
      repeat still_step
      refine wpStill_nil ?_
      clear hcell b0 b1 b2 hbl
      have HN1 : Hid (NRow lo w2 (.slice (some ⟨bL, oL + k, none⟩) (L - k) (c - k)) (D.l.drop k)) := Lib.hid (by
        have := ((HH.out.l.kept HGw2.out).dropped k (by rw [HL.out]; omega)).2 (c - k - 1) (by omega)
        rw [show c - k - 1 + 1 = c - k by omega] at this
        exact this)
      have HN2 : Hid (NRow lo w2 (.slice (some ⟨bL, oL, none⟩) k c) (D.l.take k)) := Lib.hid (by
        obtain ⟨A', c', hv, hh⟩ := (HH.out.l.kept HGw2.out).take k (by rw [HL.out]; omega)
        injection hv with e1 _ e3
        rw [← e1, ← e3] at hh
        exact hh)
      have HJ := Lib.hid (joined_at _ _ _ _ w2 HN1.out HN2.out (by have := HF.out; simp; omega))
      clear HN1 HN2 hkc hkI hk0
      go_wp2_with fail
      refine HJ.out.mono ?_
      rintro e w3 ⟨r, rfl, hr3, hg3⟩
      have HR3 := Lib.hid hr3
      have HG3 := Lib.hid (grown_trans HGw2.out hg3)
      obtain ⟨Ar, cr, rfl⟩ := owns_slice hr3
      clear hr3 hg3 HJ
      go_wp2
      go_ret
      exact fin_ar rfl (by unfold rot; simp) HR3.out HG3.out HGw2.out.size
set_option maxHeartbeats 2000000 in
theorem rgap_at (h : RefAt lo w D vL vH) (ho : D.Ok) (hf : D.l.length ≤ 65536) (hM : D.hs.length ≤ 8) (x y : Int) : Calls Try.prog 31 #[refV D vL vH, .int .i64 x, .int .i64 y] w fun e w' => e = .returned (.int .i64 (D.gap x y : Int)) ∧ w.grownBy w' none := by
  obtain ⟨bH, oH, cH, rfl, hlH, _, _, hxH⟩ := h.h
  obtain ⟨A, c, rfl, hlc, hcm, hz, hr⟩ := h.l
  have hhd : ∀ n w', Calls Try.prog 39 #[refV D (.slice A D.l.length c) (.slice (some ⟨bH, oH, none⟩) D.hs.length cH), .int .i64 n] w' fun e w'' => e = .returned (.bool (inN D.hs.length n)) ∧ w'.grownBy w'' none := fun n w' => rhand_at D _ n w' rfl
  unfold refV at hhd ⊢
  obtain ⟨L, HL⟩ : ∃ L, Hid (D.l.length = L) := ⟨_, Lib.hid rfl⟩
  obtain ⟨M, HM⟩ : ∃ M, Hid (D.hs.length = M) := ⟨_, Lib.hid rfl⟩
  have HGap : Hid (D.gap x y = if (inN M x && inN M y) = false ∨ D.l = [] then 0 else (D.hs.getD y.toNat 0 + L - D.hs.getD x.toNat 0) % L) := Lib.hid (by unfold Dl.gap; rw [HL.out, HM.out])
  rw [HL.out, HM.out] at hhd
  rw [HL.out] at hf ⊢
  rw [HM.out] at hlH hM ⊢
  have hg0 := World.grownBy_alloc w (.cells #[.int .i64 (D.N : Int), .slice A L c, .slice (some ⟨bH, oH, none⟩) M cH] 32) none
  have HB0 := Lib.hid (heap_alloc_new w (.cells #[.int .i64 (D.N : Int), .slice A L c, .slice (some ⟨bH, oH, none⟩) M cH] 32))
  obtain ⟨b0, b1, b2, _, _, _, hbl⟩ := cells3 HB0.out
  have HG := Lib.hid hg0
  have HHd := Lib.hid hhd
  have HXH := Lib.hid hxH
  have HOk := Lib.hid ho
  clear h hr hg0 hhd hxH hz hlc hcm ho
  go_enter Try.func31, Try.ntmps31
  go_wp2_with fail
  generalize w.alloc (.cells #[.int .i64 (D.N : Int), .slice A L c, .slice (some ⟨bH, oH, none⟩) M cH] 32) = w0 at *
  refine (HHd.out x w0).mono ?_
  rintro e w1 ⟨rfl, hg1⟩
  have HG1 := Lib.hid (grown_trans HG.out hg1)
  have HB1 := Lib.hid (kept2 HB0.out hg1)
  clear hg1 b0 b1 b2 HB0 HG hbl
  obtain ⟨b0, b1, b2, _, _, _, hbl⟩ := cells3 HB1.out
  cases hx : inN M x with
  | false =>
    have HE : Hid (D.gap x y = 0) := Lib.hid (by rw [HGap.out, hx]; simp)
    go_wp2
    go_ret
    rw [HE.out]
    exact ⟨rfl, HG1.out⟩
  | true =>
    go_wp2_with fail
    refine (HHd.out y w1).mono ?_
    rintro e w2 ⟨rfl, hg2⟩
    have HG2 := Lib.hid (grown_trans HG1.out hg2)
    have HB2 := Lib.hid (kept2 HB1.out hg2)
    clear hg2 b0 b1 b2 HB1 HG1 hbl
    obtain ⟨b0, b1, b2, _, _, _, hbl⟩ := cells3 HB2.out
    cases hy : inN M y with
    | false =>
      have HE : Hid (D.gap x y = 0) := Lib.hid (by rw [HGap.out, hx, hy]; simp)
      go_wp2
      go_ret
      rw [HE.out]
      exact ⟨rfl, HG2.out⟩
    | true =>
      by_cases h0 : L = 0
      · have HE : Hid (D.gap x y = 0) := Lib.hid (by rw [HGap.out, if_pos (.inr (List.eq_nil_of_length_eq_zero (HL.out.trans h0)))])
        subst h0
        go_wp2
        go_ret
        rw [HE.out]
        exact ⟨rfl, HG2.out⟩
      · obtain ⟨i, rfl, hi⟩ := inN_get hx
        obtain ⟨j, rfl, hj⟩ := inN_get hy
        have hl0 : D.l ≠ [] := fun e => h0 (by rw [← HL.out, e]; rfl)
        obtain ⟨ki, Hki⟩ : ∃ k, Hid (D.hs[i]? = some k) := ⟨_, Lib.hid (List.getElem?_eq_getElem (by rw [HM.out]; exact hi))⟩
        obtain ⟨kj, Hkj⟩ : ∃ k, Hid (D.hs[j]? = some k) := ⟨_, Lib.hid (List.getElem?_eq_getElem (by rw [HM.out]; exact hj))⟩
        have hkiL : ki < L := by have := (HOk.out.hh ki (List.mem_of_getElem? Hki.out)).resolve_right fun e => hl0 e.1; rw [HL.out] at this; exact this
        have hkjL : kj < L := by have := (HOk.out.hh kj (List.mem_of_getElem? Hkj.out)).resolve_right fun e => hl0 e.1; rw [HL.out] at this; exact this
        obtain ⟨g, Hg⟩ : ∃ g, Hid ((kj + L - ki) % L = g) := ⟨_, Lib.hid rfl⟩
        have HE : Hid (D.gap (i : Int) (j : Int) = g) := Lib.hid (by
          rw [HGap.out, hx, hy, if_neg (by simp [hl0]), Int.toNat_natCast, Int.toNat_natCast, List.getD_eq_getElem?_getD, List.getD_eq_getElem?_getD, Hki.out, Hkj.out]
          exact Hg.out)
        have hci := HG2.out.cell (HXH.out i ki Hki.out) (by simp)
        have hcj := HG2.out.cell (HXH.out j kj Hkj.out) (by simp)
        have hL1 : ((L : Int) == 0) = false := by simp; omega
        have hL2 : (L == 0) = false := by simp; omega
        have hL3 : ¬ ((L : Int) = 0) := by omega
        have hw1 : IntKind.i64.wrap ((kj : Int) + (L : Int)) = (kj : Int) + (L : Int) := by rw [IntKind.wrap_i64]; omega
        have hw2 : IntKind.i64.wrap ((kj : Int) + (L : Int) - (ki : Int)) = (kj : Int) + (L : Int) - (ki : Int) := by rw [IntKind.wrap_i64]; omega
        have hmm : ((kj : Int) + (L : Int) - (ki : Int)).tmod (L : Int) = (g : Int) := by
          rw [show (kj : Int) + (L : Int) - (ki : Int) = ((kj + L - ki : Nat) : Int) by omega, ← Int.ofNat_tmod, Hg.out]
        clear hx hy hl0
        go_wp2_with fail
        go_quiet (fail)
        go_wp2
        go_ret
        rw [HE.out]
        exact ⟨rfl, grown_trans HG2.out (grown_drewN _ _ none)⟩
end
end Go.Proofs.Ytjligfgaahcogaa
