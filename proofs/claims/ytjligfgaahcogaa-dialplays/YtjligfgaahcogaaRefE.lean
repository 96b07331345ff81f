/-
  The document's dial: Insert.
-/
import Derived.Test.YtjligfgaahcogaaRefD
namespace Go.Proofs.Ytjligfgaahcogaa
open Go.ChangeShapes Go.WideShapes Go.ChangeAt Go.RowKit
set_option linter.unusedVariables false

theorem nrow_one {w : World} {x : Nat} {lo : Nat} (hlo : lo ≤ w.heap.size) : NRow lo (w.alloc (.cells #[.int .i32 (x : Int)] 21)) (.slice (some ⟨w.heap.size, 0, none⟩) 1 1) [x] :=
  (lit_row (xs := [x]) (heap_alloc_new w _) (by simp [maxLen])).lower hlo
/-- the shape of a slice that is owned -/
theorem owns_shape {w : World} {base : Nat} {v : Value} {xs : List Nat} (h : w.ownsRow base 21 1 v xs.length (nvals xs)) : v = .slice none 0 0 ∨ ∃ b off n c, v = .slice (some ⟨b, off, none⟩) n c := by
  rcases h.2 with ⟨hv, _⟩ | ⟨g, cap, cur, hv, _⟩
  · exact .inl hv
  · exact .inr ⟨g, 0, _, cap, hv⟩
section
variable {lo : Nat} {w : World} {D : Dl} {vL vH : Value}
def InsPost (lo : Nat) (w : World) (D : Dl) (vL vH : Value) (n h : Int) (e : Ending) (w' : World) : Prop :=
  (SamePost w (refV D vL vH) (.int .i64 (D.insC n h)) e w' ∧ ¬ D.insC n h = 0) ∨ ∃ i x : Nat, n = (x : Int) ∧ h = (i : Int) ∧ D.insC n h = 0 ∧ i < D.hs.length ∧ x < D.N ∧ x ∉ D.l ∧ RPost2 lo w (D.ins i x) (.int .i64 0) e w'
set_option maxHeartbeats 1000000 in
theorem rins_at (h : RefAt lo w D vL vH) (hlo : lo ≤ w.heap.size) (ho : D.Ok) (hf : D.l.length ≤ 65536) (hM : D.hs.length ≤ 8) (z n : Int) (hz : i32in z) : Calls Try.prog 25 #[refV D vL vH, .int .i32 z, .int .i64 n] w (InsPost lo w D vL vH z n) := by
  unfold InsPost
  have HH := Lib.hid h
  have HP := Lib.hid (fun w' (hg : w.grownBy w' none) => rplace_at (HH.out.kept hg) hf z)
  have hnd : ∀ w', Calls Try.prog 38 #[refV D vL vH, .int .i32 z] w' fun e w'' => e = .returned (.bool (inN D.N z)) ∧ w'.grownBy w'' none := fun w' => by
    obtain ⟨bH, oH, cH, hv, _⟩ := HH.out.h
    obtain ⟨A, c, hv2, _⟩ := HH.out.l
    exact rnode_at D _ _ z w' hz hv2 hv
  have htn : ∀ (i k : Nat) w', w.grownBy w' none → D.hs[i]? = some k → D.l ≠ [] → Calls Try.prog 40 #[refV D vL vH, .int .i64 (i : Int)] w' (RPost lo w' (D.turn k)) := fun i k w' hg hk h0 => rturned_at (HH.out.kept hg) (Nat.le_trans hlo hg.size) ho hf hM hk h0
  obtain ⟨bH, oH, cH, rfl, hlH, hcmH, _, hxH⟩ := h.h
  obtain ⟨A, c, rfl, hlc, hcm, hzz, hr⟩ := h.l
  have hhd : ∀ n w', Calls Try.prog 39 #[refV D (.slice A D.l.length c) (.slice (some ⟨bH, oH, none⟩) D.hs.length cH), .int .i64 n] w' fun e w'' => e = .returned (.bool (inN D.hs.length n)) ∧ w'.grownBy w'' none := fun n w' => rhand_at D _ n w' rfl
  unfold refV at hhd htn hnd HP
  obtain ⟨L, HL⟩ : ∃ L, Hid (D.l.length = L) := ⟨_, Lib.hid rfl⟩
  obtain ⟨M, HM⟩ : ∃ M, Hid (D.hs.length = M) := ⟨_, Lib.hid rfl⟩
  have HRV : Hid (refV D (.slice A D.l.length c) (.slice (some ⟨bH, oH, none⟩) D.hs.length cH) = .agg #[.int .i64 (D.N : Int), .slice A L c, .slice (some ⟨bH, oH, none⟩) M cH]) := Lib.hid (by unfold refV; rw [HL.out, HM.out])
  have HSC : Hid (D.insC z n = if (inN D.N z && inN M n) = false then 1 else if D.has z = true then 8 else 0) := Lib.hid (by unfold Dl.insC; rw [HM.out])
  rw [HL.out, HM.out] at hhd htn hnd HP HRV
  rw [HL.out] at hf HH ⊢
  rw [HM.out] at hlH hM HH ⊢
  rw [HRV.out]
  obtain ⟨hg0, hz0, b0, b1⟩ := alloc33 w (.int .i64 (D.N : Int)) (.slice A L c) (.slice (some ⟨bH, oH, none⟩) M cH) (.int .i64 0) (.slice none 0 0) (.slice none 0 0) 32
  obtain ⟨c00, c01, c02, _, _, _, l0⟩ := cells3 b0
  have HG0 := Lib.hid hg0
  have HB0 := Lib.hid b0
  have HB1 := Lib.hid b1
  have HHd := Lib.hid hhd
  have HNd := Lib.hid hnd
  have HTn := Lib.hid htn
  have HLo := Lib.hid hlo
  clear hg0 b0 b1 hhd htn hxH ho h hr hzz hlc hcm hnd hz0 hcmH hlo
  go_enter Try.func25, Try.ntmps25
  go_wp2_with fail
  generalize (w.alloc (.cells #[.int .i64 (D.N : Int), .slice A L c, .slice (some ⟨bH, oH, none⟩) M cH] 32)).alloc (.cells #[.int .i64 0, .slice none 0 0, .slice none 0 0] 32) = w0 at *
  refine (HNd.out w0).mono ?_
  rintro e w1 ⟨rfl, hg1⟩
  clear c00 c01 c02 l0
  have HB0a := Lib.hid (kept2 HB0.out hg1)
  have HB1a := Lib.hid (kept2 HB1.out hg1)
  have HG0a := Lib.hid (grown_trans HG0.out hg1)
  obtain ⟨c00, c01, c02, _, _, _, l0⟩ := cells3 HB0a.out
  clear hg1 HB0 HB1 HG0
  cases hnz : inN D.N z with
  | false =>
    have HE : Hid (D.insC z n = 1) := Lib.hid (by rw [HSC.out, hnz]; rfl)
    obtain ⟨c10, c11, c12, f10, f11, f12, l1⟩ := cells3 HB1a.out
    go_wp2
    refine bodyPost_ret (results_ref2 rfl _ _ _ _ _ _ _ _ rfl (fin3 HB1a.out)) rfl ?_
    exact .inl ⟨⟨by rw [HE.out]; rfl, fin3g HG0a.out (by omega)⟩, by rw [HE.out]; decide⟩
  | true =>
    go_wp2_with fail
    refine (HHd.out n w1).mono ?_
    rintro e w2 ⟨rfl, hg2⟩
    clear c00 c01 c02 l0
    have HB0b := Lib.hid (kept2 HB0a.out hg2)
    have HB1b := Lib.hid (kept2 HB1a.out hg2)
    have HG0b := Lib.hid (grown_trans HG0a.out hg2)
    obtain ⟨c00, c01, c02, _, _, _, l0⟩ := cells3 HB0b.out
    clear hg2 HB0a HB1a HG0a
    cases hin : inN M n with
    | false =>
      have HE : Hid (D.insC z n = 1) := Lib.hid (by rw [HSC.out, hin, hnz]; rfl)
      obtain ⟨c10, c11, c12, f10, f11, f12, l1⟩ := cells3 HB1b.out
      go_wp2
      refine bodyPost_ret (results_ref2 rfl _ _ _ _ _ _ _ _ rfl (fin3 HB1b.out)) rfl ?_
      exact .inl ⟨⟨by rw [HE.out]; rfl, fin3g HG0b.out (by omega)⟩, by rw [HE.out]; decide⟩
    | true =>
      go_wp2_with fail
      refine (HP.out w2 HG0b.out).mono ?_
      rintro e w3 ⟨hg3, (⟨rfl, hno⟩ | ⟨k, x, rfl, hzx, hkx⟩)⟩
      · obtain ⟨i, rfl, hi⟩ := inN_get hin
        obtain ⟨x, rfl, hx⟩ := inN_get hnz
        have Hno : Hid (x ∉ D.l) := Lib.hid (Dl.has_free.1 hno)
        have HE : Hid (D.insC (x : Int) (i : Int) = 0) := Lib.hid (by rw [HSC.out, hin, hnz, hno]; rfl)
        clear c00 c01 c02 l0
        have HB0c := Lib.hid (kept2 HB0b.out hg3)
        have HB1c := Lib.hid (kept2 HB1b.out hg3)
        have HG0c := Lib.hid (grown_trans HG0b.out hg3)
        obtain ⟨c00, c01, c02, _, f01, _, l0⟩ := cells3 HB0c.out
        clear hg3 HB0b HB1b HG0b hno hin hnz
        by_cases hL0 : L = 0
        · have Hl0 : Hid (D.l = []) := Lib.hid (List.eq_nil_of_length_eq_zero (HL.out.trans hL0))
          subst hL0
          have HR3 := Lib.hid (HH.out.kept HG0c.out)
          go_wp2_with fail
          have hga := World.grownBy_alloc w3 (.cells #[.int .i32 (x : Int)] 21) none
          have HRa := Lib.hid (HR3.out.kept hga)
          have HB0a := Lib.hid (kept2 HB0c.out hga)
          have HB1a := Lib.hid (kept2 HB1c.out hga)
          have HGa := Lib.hid (grown_trans HG0c.out hga)
          have HOn : Hid (NRow lo (w3.alloc (.cells #[.int .i32 (x : Int)] 21)) (.slice (some ⟨w3.heap.size, 0, none⟩) 1 1) [x]) := Lib.hid (nrow_one (Nat.le_trans HLo.out HG0c.out.size))
          have HJ := Lib.hid (joined_at _ _ _ _ _ HRa.out.l HOn.out (by rw [Hl0.out]; simp))
          have HLw : Hid (lo ≤ (w3.alloc (.cells #[.int .i32 (x : Int)] 21)).heap.size) := Lib.hid (Nat.le_trans HLo.out HGa.out.size)
          clear hga HR3 HB0c HB1c HG0c HOn
          generalize w3.alloc (.cells #[.int .i32 (x : Int)] 21) = wj at *
          refine HJ.out.mono ?_
          rintro e w7 ⟨r, rfl, hor, hg7⟩
          have HOr := Lib.hid (NRow.of_owns hor rfl)
          have HSr := Lib.hid (owns_shape hor)
          have HR7 := Lib.hid (HRa.out.kept hg7)
          have HB07 := Lib.hid (kept2 HB0a.out hg7)
          have HB17 := Lib.hid (kept2 HB1a.out hg7)
          have HG7 := Lib.hid (grown_trans HGa.out hg7)
          obtain ⟨Ar, cr, rfl⟩ := owns_slice hor
          clear hor hg7 HJ HRa HB0a HB1a HGa c00 c01 c02 f01 l0
          obtain ⟨c00, c01, c02, f00, f01, f02, l0⟩ := cells3 HB07.out
          obtain ⟨c10, c11, c12, f10, f11, f12, l1⟩ := cells3 HB17.out
          obtain ⟨q, Hq⟩ : ∃ q, Hid ((D.l ++ [x]).length = q) := ⟨_, Lib.hid rfl⟩
          rw [Hq.out] at HSr HOr ⊢
          go_wp2
          have kz : (w7.setCell ⟨w.heap.size, 1, none⟩ (.slice Ar q cr)).heap[w.heap.size + 1]? = some (.cells #[.int .i64 0, .slice none 0 0, .slice none 0 0] 32 (0, 0)) := (heap_setCell_other _ _ _ _ (by simp only; omega)).trans HB17.out
          refine bodyPost_ret (results_ref2 rfl _ _ _ _ _ _ _ _ rfl (fin3 kz)) rfl ?_
          refine .inr ⟨i, x, rfl, rfl, HE.out, hi, hx, Hno.out, ?_⟩
          rw [show D.ins i x = ⟨D.N, D.l ++ [x], D.hs⟩ by unfold Dl.ins; rw [if_pos Hl0.out, Hl0.out]; rfl]
          have hRz : RefAt lo w7 ⟨D.N, D.l ++ [x], D.hs⟩ (.slice Ar q cr) (.slice (some ⟨bH, oH, none⟩) M cH) := ⟨HOr.out.lower HLw.out, HSr.out, HR7.out.h⟩
          exact ⟨_, _, rfl, (hRz.set1 HB07.out).fin3 kz, fin3g (grown_new HG7.out (grown_setCell _ _ _ _) (Nat.le_refl _)) (by omega)⟩
        · have Hl0 : Hid (D.l ≠ []) := Lib.hid fun e => hL0 (by rw [← HL.out, e]; rfl)
          obtain ⟨k, Hk⟩ : ∃ k, Hid (D.hs[i]? = some k) := ⟨_, Lib.hid (List.getElem?_eq_getElem (by rw [HM.out]; exact hi))⟩
          have hLd : decide (0 < (L : Int)) = true := by simp; omega
          have hLd2 : decide (0 < L) = true := by simp; omega
          have HC := Lib.hid (HTn.out i k w3 HG0c.out Hk.out Hl0.out)
          have HTl : Hid ((D.turn k).l.length ≤ 65536) := Lib.hid (by show (rot D.l k).length ≤ 65536; rw [rot_length, HL.out]; exact hf)
          go_wp2_with fail
          refine HC.out.mono ?_
          rintro e w4 ⟨vL', vH', rfl, hR4, hg4⟩
          have HR4 := Lib.hid hR4
          have HB04 := Lib.hid (kept2 HB0c.out hg4)
          have HB14 := Lib.hid (kept2 HB1c.out hg4)
          have HG4 := Lib.hid (grown_trans HG0c.out hg4)
          obtain ⟨bH', oH', cH', rfl, _⟩ := hR4.h
          obtain ⟨A', c', rfl, _⟩ := hR4.l
          clear hR4 hg4 HC c00 c01 c02 f01 l0
          obtain ⟨c00, c01, c02, f00, f01, f02, l0⟩ := cells3 HB04.out
          unfold refV
          have HR6 := Lib.hid (HR4.out.fin3 (x' := .int .i64 ((D.turn k).N : Int)) (y' := .slice A' (D.turn k).l.length c') (z' := .slice (some ⟨bH', oH', none⟩) (D.turn k).hs.length cH') HB04.out)
          have HB06 := Lib.hid (fin3 (x' := .int .i64 ((D.turn k).N : Int)) (y' := .slice A' (D.turn k).l.length c') (z' := .slice (some ⟨bH', oH', none⟩) (D.turn k).hs.length cH') HB04.out)
          have HG6 := Lib.hid (fin3g (x' := .int .i64 ((D.turn k).N : Int)) (y' := .slice A' (D.turn k).l.length c') (z' := .slice (some ⟨bH', oH', none⟩) (D.turn k).hs.length cH') HG4.out (Nat.le_refl w.heap.size))
          have HB16 : Hid ((((w4.setCell ⟨w.heap.size, 0, none⟩ (.int .i64 ((D.turn k).N : Int))).setCell ⟨w.heap.size, 1, none⟩ (.slice A' (D.turn k).l.length c')).setCell ⟨w.heap.size, 2, none⟩ (.slice (some ⟨bH', oH', none⟩) (D.turn k).hs.length cH')).heap[w.heap.size + 1]? = some (.cells #[.int .i64 0, .slice none 0 0, .slice none 0 0] 32 (0, 0))) := Lib.hid ((heap_setCell_other _ _ _ _ (by simp only; omega)).trans ((heap_setCell_other _ _ _ _ (by simp only; omega)).trans ((heap_setCell_other _ _ _ _ (by simp only; omega)).trans HB14.out)))
          go_wp2_with fail
          have Hz6 : Hid (w4.heap.size = (((w4.setCell ⟨w.heap.size, 0, none⟩ (.int .i64 ((D.turn k).N : Int))).setCell ⟨w.heap.size, 1, none⟩ (.slice A' (D.turn k).l.length c')).setCell ⟨w.heap.size, 2, none⟩ (.slice (some ⟨bH', oH', none⟩) (D.turn k).hs.length cH')).heap.size) := Lib.hid (by simp)
          clear HR4 HB04 HB14 HG4 c00 c01 c02 f00 f01 f02 l0
          generalize ((w4.setCell ⟨w.heap.size, 0, none⟩ (.int .i64 ((D.turn k).N : Int))).setCell ⟨w.heap.size, 1, none⟩ (.slice A' (D.turn k).l.length c')).setCell ⟨w.heap.size, 2, none⟩ (.slice (some ⟨bH', oH', none⟩) (D.turn k).hs.length cH') = w6 at *
          rw [Hz6.out]
          have hga := World.grownBy_alloc w6 (.cells #[.int .i32 (x : Int)] 21) none
          have HRa := Lib.hid (HR6.out.kept hga)
          have HB0a := Lib.hid (kept2 HB06.out hga)
          have HB1a := Lib.hid (kept2 HB16.out hga)
          have HGa := Lib.hid (grown_trans HG6.out hga)
          have HOn : Hid (NRow lo (w6.alloc (.cells #[.int .i32 (x : Int)] 21)) (.slice (some ⟨w6.heap.size, 0, none⟩) 1 1) [x]) := Lib.hid (nrow_one (Nat.le_trans HLo.out HG6.out.size))
          have HJ := Lib.hid (joined_at _ _ _ _ _ HRa.out.l HOn.out (by have := HTl.out; simp; omega))
          have HLw : Hid (lo ≤ (w6.alloc (.cells #[.int .i32 (x : Int)] 21)).heap.size) := Lib.hid (Nat.le_trans HLo.out HGa.out.size)
          clear hga HR6 HB06 HB16 HG6 HOn
          generalize w6.alloc (.cells #[.int .i32 (x : Int)] 21) = wj at *
          refine HJ.out.mono ?_
          rintro e w7 ⟨r, rfl, hor, hg7⟩
          have HOr := Lib.hid (NRow.of_owns hor rfl)
          have HSr := Lib.hid (owns_shape hor)
          have HR7 := Lib.hid (HRa.out.kept hg7)
          have HB07 := Lib.hid (kept2 HB0a.out hg7)
          have HB17 := Lib.hid (kept2 HB1a.out hg7)
          have HG7 := Lib.hid (grown_trans HGa.out hg7)
          obtain ⟨Ar, cr, rfl⟩ := owns_slice hor
          clear hor hg7 HJ HRa HB0a HB1a HGa
          obtain ⟨c00, c01, c02, f00, f01, f02, l0⟩ := cells3 HB07.out
          obtain ⟨c10, c11, c12, f10, f11, f12, l1⟩ := cells3 HB17.out
          obtain ⟨q, Hq⟩ : ∃ q, Hid (((D.turn k).l ++ [x]).length = q) := ⟨_, Lib.hid rfl⟩
          rw [Hq.out] at HSr HOr ⊢
          go_wp2
          have kz : (w7.setCell ⟨w.heap.size, 1, none⟩ (.slice Ar q cr)).heap[w.heap.size + 1]? = some (.cells #[.int .i64 0, .slice none 0 0, .slice none 0 0] 32 (0, 0)) := (heap_setCell_other _ _ _ _ (by simp only; omega)).trans HB17.out
          refine bodyPost_ret (results_ref2 rfl _ _ _ _ _ _ _ _ rfl (fin3 kz)) rfl ?_
          refine .inr ⟨i, x, rfl, rfl, HE.out, hi, hx, Hno.out, ?_⟩
          rw [Dl.turn_ins Hk.out Hl0.out]
          have hRz : RefAt lo w7 ⟨(D.turn k).N, (D.turn k).l ++ [x], (D.turn k).hs⟩ (.slice Ar q cr) (.slice (some ⟨bH', oH', none⟩) (D.turn k).hs.length cH') := ⟨HOr.out.lower HLw.out, HSr.out, HR7.out.h⟩
          exact ⟨_, _, rfl, (hRz.set1 HB07.out).fin3 kz, fin3g (grown_new HG7.out (grown_setCell _ _ _ _) (Nat.le_refl _)) (by omega)⟩
      · have HE : Hid (D.insC z n = 8) := Lib.hid (by rw [HSC.out, hin, hnz, hzx, Dl.has_iff.2 ⟨by omega, by rw [Int.toNat_natCast]; exact List.mem_of_getElem? hkx⟩]; rfl)
        clear c00 c01 c02 l0
        have HB0c := Lib.hid (kept2 HB0b.out hg3)
        have HB1c := Lib.hid (kept2 HB1b.out hg3)
        have HG0c := Lib.hid (grown_trans HG0b.out hg3)
        obtain ⟨c00, c01, c02, _, _, _, l0⟩ := cells3 HB0c.out
        obtain ⟨c10, c11, c12, f10, f11, f12, l1⟩ := cells3 HB1c.out
        have hd3 : decide (0 ≤ (k : Int)) = true := by simp
        clear hg3 HB0b HB1b HG0b hkx hzx
        go_wp2
        refine bodyPost_ret (results_ref2 rfl _ _ _ _ _ _ _ _ rfl (fin3 HB1c.out)) rfl ?_
        exact .inl ⟨⟨by rw [HE.out]; rfl, fin3g HG0c.out (by omega)⟩, by rw [HE.out]; decide⟩
end
end Go.Proofs.Ytjligfgaahcogaa
