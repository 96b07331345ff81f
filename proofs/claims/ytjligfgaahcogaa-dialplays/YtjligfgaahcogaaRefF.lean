/-
  The document's dial: Remove.
-/
import Derived.Test.YtjligfgaahcogaaRefE
namespace Go.Proofs.Ytjligfgaahcogaa
open Go.ChangeShapes Go.WideShapes Go.ChangeAt Go.RowKit
set_option linter.unusedVariables false

section
variable {lo : Nat} {w : World} {D : Dl} {vL vH : Value}
def RemPost (lo : Nat) (w : World) (D : Dl) (vL vH : Value) (z : Int) (e : Ending) (w' : World) : Prop :=
  (SamePost w (refV D vL vH) (.bool false) e w' ∧ D.has z = false) ∨ ∃ k x : Nat, z = (x : Int) ∧ D.l[k]? = some x ∧ RPost2 lo w (D.rem k) (.bool true) e w'
set_option maxHeartbeats 1000000 in
theorem rrem_at (h : RefAt lo w D vL vH) (hlo : lo ≤ w.heap.size) (ho : D.Ok) (hf : D.l.length ≤ 65536) (hM1 : 1 ≤ D.hs.length) (hM : D.hs.length ≤ 8) (z : Int) : Calls Try.prog 26 #[refV D vL vH, .int .i32 z] w (RemPost lo w D vL vH z) := by
  unfold RemPost
  have HH := Lib.hid h
  have HP := Lib.hid (fun w' (hg : w.grownBy w' none) => rplace_at (HH.out.kept hg) hf z)
  obtain ⟨bH, oH, cH, rfl, hlH, hcmH, _, hxH⟩ := h.h
  obtain ⟨A, c, rfl, hlc, hcm, hzz, hr⟩ := h.l
  have HR := Lib.hid hr
  unfold refV at HP
  obtain ⟨L, HL⟩ : ∃ L, Hid (D.l.length = L) := ⟨_, Lib.hid rfl⟩
  obtain ⟨M, HM⟩ : ∃ M, Hid (D.hs.length = M) := ⟨_, Lib.hid rfl⟩
  have HRV : Hid (refV D (.slice A D.l.length c) (.slice (some ⟨bH, oH, none⟩) D.hs.length cH) = .agg #[.int .i64 (D.N : Int), .slice A L c, .slice (some ⟨bH, oH, none⟩) M cH]) := Lib.hid (by unfold refV; rw [HL.out, HM.out])
  rw [HL.out, HM.out] at HP HRV
  rw [HL.out] at hf HH hlc ⊢
  rw [HM.out] at hlH hM hM1 HH ⊢
  rw [HRV.out]
  obtain ⟨hg0, hz0, b0, b1⟩ := alloc33 w (.int .i64 (D.N : Int)) (.slice A L c) (.slice (some ⟨bH, oH, none⟩) M cH) (.int .i64 0) (.slice none 0 0) (.slice none 0 0) 32
  obtain ⟨c00, c01, c02, _, _, _, l0⟩ := cells3 b0
  have HG0 := Lib.hid hg0
  have HB0 := Lib.hid b0
  have HB1 := Lib.hid b1
  have HXH := Lib.hid hxH
  have HLo := Lib.hid hlo
  have HOk := Lib.hid ho
  clear hg0 b0 b1 hxH ho h hr hzz hcm hz0 hcmH hlo
  go_enter Try.func26, Try.ntmps26
  go_wp2_with fail
  generalize (w.alloc (.cells #[.int .i64 (D.N : Int), .slice A L c, .slice (some ⟨bH, oH, none⟩) M cH] 32)).alloc (.cells #[.int .i64 0, .slice none 0 0, .slice none 0 0] 32) = w0 at *
  refine (HP.out w0 HG0.out).mono ?_
  rintro e w3 ⟨hg3, (⟨rfl, hno⟩ | ⟨k, x, rfl, hzx, hkx⟩)⟩
  · have Hno := Lib.hid hno
    clear c00 c01 c02 l0
    have HB0c := Lib.hid (kept2 HB0.out hg3)
    have HB1c := Lib.hid (kept2 HB1.out hg3)
    have HG0c := Lib.hid (grown_trans HG0.out hg3)
    obtain ⟨c00, c01, c02, _, _, _, l0⟩ := cells3 HB0c.out
    obtain ⟨c10, c11, c12, f10, f11, f12, l1⟩ := cells3 HB1c.out
    clear hg3 HB0 HB1 HG0 hno
    go_wp2
    refine bodyPost_ret (results_ref2 rfl _ _ _ _ _ _ _ _ rfl (fin3 HB1c.out)) rfl ?_
    exact .inl ⟨⟨rfl, fin3g HG0c.out (by omega)⟩, Hno.out⟩
  · subst hzx
    have Hkx := Lib.hid hkx
    have hkL : k < L := by rw [← HL.out]; exact (List.getElem?_eq_some_iff.1 hkx).1
    have hne : ¬ D.l = [] := by intro e; rw [e] at hkx; simp at hkx
    obtain ⟨bL, oL, rfl, _⟩ := HR.out.resolve_left hne
    clear c00 c01 c02 l0
    have HB0c := Lib.hid (kept2 HB0.out hg3)
    have HB1c := Lib.hid (kept2 HB1.out hg3)
    have HG0c := Lib.hid (grown_trans HG0.out hg3)
    obtain ⟨c00, c01, c02, _, _, _, l0⟩ := cells3 HB0c.out
    have hd3 : decide ((k : Int) < 0) = false := by simp
    clear hg3 HB0 HB1 HG0 hkx HR HP
    go_wp2_with fail
    obtain ⟨q, Hq⟩ : ∃ q, Hid (L - 1 = q) := ⟨_, Lib.hid rfl⟩
    have HQl : Hid ((D.l.take k ++ D.l.drop (k + 1)).length = q) := Lib.hid (by rw [rem_len (by rw [HL.out]; exact hkL), HL.out, Hq.out])
    -- the ring without it
    obtain ⟨hs', Hhs⟩ : ∃ hs', Hid (D.hs.map (remH k q) = hs') := ⟨_, Lib.hid rfl⟩
    have HT : Hid (D.rem k = ⟨D.N, D.l.take k ++ D.l.drop (k + 1), hs'⟩) := Lib.hid (by unfold Dl.rem; rw [HL.out, Hq.out, Hhs.out])
    have Hhl : Hid (hs'.length = M) := Lib.hid (by rw [← Hhs.out, List.length_map, HM.out])
    have HOl : Hid (∀ h ∈ D.hs, h < L) := Lib.hid fun h hh => by have := (HOk.out.hh h hh).resolve_right fun e => hne e.1; rw [HL.out] at this; exact this
    have Hne := Lib.hid hne
    clear hne HOk
    have hwr : IntKind.i64.wrap ((k : Int) + 1) = (k : Int) + 1 := by rw [IntKind.wrap_i64]; omega
    have h0i : (0 : Int) ≤ (k : Int) := by omega
    have hp1 : 0 ≤ (k : Int) + 1 := by omega
    have hk1 : (k : Int) + 1 ≤ (L : Int) := by omega
    have hkc : (k : Int) ≤ (c : Int) := by omega
    refine region_tail 9 (by kernel_rfl) (by kernel_rfl) ?_
    intro w4 hw4
    have HG4 : Hid (w3.grownBy w4 none) := Lib.hid (by rw [hw4]; exact grown_drewN w3 1 none)
    have HB0d := Lib.hid (kept2 HB0c.out HG4.out)
    have HB1d := Lib.hid (kept2 HB1c.out HG4.out)
    have HG0d := Lib.hid (grown_trans HG0c.out HG4.out)
    clear hw4 HG4 HB0c HB1c HG0c c00 c01 c02 l0
    obtain ⟨c00, c01, c02, _, _, _, l0⟩ := cells3 HB0d.out
    have HN1 : Hid (NRow lo w4 (.slice (some ⟨bL, oL, none⟩) k c) (D.l.take k)) := Lib.hid (by
      obtain ⟨A', c', hv, hh⟩ := (HH.out.l.kept HG0d.out).take k (by rw [HL.out]; omega)
      injection hv with e1 _ e3
      rw [← e1, ← e3] at hh
      exact hh)
    have HN2 := Lib.hid ((HH.out.l.kept HG0d.out).dropped (k + 1) (by rw [HL.out]; omega))
    have HJ : Hid (∀ u, NRow lo w4 u (D.l.drop (k + 1)) → Calls Try.prog 41 #[.slice (some ⟨bL, oL, none⟩) k c, u] w4 fun e w'' => ∃ A' c', e = .returned (.slice A' q c') ∧ Hid (NRow lo w'' (.slice A' q c') (D.l.take k ++ D.l.drop (k + 1))) ∧ Hid (Value.slice A' q c' = .slice none 0 0 ∨ ∃ b off n c, Value.slice A' q c' = .slice (some ⟨b, off, none⟩) n c) ∧ Hid (w4.grownBy w'' none)) := Lib.hid fun u hu => by
      refine (joined_at _ _ _ _ _ HN1.out hu (by rw [← List.length_append, HQl.out]; have := Hq.out; omega)).mono ?_
      rintro e w'' ⟨r, rfl, ho, hg'⟩
      have hsh := owns_shape ho
      obtain ⟨A', c', rfl⟩ := owns_slice ho
      have hn := (NRow.of_owns ho rfl).lower (Nat.le_trans HLo.out HG0d.out.size)
      rw [HQl.out] at hn hsh ⊢
      exact ⟨A', c', rfl, Lib.hid hn, Lib.hid hsh, Lib.hid hg'⟩
    simp only [List.take_succ_cons, List.take_zero, List.drop_succ_cons, List.drop_zero]
    by_cases hcc : c = k + 1
    · subst hcc
      have HJ2 := Lib.hid (HJ.out _ (HN2.out.1 rfl))
      have hle : (k : Int) ≤ (k : Int) + 1 := by omega
      clear HJ HN2 HN1 hlc
      repeat still_step
      refine wpStill_nil ?_
      clear c00 c01 c02 l0
      go_wp2_with fail
      refine HJ2.out.mono ?_
      rintro e w5 ⟨Ar, cr, rfl, HNr, HSr, HGr⟩
      have HB0e := Lib.hid (kept2 HB0d.out HGr.out)
      have HB1e := Lib.hid (kept2 HB1d.out HGr.out)
      have HG0e := Lib.hid (grown_trans HG0d.out HGr.out)
      obtain ⟨c00, c01, c02, f00, f01, f02, l0⟩ := cells3 HB0e.out
      clear HB0d HB1d HG0d HGr HJ2
      go_wp2_with fail
      have HB06 : Hid ((w5.setCell ⟨w.heap.size, 1, none⟩ (.slice Ar q cr)).heap[w.heap.size]? = some (.cells #[.int .i64 (D.N : Int), .slice Ar q cr, .slice (some ⟨bH, oH, none⟩) M cH] 32 (0, 0))) := Lib.hid (head_set HB0e.out 1 _)
      have HB16 : Hid ((w5.setCell ⟨w.heap.size, 1, none⟩ (.slice Ar q cr)).heap[w.heap.size + 1]? = some (.cells #[.int .i64 0, .slice none 0 0, .slice none 0 0] 32 (0, 0))) := Lib.hid ((heap_setCell_other _ _ _ _ (by simp only; omega)).trans HB1e.out)
      have HG6 : Hid (w.grownBy (w5.setCell ⟨w.heap.size, 1, none⟩ (.slice Ar q cr)) none) := Lib.hid (grown_new HG0e.out (grown_setCell _ _ _ _) (Nat.le_refl _))
      have HN6 : Hid (NRow lo (w5.setCell ⟨w.heap.size, 1, none⟩ (.slice Ar q cr)) (.slice Ar q cr) (D.l.take k ++ D.l.drop (k + 1))) := Lib.hid (HNr.out.stay fun b cur _ hb => heap_setCell_other _ _ _ _ (fun e => by have e : b = w.heap.size := e; subst e; exact absurd (type_eq hb HB0e.out) (by decide)))
      clear c00 c01 c02 f00 f01 f02 l0 HB0e HB1e HG0e HNr
      generalize w5.setCell ⟨w.heap.size, 1, none⟩ (.slice Ar q cr) = w6 at *
      go_loopw [7, 8] (fun v j wr => ∃ j' : Nat, j' ≤ M ∧ j = .int .i64 (j' : Int) ∧ Hid (wr.ownsRow w6.heap.size 3 1 v j' (ivals (hs'.take j'))) ∧ Hid (w6.grownBy wr none)) (fun _ j _ => M - (intOf j).toNat)
      case atStart => exact ⟨0, Nat.zero_le _, by go_num, Lib.hid (World.ownsRow_nil _ _ _ _), Lib.hid (World.grownBy.refl _ _)⟩
      case round =>
        obtain ⟨j, hj, rfl, HO, HG⟩ := hrel
        obtain ⟨Av, cv, rfl⟩ := owns_slice HO.out
        obtain ⟨c00, c01, c02, f00, f01, f02, l0⟩ := cells3 (kept2 HB06.out HG.out)
        by_cases hlt : j < M
        · obtain ⟨hj0, Hj0⟩ : ∃ h0, Hid (D.hs[j]? = some h0) := ⟨_, Lib.hid (List.getElem?_eq_getElem (by rw [HM.out]; exact hlt))⟩
          have hcell := (grown_trans HG6.out HG.out).cell (HXH.out j hj0 Hj0.out) (by simp)
          have hhL : hj0 < L := HOl.out hj0 (List.mem_of_getElem? Hj0.out)
          obtain ⟨m, Hm⟩ : ∃ m, Hid (remH k q hj0 = m) := ⟨_, Lib.hid rfl⟩
          have Hx : Hid (hs'[j]? = some m) := Lib.hid (by rw [← Hhs.out, List.getElem?_map, Hj0.out, ← Hm.out]; rfl)
          obtain ⟨g', cap', w2, hrun, ho2, hbl, hgr, hsz⟩ := push_int (x := m) HO.out (by omega) HG.out.size
          rw [← take_snoc Hx.out] at ho2
          have HRun := Lib.hid hrun
          have HO2 := Lib.hid ho2
          have HG2 : Hid (w6.grownBy w2 none) := Lib.hid (hgr w6 (Nat.le_refl _) HG.out)
          have hlbH := World.block_lt_of_cell? wr _ hcell
          clear hrun ho2 hbl hgr hsz HO HG
          by_cases h1 : k < hj0
          · obtain ⟨p, rfl⟩ : ∃ p, hj0 = p + 1 := ⟨hj0 - 1, by omega⟩
            have hd1 : decide ((k : Int) < ((p + 1 : Nat) : Int)) = true := by simp; omega
            have hd1' : decide (k < p + 1) = true := by simp; omega
            have hsub : ((p + 1 : Nat) : Int) - 1 = (p : Int) := by omega
            by_cases h2 : q ≤ p
            · obtain rfl : m = 0 := by rw [← Hm.out]; unfold remH; rw [if_pos h1, Nat.add_sub_cancel, if_pos h2]
              have hd2 : decide ((q : Int) ≤ (p : Int)) = true := by simp; omega
              have hd2' : decide (q ≤ p) = true := by simp; omega
              go_wp2_with (at_builtin; refine append_run rfl (.tmp 49) (.tmp 51) 30 rfl rfl rfl HRun.out ?_)
              go_roundw
              case rel => exact ⟨j + 1, by omega, by go_num, HO2, HG2⟩
              case measure => simp [intOf]; omega
            · obtain rfl : m = p := by rw [← Hm.out]; unfold remH; rw [if_pos h1, Nat.add_sub_cancel, if_neg h2]
              have hd2 : decide ((q : Int) ≤ (m : Int)) = false := by simp; omega
              have hd2' : decide (q ≤ m) = false := by simp; omega
              go_wp2_with (at_builtin; refine append_run rfl (.tmp 49) (.tmp 51) 30 rfl rfl rfl HRun.out ?_)
              go_roundw
              case rel => exact ⟨j + 1, by omega, by go_num, HO2, HG2⟩
              case measure => simp [intOf]; omega
          · have hd1 : decide ((k : Int) < (hj0 : Int)) = false := by simp; omega
            have hd1' : decide (k < hj0) = false := by simp; omega
            by_cases h2 : q ≤ hj0
            · obtain rfl : m = 0 := by rw [← Hm.out]; unfold remH; rw [if_neg h1, if_pos h2]
              have hd2 : decide ((q : Int) ≤ (hj0 : Int)) = true := by simp; omega
              have hd2' : decide (q ≤ hj0) = true := by simp; omega
              go_wp2_with (at_builtin; refine append_run rfl (.tmp 49) (.tmp 51) 30 rfl rfl rfl HRun.out ?_)
              go_roundw
              case rel => exact ⟨j + 1, by omega, by go_num, HO2, HG2⟩
              case measure => simp [intOf]; omega
            · obtain rfl : m = hj0 := by rw [← Hm.out]; unfold remH; rw [if_neg h1, if_neg h2]
              have hd2 : decide ((q : Int) ≤ (m : Int)) = false := by simp; omega
              have hd2' : decide (q ≤ m) = false := by simp; omega
              go_wp2_with (at_builtin; refine append_run rfl (.tmp 49) (.tmp 51) 30 rfl rfl rfl HRun.out ?_)
              go_roundw
              case rel => exact ⟨j + 1, by omega, by go_num, HO2, HG2⟩
              case measure => simp [intOf]; omega
        · obtain rfl : j = M := by omega
          have HB1b := Lib.hid (kept2 HB16.out HG.out)
          have HB0b := Lib.hid (kept2 HB06.out HG.out)
          obtain ⟨c10, c11, c12, f10, f11, f12, l1⟩ := cells3 HB1b.out
          have HRef : Hid (RefAt lo wr ⟨D.N, D.l.take k ++ D.l.drop (k + 1), hs'⟩ (.slice Ar q cr) (.slice Av j cv)) := Lib.hid ⟨HN6.out.kept HG.out, HSr.out, by
            have := HO.out
            rw [List.take_of_length_le (by rw [Hhl.out]; exact Nat.le_refl _)] at this
            exact IRow.of_owns this Hhl.out.symm (by omega)⟩
          have HGz := Lib.hid (grown_trans HG6.out HG.out)
          clear HO HG HB06 HB16 HG6 HN6 HSr
          go_wp2
          have kz : (wr.setCell ⟨w.heap.size, 2, none⟩ (.slice Av j cv)).heap[w.heap.size + 1]? = some (.cells #[.int .i64 0, .slice none 0 0, .slice none 0 0] 32 (0, 0)) := (heap_setCell_other _ _ _ _ (by simp only; omega)).trans HB1b.out
          refine bodyPost_ret (results_ref2 rfl _ _ _ _ _ _ _ _ rfl (fin3 kz)) rfl ?_
          refine .inr ⟨k, x, rfl, Hkx.out, ?_⟩
          rw [HT.out]
          exact ⟨_, _, rfl, (HRef.out.set1 HB0b.out).fin3 kz, fin3g (grown_new HGz.out (grown_setCell _ _ _ _) (Nat.le_refl _)) (by omega)⟩
    · have HJ2 := Lib.hid (HJ.out _ (HN2.out.2 (c - (k + 1) - 1) (by omega)))
      rw [show c - (k + 1) - 1 + 1 = c - (k + 1) by omega] at HJ2
      have hc0 : ¬ c = 0 := by omega
      clear HJ HN2 HN1 hlc
      repeat still_step
      refine wpStill_nil ?_
      clear c00 c01 c02 l0
      go_wp2_with fail
      refine HJ2.out.mono ?_
      rintro e w5 ⟨Ar, cr, rfl, HNr, HSr, HGr⟩
      have HB0e := Lib.hid (kept2 HB0d.out HGr.out)
      have HB1e := Lib.hid (kept2 HB1d.out HGr.out)
      have HG0e := Lib.hid (grown_trans HG0d.out HGr.out)
      obtain ⟨c00, c01, c02, f00, f01, f02, l0⟩ := cells3 HB0e.out
      clear HB0d HB1d HG0d HGr HJ2
      go_wp2_with fail
      have HB06 : Hid ((w5.setCell ⟨w.heap.size, 1, none⟩ (.slice Ar q cr)).heap[w.heap.size]? = some (.cells #[.int .i64 (D.N : Int), .slice Ar q cr, .slice (some ⟨bH, oH, none⟩) M cH] 32 (0, 0))) := Lib.hid (head_set HB0e.out 1 _)
      have HB16 : Hid ((w5.setCell ⟨w.heap.size, 1, none⟩ (.slice Ar q cr)).heap[w.heap.size + 1]? = some (.cells #[.int .i64 0, .slice none 0 0, .slice none 0 0] 32 (0, 0))) := Lib.hid ((heap_setCell_other _ _ _ _ (by simp only; omega)).trans HB1e.out)
      have HG6 : Hid (w.grownBy (w5.setCell ⟨w.heap.size, 1, none⟩ (.slice Ar q cr)) none) := Lib.hid (grown_new HG0e.out (grown_setCell _ _ _ _) (Nat.le_refl _))
      have HN6 : Hid (NRow lo (w5.setCell ⟨w.heap.size, 1, none⟩ (.slice Ar q cr)) (.slice Ar q cr) (D.l.take k ++ D.l.drop (k + 1))) := Lib.hid (HNr.out.stay fun b cur _ hb => heap_setCell_other _ _ _ _ (fun e => by have e : b = w.heap.size := e; subst e; exact absurd (type_eq hb HB0e.out) (by decide)))
      clear c00 c01 c02 f00 f01 f02 l0 HB0e HB1e HG0e HNr
      generalize w5.setCell ⟨w.heap.size, 1, none⟩ (.slice Ar q cr) = w6 at *
      go_loopw [7, 8] (fun v j wr => ∃ j' : Nat, j' ≤ M ∧ j = .int .i64 (j' : Int) ∧ Hid (wr.ownsRow w6.heap.size 3 1 v j' (ivals (hs'.take j'))) ∧ Hid (w6.grownBy wr none)) (fun _ j _ => M - (intOf j).toNat)
      case atStart => exact ⟨0, Nat.zero_le _, by go_num, Lib.hid (World.ownsRow_nil _ _ _ _), Lib.hid (World.grownBy.refl _ _)⟩
      case round =>
        obtain ⟨j, hj, rfl, HO, HG⟩ := hrel
        obtain ⟨Av, cv, rfl⟩ := owns_slice HO.out
        obtain ⟨c00, c01, c02, f00, f01, f02, l0⟩ := cells3 (kept2 HB06.out HG.out)
        by_cases hlt : j < M
        · obtain ⟨hj0, Hj0⟩ : ∃ h0, Hid (D.hs[j]? = some h0) := ⟨_, Lib.hid (List.getElem?_eq_getElem (by rw [HM.out]; exact hlt))⟩
          have hcell := (grown_trans HG6.out HG.out).cell (HXH.out j hj0 Hj0.out) (by simp)
          have hhL : hj0 < L := HOl.out hj0 (List.mem_of_getElem? Hj0.out)
          obtain ⟨m, Hm⟩ : ∃ m, Hid (remH k q hj0 = m) := ⟨_, Lib.hid rfl⟩
          have Hx : Hid (hs'[j]? = some m) := Lib.hid (by rw [← Hhs.out, List.getElem?_map, Hj0.out, ← Hm.out]; rfl)
          obtain ⟨g', cap', w2, hrun, ho2, hbl, hgr, hsz⟩ := push_int (x := m) HO.out (by omega) HG.out.size
          rw [← take_snoc Hx.out] at ho2
          have HRun := Lib.hid hrun
          have HO2 := Lib.hid ho2
          have HG2 : Hid (w6.grownBy w2 none) := Lib.hid (hgr w6 (Nat.le_refl _) HG.out)
          have hlbH := World.block_lt_of_cell? wr _ hcell
          clear hrun ho2 hbl hgr hsz HO HG
          by_cases h1 : k < hj0
          · obtain ⟨p, rfl⟩ : ∃ p, hj0 = p + 1 := ⟨hj0 - 1, by omega⟩
            have hd1 : decide ((k : Int) < ((p + 1 : Nat) : Int)) = true := by simp; omega
            have hd1' : decide (k < p + 1) = true := by simp; omega
            have hsub : ((p + 1 : Nat) : Int) - 1 = (p : Int) := by omega
            by_cases h2 : q ≤ p
            · obtain rfl : m = 0 := by rw [← Hm.out]; unfold remH; rw [if_pos h1, Nat.add_sub_cancel, if_pos h2]
              have hd2 : decide ((q : Int) ≤ (p : Int)) = true := by simp; omega
              have hd2' : decide (q ≤ p) = true := by simp; omega
              go_wp2_with (at_builtin; refine append_run rfl (.tmp 49) (.tmp 51) 30 rfl rfl rfl HRun.out ?_)
              go_roundw
              case rel => exact ⟨j + 1, by omega, by go_num, HO2, HG2⟩
              case measure => simp [intOf]; omega
            · obtain rfl : m = p := by rw [← Hm.out]; unfold remH; rw [if_pos h1, Nat.add_sub_cancel, if_neg h2]
              have hd2 : decide ((q : Int) ≤ (m : Int)) = false := by simp; omega
              have hd2' : decide (q ≤ m) = false := by simp; omega
              go_wp2_with (at_builtin; refine append_run rfl (.tmp 49) (.tmp 51) 30 rfl rfl rfl HRun.out ?_)
              go_roundw
              case rel => exact ⟨j + 1, by omega, by go_num, HO2, HG2⟩
              case measure => simp [intOf]; omega
          · have hd1 : decide ((k : Int) < (hj0 : Int)) = false := by simp; omega
            have hd1' : decide (k < hj0) = false := by simp; omega
            by_cases h2 : q ≤ hj0
            · obtain rfl : m = 0 := by rw [← Hm.out]; unfold remH; rw [if_neg h1, if_pos h2]
              have hd2 : decide ((q : Int) ≤ (hj0 : Int)) = true := by simp; omega
              have hd2' : decide (q ≤ hj0) = true := by simp; omega
              go_wp2_with (at_builtin; refine append_run rfl (.tmp 49) (.tmp 51) 30 rfl rfl rfl HRun.out ?_)
              go_roundw
              case rel => exact ⟨j + 1, by omega, by go_num, HO2, HG2⟩
              case measure => simp [intOf]; omega
            · obtain rfl : m = hj0 := by rw [← Hm.out]; unfold remH; rw [if_neg h1, if_neg h2]
              have hd2 : decide ((q : Int) ≤ (m : Int)) = false := by simp; omega
              have hd2' : decide (q ≤ m) = false := by simp; omega
              go_wp2_with (at_builtin; refine append_run rfl (.tmp 49) (.tmp 51) 30 rfl rfl rfl HRun.out ?_)
              go_roundw
              case rel => exact ⟨j + 1, by omega, by go_num, HO2, HG2⟩
              case measure => simp [intOf]; omega
        · obtain rfl : j = M := by omega
          have HB1b := Lib.hid (kept2 HB16.out HG.out)
          have HB0b := Lib.hid (kept2 HB06.out HG.out)
          obtain ⟨c10, c11, c12, f10, f11, f12, l1⟩ := cells3 HB1b.out
          have HRef : Hid (RefAt lo wr ⟨D.N, D.l.take k ++ D.l.drop (k + 1), hs'⟩ (.slice Ar q cr) (.slice Av j cv)) := Lib.hid ⟨HN6.out.kept HG.out, HSr.out, by
            have := HO.out
            rw [List.take_of_length_le (by rw [Hhl.out]; exact Nat.le_refl _)] at this
            exact IRow.of_owns this Hhl.out.symm (by omega)⟩
          have HGz := Lib.hid (grown_trans HG6.out HG.out)
          clear HO HG HB06 HB16 HG6 HN6 HSr
          go_wp2
          have kz : (wr.setCell ⟨w.heap.size, 2, none⟩ (.slice Av j cv)).heap[w.heap.size + 1]? = some (.cells #[.int .i64 0, .slice none 0 0, .slice none 0 0] 32 (0, 0)) := (heap_setCell_other _ _ _ _ (by simp only; omega)).trans HB1b.out
          refine bodyPost_ret (results_ref2 rfl _ _ _ _ _ _ _ _ rfl (fin3 kz)) rfl ?_
          refine .inr ⟨k, x, rfl, Hkx.out, ?_⟩
          rw [HT.out]
          exact ⟨_, _, rfl, (HRef.out.set1 HB0b.out).fin3 kz, fin3g (grown_new HGz.out (grown_setCell _ _ _ _) (Nat.le_refl _)) (by omega)⟩
end
end Go.Proofs.Ytjligfgaahcogaa
