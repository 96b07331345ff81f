/-
  The document's dial: a new one; the same from a hand on; Insert.
-/
import Derived.Test.YtjligfgaahcogaaRefC
namespace Go.Proofs.Ytjligfgaahcogaa
open Go.ChangeShapes Go.WideShapes Go.ChangeAt Go.RowKit
set_option linter.unusedVariables false

/-- one number more at the end of a row of numbers -/
theorem push_int {w : World} {base : Nat} {A : Option Addr} {cap k x : Nat} {hs : List Nat} (ho : w.ownsRow base 3 1 (.slice A k cap) k (ivals hs)) (hk : k ≤ 100) (hb : base ≤ w.heap.size) :
    ∃ g' cap' w1, (Builtin.append_ #[30, 30] 30 #[.slice A k cap, .slice (some ⟨w.heap.size, 0, none⟩) 1 1]).run Try.prog (w.alloc (.cells #[.int .i64 (x : Int)] 3)) = .ok (.slice (some ⟨g', 0, none⟩) (k + 1) cap') w1 ∧
      w1.ownsRow base 3 1 (.slice (some ⟨g', 0, none⟩) (k + 1) cap') (k + 1) (ivals (hs ++ [x])) ∧ (∀ r, r < w.heap.size → r < base → w1.heap[r]? = w.heap[r]?) ∧ (∀ w0 : World, w0.heap.size ≤ base → w0.grownBy w none → w0.grownBy w1 none) ∧ w.heap.size ≤ w1.heap.size := by
  obtain ⟨i0, hi, hz0, hz1, hz2⟩ := info_parts info3
  obtain ⟨g', cap', w1, hrun, ho1, hgr, hft⟩ := run_append_foot (P := Try.prog) (w.alloc (.cells #[.int .i64 (x : Int)] 3)) base 30 30 3 i0 (.int .i64 0) 1 8 Try.underlying30 hi hz0 hz1 hz2 rfl (by decide) (.slice A k cap) k (ivals hs) (ho.alloc _) ⟨w.heap.size, 0, none⟩ 1 [.int .i64 (x : Int)] rfl (cell_new1 w 3 _) (by simp [Value.oneCell']) (by unfold maxLen; omega) (by omega) (by simp; omega)
  have hgg := grown_trans (grown_any (World.grownBy_alloc w (.cells #[.int .i64 (x : Int)] 3) none) (Value.slice A k cap).ownBlock) hgr
  refine ⟨g', cap', w1, hrun, by rw [ivals_snoc]; exact ho1, fun r hr hb' => hgg.block r hr (fun e => by have := (ho.lt r e.symm).1; omega), fun w0 h0 h1 => grown_row h1 hgg fun r hr => by have := (ho.lt r hr).1; omega, hgg.size⟩
theorem replicate_snoc (k : Nat) : List.replicate k 0 ++ [0] = List.replicate (k + 1) (0 : Nat) := (List.replicate_succ' ..).symm
set_option maxHeartbeats 2000000 in
theorem rnew_at (N M lo : Nat) (w : World) (hM1 : 1 ≤ M) (hM8 : M ≤ 8) : Calls Try.prog 10 #[.int .i64 (N : Int), .int .i64 (M : Int)] w (RPost lo w (Dl.new N M)) := by
  go_enter Try.func10, Try.ntmps10
  go_wp2_with fail
  obtain ⟨hgB, hzB, b0, b1⟩ := alloc33 w (.int .i64 0) (.slice none 0 0) (.slice none 0 0) (.int .i64 (N : Int)) (.slice none 0 0) (.slice none 0 0) 32
  have HGB := Lib.hid hgB
  have HZB := Lib.hid hzB
  have HB0 := Lib.hid b0
  have HB1 := Lib.hid b1
  clear hgB hzB b0 b1
  generalize (w.alloc (.cells #[.int .i64 0, .slice none 0 0, .slice none 0 0] 32)).alloc (.cells #[.int .i64 (N : Int), .slice none 0 0, .slice none 0 0] 32) = wB at *
  go_loopw [6] (fun i wr => ∃ (k : Nat) (v : Value), k ≤ M ∧ i = .int .i64 (k : Int) ∧ Hid (wr.heap[w.heap.size + 1]? = some (.cells #[.int .i64 (N : Int), .slice none 0 0, v] 32 (0, 0))) ∧ Hid (wr.ownsRow (w.heap.size + 2) 3 1 v k (ivals (List.replicate k 0))) ∧ Hid (wr.heap[w.heap.size]? = some (.cells #[.int .i64 0, .slice none 0 0, .slice none 0 0] 32 (0, 0))) ∧ Hid (w.grownBy wr none) ∧ Hid (w.heap.size + 2 ≤ wr.heap.size)) (fun i _ => M - (intOf i).toNat)
  case atStart => exact ⟨0, _, Nat.zero_le _, by go_num, HB1, Lib.hid (World.ownsRow_nil _ _ _ _), HB0, HGB, Lib.hid (by rw [HZB.out]; exact Nat.le_refl _)⟩
  case round =>
    obtain ⟨k, v, hk, rfl, H1, HO, H0, HG, HZ⟩ := hrel
    obtain ⟨A, cap, rfl⟩ := owns_slice HO.out
    obtain ⟨c10, c11, c12, f10, f11, f12, l1⟩ := cells3 H1.out
    clear HGB HZB HB0 HB1
    by_cases hlt : k < M
    · obtain ⟨g', cap', w1, hrun, ho, hbl, hgr, hsz⟩ := push_int (x := 0) HO.out (by omega) HZ.out
      rw [replicate_snoc] at ho
      have hgn := (ho.lt g' rfl).1
      have h11 : w1.heap[w.heap.size + 1]? = some (.cells #[.int .i64 (N : Int), .slice none 0 0, .slice A k cap] 32 (0, 0)) := (hbl _ l1 (by omega)).trans H1.out
      have h10 : w1.heap[w.heap.size]? = some (.cells #[.int .i64 0, .slice none 0 0, .slice none 0 0] 32 (0, 0)) := (hbl _ (by omega) (by omega)).trans H0.out
      have hG1 : w.grownBy w1 none := hgr w (by omega) HG.out
      clear c10 c11 f10 f11 f12
      obtain ⟨_, _, e12, _, _, g12, l12⟩ := cells3 h11
      have HRun := Lib.hid hrun
      have H1n : Hid ((w1.setCell ⟨w.heap.size + 1, 2, none⟩ (.slice (some ⟨g', 0, none⟩) (k + 1) cap')).heap[w.heap.size + 1]? = some (.cells #[.int .i64 (N : Int), .slice none 0 0, .slice (some ⟨g', 0, none⟩) (k + 1) cap'] 32 (0, 0))) := Lib.hid (head_set h11 2 _)
      have HOn : Hid ((w1.setCell ⟨w.heap.size + 1, 2, none⟩ (.slice (some ⟨g', 0, none⟩) (k + 1) cap')).ownsRow (w.heap.size + 2) 3 1 (.slice (some ⟨g', 0, none⟩) (k + 1) cap') (k + 1) (ivals (List.replicate (k + 1) 0))) := Lib.hid (by
        refine owns_stay ho fun r hr => heap_setCell_other _ _ _ _ ?_
        have : g' = r := by injection hr
        simp only; omega)
      have H0n : Hid ((w1.setCell ⟨w.heap.size + 1, 2, none⟩ (.slice (some ⟨g', 0, none⟩) (k + 1) cap')).heap[w.heap.size]? = some (.cells #[.int .i64 0, .slice none 0 0, .slice none 0 0] 32 (0, 0))) := Lib.hid ((heap_setCell_other _ _ _ _ (by simp only; omega)).trans h10)
      have HGn : Hid (w.grownBy (w1.setCell ⟨w.heap.size + 1, 2, none⟩ (.slice (some ⟨g', 0, none⟩) (k + 1) cap')) none) := Lib.hid (grown_new hG1 (grown_setCell _ _ _ _) (by omega))
      have HZn : Hid (w.heap.size + 2 ≤ (w1.setCell ⟨w.heap.size + 1, 2, none⟩ (.slice (some ⟨g', 0, none⟩) (k + 1) cap')).heap.size) := Lib.hid (by have := HZ.out; simp; omega)
      clear hrun ho hgr hbl h11 h10 hG1 H1 HO H0 HG HZ hsz
      go_wp2_with (at_builtin; refine append_run rfl (.tmp 15) (.tmp 16) 30 rfl rfl rfl HRun.out ?_)
      go_roundw
      case rel => exact ⟨k + 1, _, by omega, by go_num, H1n, HOn, H0n, HGn, HZn⟩
      case measure => simp [intOf]; omega
    · obtain rfl : k = M := by omega
      obtain ⟨c00, c01, c02, f00, f01, f02, l0⟩ := cells3 H0.out
      go_wp2
      refine bodyPost_ret (results_ref rfl _ _ _ _ _ _ _ _ rfl (fin3 H0.out)) rfl ?_
      exact ⟨_, _, rfl, RefAt.fin3 ⟨⟨none, 0, rfl, Nat.le_refl _, by decide, fun _ => rfl, .inl rfl⟩, .inl rfl, IRow.of_owns HO.out (by simp [Dl.new]) (by omega)⟩ H0.out, fin3g HG.out (Nat.le_refl _)⟩
theorem modE {a L k m : Nat} (h : a < L) (hk : k < L) (hm : (a + L - k) % L = m) : ((a : Int) + (L : Int) - (k : Int)) % (L : Int) = (m : Int) := by
  rw [show (a : Int) + (L : Int) - (k : Int) = ((a + L - k : Nat) : Int) by omega, ← Int.natCast_emod, hm]
/-- the same dial, its nodes from a hand on -/
def Dl.turn (D : Dl) (k : Nat) : Dl := ⟨D.N, rot D.l k, D.hs.map fun h => (h + D.l.length - k) % D.l.length⟩
theorem Dl.turn_ins {D : Dl} {i k x : Nat} (hk : D.hs[i]? = some k) (h0 : D.l ≠ []) : D.ins i x = ⟨(D.turn k).N, (D.turn k).l ++ [x], (D.turn k).hs⟩ := by
  unfold Dl.ins Dl.turn
  rw [if_neg h0, List.getD_eq_getElem?_getD, hk]; rfl
section
variable {lo : Nat} {w : World} {D : Dl} {vL vH : Value}
set_option maxHeartbeats 400000 in
theorem rturned_at (h : RefAt lo w D vL vH) (hlo : lo ≤ w.heap.size) (ho : D.Ok) (hf : D.l.length ≤ 65536) (hM : D.hs.length ≤ 8) {i k : Nat} (hk : D.hs[i]? = some k) (h0 : D.l ≠ []) :
    Calls Try.prog 40 #[refV D vL vH, .int .i64 (i : Int)] w (RPost lo w (D.turn k)) := by
  have HH := Lib.hid h
  have hi : i < D.hs.length := (List.getElem?_eq_some_iff.1 hk).1
  have har : ∀ w', w.grownBy w' none → Calls Try.prog 29 #[refV D vL vH, .int .i64 (i : Int)] w' (ArPost w' (rot D.l k)) := fun w' hg => by
    have := raround_at (HH.out.kept hg) ho hf hM (i : Int)
    rw [Dl.around_at hk] at this
    exact this
  obtain ⟨bH, oH, cH, rfl, hlH, hcmH, _, hxH⟩ := h.h
  obtain ⟨A, c, rfl, hlc, hcm, hzz, hr⟩ := h.l
  unfold refV at har ⊢
  obtain ⟨L, HL⟩ : ∃ L, Hid (D.l.length = L) := ⟨_, Lib.hid rfl⟩
  obtain ⟨M, HM⟩ : ∃ M, Hid (D.hs.length = M) := ⟨_, Lib.hid rfl⟩
  have HOl : Hid (∀ h ∈ D.hs, h < L) := Lib.hid fun h hh => by have := (ho.hh h hh).resolve_right fun e => h0 e.1; rw [HL.out] at this; exact this
  have hkL : k < L := HOl.out k (List.mem_of_getElem? hk)
  rw [HL.out, HM.out] at har
  rw [HL.out] at hf HH ⊢
  rw [HM.out] at hlH hM hi HH ⊢
  obtain ⟨hg0, hz0, b0, b1⟩ := alloc33 w (.int .i64 (D.N : Int)) (.slice A L c) (.slice (some ⟨bH, oH, none⟩) M cH) (.int .i64 0) (.slice none 0 0) (.slice none 0 0) 32
  obtain ⟨c00, c01, c02, _, _, _, l0⟩ := cells3 b0
  have hcell := hg0.cell (hxH i k hk) (by simp)
  have HG0 := Lib.hid hg0
  have HB0 := Lib.hid b0
  have HB1 := Lib.hid b1
  have HAr := Lib.hid har
  have HXH := Lib.hid hxH
  have Hk := Lib.hid hk
  obtain ⟨hs', Hhs⟩ : ∃ hs', Hid (D.hs.map (fun h => (h + L - k) % L) = hs') := ⟨_, Lib.hid rfl⟩
  have HT : Hid (D.turn k = ⟨D.N, rot D.l k, hs'⟩) := Lib.hid (by unfold Dl.turn; rw [HL.out, Hhs.out])
  have Hhl : Hid (hs'.length = M) := Lib.hid (by rw [← Hhs.out, List.length_map, HM.out])
  have HRl : Hid ((rot D.l k).length = L) := Lib.hid (by rw [rot_length, HL.out])
  clear hg0 b0 b1 har hxH ho h hr hzz hlc hcm hk h0
  go_enter Try.func40, Try.ntmps40
  go_wp2_with fail
  generalize (w.alloc (.cells #[.int .i64 (D.N : Int), .slice A L c, .slice (some ⟨bH, oH, none⟩) M cH] 32)).alloc (.cells #[.int .i64 0, .slice none 0 0, .slice none 0 0] 32) = w0 at *
  refine (HAr.out w0 HG0.out).mono ?_
  rintro e w1 ⟨Ar, cr, rfl, hrn, hrs, hg1⟩
  rw [HRl.out] at hrn ⊢
  clear c00 c01 c02 l0 hcell
  have HB0a := Lib.hid (kept2 HB0.out hg1)
  have HB1a := Lib.hid (kept2 HB1.out hg1)
  have HG0a := Lib.hid (grown_trans HG0.out hg1)
  have HRn := Lib.hid (hrn.lower (show lo ≤ w0.heap.size from Nat.le_trans hlo HG0.out.size))
  have HRs := Lib.hid hrs
  have HZ1 : Hid (w.heap.size + 2 ≤ w1.heap.size) := Lib.hid (by have := hg1.size; omega)
  clear hg1 hrn hrs HB0 HB1 HG0 HAr
  go_wp2_with fail
  go_loopw [8, 9] (fun v j wr => ∃ j' : Nat, j' ≤ M ∧ j = .int .i64 (j' : Int) ∧ Hid (wr.ownsRow w1.heap.size 3 1 v j' (ivals (hs'.take j'))) ∧ Hid (w1.grownBy wr none)) (fun _ j _ => M - (intOf j).toNat)
  case atStart => exact ⟨0, Nat.zero_le _, by go_num, Lib.hid (World.ownsRow_nil _ _ _ _), Lib.hid (World.grownBy.refl _ _)⟩
  case round =>
    obtain ⟨j, hj, rfl, HO, HG⟩ := hrel
    obtain ⟨Av, cv, rfl⟩ := owns_slice HO.out
    obtain ⟨c00, c01, c02, f00, f01, f02, l0⟩ := cells3 (kept2 HB0a.out HG.out)
    by_cases hlt : j < M
    · obtain ⟨hj0, Hj0⟩ : ∃ h0, Hid (D.hs[j]? = some h0) := ⟨_, Lib.hid (List.getElem?_eq_getElem (by rw [HM.out]; exact hlt))⟩
      have hcell := (grown_trans HG0a.out HG.out).cell (HXH.out j hj0 Hj0.out) (by simp)
      have hhL : hj0 < L := HOl.out hj0 (List.mem_of_getElem? Hj0.out)
      obtain ⟨m, Hm⟩ : ∃ m, Hid ((hj0 + L - k) % L = m) := ⟨_, Lib.hid rfl⟩
      have Hx : Hid (hs'[j]? = some m) := Lib.hid (by rw [← Hhs.out, List.getElem?_map, Hj0.out, ← Hm.out]; rfl)
      obtain ⟨g', cap', w2, hrun, ho2, hbl, hgr, hsz⟩ := push_int (x := m) HO.out (by omega) HG.out.size
      rw [← take_snoc Hx.out] at ho2
      have HRun := Lib.hid hrun
      have HO2 := Lib.hid ho2
      have HG2 : Hid (w1.grownBy w2 none) := Lib.hid (hgr w1 (Nat.le_refl _) HG.out)
      have hL1 : ((L : Int) == 0) = false := by simp; omega
      have hL3 : ¬ ((L : Int) = 0) := by omega
      have hL4 : ¬ (L = 0) := by omega
      have hmm2 := modE hhL hkL Hm.out
      have hlbH := World.block_lt_of_cell? wr _ hcell
      clear hrun ho2 hbl hgr hsz
      go_wp2_with (at_builtin; refine append_run rfl (.tmp 28) (.tmp 40) 30 rfl rfl rfl HRun.out ?_)
      go_roundw
      case rel => exact ⟨j + 1, by omega, by go_num, HO2, HG2⟩
      case measure => simp [intOf]; omega
    · obtain rfl : j = M := by omega
      have HB1b := Lib.hid (kept2 HB1a.out HG.out)
      have HB0b := Lib.hid (kept2 HB0a.out HG.out)
      obtain ⟨c10, c11, c12, f10, f11, f12, l1⟩ := cells3 HB1b.out
      have hM0 : 0 < j := by omega
      have HRef : Hid (RefAt lo wr ⟨D.N, rot D.l k, hs'⟩ (.slice Ar L cr) (.slice Av j cv)) := Lib.hid ⟨HRn.out.kept HG.out, by
        rcases HRs.out with ⟨e1, e2⟩ | ⟨b', o', e1⟩
        · subst e1 e2
          left
          obtain ⟨A', c', hv, h1, _⟩ := HRn.out
          injection hv with _ e2 e3
          rw [HRl.out] at h1 e2
          have : L = 0 := by omega
          rw [this]
        · subst e1; exact .inr ⟨_, _, _, _, rfl⟩, by
        have := HO.out
        rw [List.take_of_length_le (by rw [Hhl.out]; exact Nat.le_refl _)] at this
        exact IRow.of_owns this Hhl.out.symm hM0⟩
      have HGz := Lib.hid (grown_trans HG0a.out HG.out)
      clear HO HG HB0a HB1a HG0a HRn HRs
      go_wp2
      have kz : ((wr.setCell ⟨w.heap.size, 1, none⟩ (.slice Ar L cr)).setCell ⟨w.heap.size, 2, none⟩ (.slice Av j cv)).heap[w.heap.size + 1]? = some (.cells #[.int .i64 0, .slice none 0 0, .slice none 0 0] 32 (0, 0)) := (heap_setCell_other _ _ _ _ (by simp only; omega)).trans ((heap_setCell_other _ _ _ _ (by simp only; omega)).trans HB1b.out)
      refine bodyPost_ret (results_ref rfl _ _ _ _ _ _ _ _ rfl (fin3 kz)) rfl ?_
      rw [HT.out]
      exact ⟨_, _, rfl, ((HRef.out.set1 HB0b.out).set1 (head_set HB0b.out 1 _)).fin3 kz, fin3g (grown_new (grown_new HGz.out (grown_setCell _ _ _ _) (Nat.le_refl _)) (grown_setCell _ _ _ _) (Nat.le_refl _)) (by omega)⟩
end
end Go.Proofs.Ytjligfgaahcogaa
