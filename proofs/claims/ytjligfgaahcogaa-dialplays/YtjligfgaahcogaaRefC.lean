/-
  The document's dial: a hand is at a place; Step and Point; a new one.
-/
import Derived.Test.YtjligfgaahcogaaRefB
namespace Go.Proofs.Ytjligfgaahcogaa
open Go.ChangeShapes Go.WideShapes Go.ChangeAt Go.RowKit
set_option linter.unusedVariables false

theorem ivals_one {xs : List Nat} : ∀ u ∈ ivals xs, u.oneCell' = true := by
  intro u hu
  obtain ⟨x, _, rfl⟩ := List.mem_map.1 hu
  rfl
/-- a dial is handed back -/
def RPost (lo : Nat) (w : World) (D : Dl) (e : Ending) (w' : World) : Prop := ∃ vL vH, e = .returned (refV D vL vH) ∧ RefAt lo w' D vL vH ∧ w.grownBy w' none
/-- a dial and a word are handed back -/
def RPost2 (lo : Nat) (w : World) (D : Dl) (u : Value) (e : Ending) (w' : World) : Prop := ∃ vL vH, e = .returned (.tuple #[refV D vL vH, u]) ∧ RefAt lo w' D vL vH ∧ w.grownBy w' none
section
variable {lo : Nat} {w : World} {D : Dl} {vL vH : Value}
set_option maxHeartbeats 2000000 in
theorem rset_at (h : RefAt lo w D vL vH) (hM : D.hs.length ≤ 8) {i k : Nat} (hi : i < D.hs.length) : Calls Try.prog 42 #[refV D vL vH, .int .i64 (i : Int), .int .i64 (k : Int)] w (RPost lo w (D.at_ i k)) := by
  obtain ⟨i0, hin, hz0, hz1, hz2⟩ := info_parts info3
  have HH := Lib.hid h
  obtain ⟨bH, oH, cH, rfl, hlH, hcmH, ⟨curH, hcurH⟩, hxH⟩ := h.h
  obtain ⟨A, c, rfl, hlc, hcm, hz, hr⟩ := h.l
  unfold refV
  obtain ⟨L, HL⟩ : ∃ L, Hid (D.l.length = L) := ⟨_, Lib.hid rfl⟩
  obtain ⟨M, HM⟩ : ∃ M, Hid (D.hs.length = M) := ⟨_, Lib.hid rfl⟩
  rw [HL.out] at HH ⊢
  rw [HM.out] at hlH hM hi HH ⊢
  obtain ⟨hgB, hzB, b0, b1, b2⟩ := alloc3 w (.cells #[.int .i64 (D.N : Int), .slice A L c, .slice (some ⟨bH, oH, none⟩) M cH] 32) (.cells #[.int .i64 0, .slice none 0 0, .slice none 0 0] 32) (.cells #[] 3)
  obtain ⟨v', w3, hrun, ho', hg3, _⟩ := run_append_own (P := Try.prog) (((w.alloc (.cells #[.int .i64 (D.N : Int), .slice A L c, .slice (some ⟨bH, oH, none⟩) M cH] 32)).alloc (.cells #[.int .i64 0, .slice none 0 0, .slice none 0 0] 32)).alloc (.cells #[] 3)) (w.heap.size + 2) 30 30 3 i0 (.int .i64 0) 1 8 Try.underlying30 hin hz0 hz1 hz2 rfl (by decide)
    (.slice (some ⟨w.heap.size + 2, 0, none⟩) 0 0) 0 [] ⟨rfl, .inr ⟨w.heap.size + 2, 0, #[], rfl, Nat.le_refl _, b2, Nat.le_refl _, by decide, rfl, rfl⟩⟩ ⟨bH, oH, none⟩ M cH (ivals D.hs) (by rw [ivals_length, HM.out]; omega) (fun j u hj => by
      unfold ivals at hj
      rw [List.getElem?_map] at hj
      obtain ⟨x, hx, rfl⟩ := Option.map_eq_some_iff.1 hj
      rw [Go.WideShapes.add_plain]
      exact hgB.cell (hxH j x hx) (by simp)) ivals_one (by unfold maxLen; omega) (by omega) (by omega)
  rw [Nat.zero_add, List.nil_append] at ho'
  obtain ⟨g', cap', rfl⟩ := owns_some ho' (by omega)
  have hgn : w.heap.size + 2 ≤ g' := (ho'.lt g' rfl).1
  have hg3' : (((w.alloc (.cells #[.int .i64 (D.N : Int), .slice A L c, .slice (some ⟨bH, oH, none⟩) M cH] 32)).alloc (.cells #[.int .i64 0, .slice none 0 0, .slice none 0 0] 32)).alloc (.cells #[] 3)).grownBy w3 (some (w.heap.size + 2)) := hg3
  have h30 : w3.heap[w.heap.size]? = some (.cells #[.int .i64 (D.N : Int), .slice A L c, .slice (some ⟨bH, oH, none⟩) M cH] 32 (0, 0)) := (hg3'.block _ (by omega) (by simp)).trans b0
  have h31 : w3.heap[w.heap.size + 1]? = some (.cells #[.int .i64 0, .slice none 0 0, .slice none 0 0] 32 (0, 0)) := (hg3'.block _ (by omega) (by simp)).trans b1
  have HG3 : Hid (w.grownBy w3 none) := Lib.hid (grown_new hgB hg3' (by omega))
  obtain ⟨_, curg, hcurg⟩ := owns_type ho' (k := g') rfl
  have HRun := Lib.hid hrun
  have HO := Lib.hid ho'
  -- the world behind the store into the row
  have e3i : w3.cell? ⟨g', i, none⟩ = (ivals D.hs)[i]? := ho'.cellAt i (by omega)
  obtain ⟨x0, hx0⟩ : ∃ x0, D.hs[i]? = some x0 := ⟨_, List.getElem?_eq_getElem (by rw [HM.out]; exact hi)⟩
  have e3 : w3.cell? ⟨g', i, none⟩ = some (.int .i64 (x0 : Int)) := by rw [e3i]; unfold ivals; rw [List.getElem?_map, hx0]; rfl
  have f3 := frozen_of_head hcurg i
  obtain ⟨c00, c01, c02, f00, f01, f02, l0⟩ := cells3 h30
  obtain ⟨c10, c11, c12, f10, f11, f12, l1⟩ := cells3 h31
  have H30 := Lib.hid h30
  have H31 := Lib.hid h31
  have Hcg := Lib.hid hcurg
  have hoc1 : M ≤ cap' ∧ cap' ≤ maxLen := by
    rcases ho'.2 with ⟨hv, _⟩ | ⟨g, cp, cur, hv, _, hgb, h1, h2, h3, h4⟩
    · cases hv
    · injection hv with e1 e2 e3
      subst e3
      exact ⟨h1, h2⟩
  have HC1 := Lib.hid hoc1
  clear hrun ho' h hg3 hg3' hgB hzB b0 b1 b2 h30 h31 hin hz0 hz1 hz2 hcurg e3i hx0 hz hr hoc1 hxH
  go_enter Try.func42, Try.ntmps42
  go_wp2_with (first | (at_builtin; refine append_run rfl (.tmp 8) (.tmp 10) 30 rfl rfl rfl HRun.out ?_))
  have hne0 : g' ≠ w.heap.size := by omega
  have hne1 : g' ≠ w.heap.size + 1 := by omega
  have k0 : ((w3.setCell ⟨g', i, none⟩ (.int .i64 (k : Int))).setCell ⟨w.heap.size, 2, none⟩ (.slice (some ⟨g', 0, none⟩) M cap')).heap[w.heap.size + 1]? = some (.cells #[.int .i64 0, .slice none 0 0, .slice none 0 0] 32 (0, 0)) := (heap_setCell_other _ _ _ _ (by simp only; omega)).trans ((heap_setCell_other _ _ _ _ (by simp only; omega)).trans H31.out)
  have k1 := fin3 (x' := .int .i64 (D.N : Int)) (y' := .slice A L c) (z' := .slice (some ⟨g', 0, none⟩) M cap') k0
  have kg : ((w3.setCell ⟨g', i, none⟩ (.int .i64 (k : Int))).setCell ⟨w.heap.size, 2, none⟩ (.slice (some ⟨g', 0, none⟩) M cap')).heap[g']? = some (.cells (curg.setIfInBounds i (.int .i64 (k : Int))) 3 (0, 0)) := (heap_setCell_other _ _ _ _ (by simp only; omega)).trans (head_set Hcg.out i _)
  have hG : w.grownBy ((w3.setCell ⟨g', i, none⟩ (.int .i64 (k : Int))).setCell ⟨w.heap.size, 2, none⟩ (.slice (some ⟨g', 0, none⟩) M cap')) none := grown_new (grown_new HG3.out (grown_setCell _ _ _ _) (by omega)) (grown_setCell _ _ _ _) (by omega)
  have hI : IRow ((w3.setCell ⟨g', i, none⟩ (.int .i64 (k : Int))).setCell ⟨w.heap.size, 2, none⟩ (.slice (some ⟨g', 0, none⟩) M cap')) (.slice (some ⟨g', 0, none⟩) M cap') (D.at_ i k).hs := by
    refine ⟨g', 0, cap', by rw [Dl.at_len, HM.out], by rw [Dl.at_len, HM.out]; exact HC1.out.1, HC1.out.2, ⟨_, kg⟩, fun j x hj => ?_⟩
    have hj' : (D.hs.set i k)[j]? = some x := hj
    rw [cell_of_head kg, Nat.zero_add, Array.getElem?_setIfInBounds]
    rw [List.getElem?_set] at hj'
    by_cases hij : i = j
    · subst hij
      rw [if_pos rfl] at hj' ⊢
      split at hj'
      · obtain rfl := Option.some.inj hj'
        rw [if_pos (Array.getElem?_eq_some_iff.1 ((cell_of_head Hcg.out i).symm.trans e3)).1]
      · cases hj'
    · rw [if_neg hij] at hj' ⊢
      have hjM : j < M := by rw [← HM.out]; exact (List.getElem?_eq_some_iff.1 hj').1
      have := HO.out.cellAt j (by omega)
      rw [cell_of_head Hcg.out] at this
      rw [this]
      unfold ivals
      rw [List.getElem?_map, hj']; rfl
  refine bodyPost_ret (results_ref rfl _ _ _ _ _ _ _ _ rfl k1) rfl ?_
  exact ⟨_, _, rfl, RefAt.fin3 ⟨HH.out.l.kept hG, HH.out.sh, hI⟩ k0, fin3g hG (by omega)⟩
def SamePost (w : World) (v u : Value) (e : Ending) (w' : World) : Prop := e = .returned (.tuple #[v, u]) ∧ w.grownBy w' none
theorem mod_step {k L m : Nat} (hm : (k + 1) % L = m) : ((k : Int) + 1).tmod (L : Int) = (m : Int) := by
  rw [show (k : Int) + 1 = ((k + 1 : Nat) : Int) by omega, ← Int.ofNat_tmod, hm]
set_option maxHeartbeats 2000000 in
theorem rstep_at (h : RefAt lo w D vL vH) (ho : D.Ok) (hf : D.l.length ≤ 65536) (hM : D.hs.length ≤ 8) (n : Int) : Calls Try.prog 27 #[refV D vL vH, .int .i64 n] w fun e w' =>
    (SamePost w (refV D vL vH) (.bool false) e w' ∧ (inN D.hs.length n = false ∨ D.l = [])) ∨ ∃ i k : Nat, n = (i : Int) ∧ D.hs[i]? = some k ∧ D.l ≠ [] ∧ RPost2 lo w (D.at_ i ((k + 1) % D.l.length)) (.bool true) e w' := by
  have HH := Lib.hid h
  have HMl := Lib.hid hM
  obtain ⟨bH, oH, cH, rfl, hlH, hcmH, _, hxH⟩ := h.h
  obtain ⟨A, c, rfl, hlc, hcm, hz, hr⟩ := h.l
  have hhd : ∀ n w', Calls Try.prog 39 #[refV D (.slice A D.l.length c) (.slice (some ⟨bH, oH, none⟩) D.hs.length cH), .int .i64 n] w' fun e w'' => e = .returned (.bool (inN D.hs.length n)) ∧ w'.grownBy w'' none := fun n w' => rhand_at D _ n w' rfl
  have hst : ∀ (i k : Nat) w', w.grownBy w' none → i < D.hs.length → Calls Try.prog 42 #[refV D (.slice A D.l.length c) (.slice (some ⟨bH, oH, none⟩) D.hs.length cH), .int .i64 (i : Int), .int .i64 (k : Int)] w' (RPost lo w' (D.at_ i k)) := fun i k w' hg hi => rset_at (HH.out.kept hg) hM hi
  unfold refV at hhd hst
  obtain ⟨L, HL⟩ : ∃ L, Hid (D.l.length = L) := ⟨_, Lib.hid rfl⟩
  obtain ⟨M, HM⟩ : ∃ M, Hid (D.hs.length = M) := ⟨_, Lib.hid rfl⟩
  have HRV : Hid (refV D (.slice A D.l.length c) (.slice (some ⟨bH, oH, none⟩) D.hs.length cH) = .agg #[.int .i64 (D.N : Int), .slice A L c, .slice (some ⟨bH, oH, none⟩) M cH]) := Lib.hid (by unfold refV; rw [HL.out, HM.out])
  rw [HL.out, HM.out] at hhd hst
  rw [HL.out, HM.out] at HRV
  rw [HL.out] at hf HH ⊢
  rw [HM.out] at hlH hM HH ⊢
  rw [HRV.out]
  obtain ⟨hg0, hz0, b0, b1⟩ := alloc33 w (.int .i64 (D.N : Int)) (.slice A L c) (.slice (some ⟨bH, oH, none⟩) M cH) (.int .i64 0) (.slice none 0 0) (.slice none 0 0) 32
  obtain ⟨c00, c01, c02, _, _, _, l0⟩ := cells3 b0
  have HG0 := Lib.hid hg0
  have HB0 := Lib.hid b0
  have HB1 := Lib.hid b1
  have HHd := Lib.hid hhd
  have HSt := Lib.hid hst
  have HXH := Lib.hid hxH
  have HOk := Lib.hid ho
  clear hg0 b0 b1 hhd hst hxH ho h hr hz hlc hcm
  go_enter Try.func27, Try.ntmps27
  go_wp2_with fail
  generalize (w.alloc (.cells #[.int .i64 (D.N : Int), .slice A L c, .slice (some ⟨bH, oH, none⟩) M cH] 32)).alloc (.cells #[.int .i64 0, .slice none 0 0, .slice none 0 0] 32) = w0 at *
  refine (HHd.out n w0).mono ?_
  rintro e w1 ⟨rfl, hg1⟩
  clear c00 c01 c02 l0
  have HB0a := Lib.hid (kept2 HB0.out hg1)
  have HB1a := Lib.hid (kept2 HB1.out hg1)
  have HG0a := Lib.hid (grown_trans HG0.out hg1)
  obtain ⟨c00, c01, c02, _, _, _, l0⟩ := cells3 HB0a.out
  clear hg1 HB0 HB1 HG0
  cases hin : inN M n with
  | false =>
    obtain ⟨c10, c11, c12, f10, f11, f12, l1⟩ := cells3 HB1a.out
    go_wp2
    refine bodyPost_ret (results_ref2 rfl _ _ _ _ _ _ _ _ rfl (fin3 HB1a.out)) rfl ?_
    exact .inl ⟨⟨rfl, fin3g HG0a.out (by omega)⟩, .inl hin⟩
  | true =>
    by_cases h0 : L = 0
    · subst h0
      have Hl0 : Hid (D.l = []) := Lib.hid (List.eq_nil_of_length_eq_zero HL.out)
      obtain ⟨c10, c11, c12, f10, f11, f12, l1⟩ := cells3 HB1a.out
      go_wp2
      refine bodyPost_ret (results_ref2 rfl _ _ _ _ _ _ _ _ rfl (fin3 HB1a.out)) rfl ?_
      exact .inl ⟨⟨rfl, fin3g HG0a.out (by omega)⟩, .inr Hl0.out⟩
    · obtain ⟨i, rfl, hi⟩ := inN_get hin
      have Hl0 : Hid (D.l ≠ []) := Lib.hid fun e => h0 (by rw [← HL.out, e]; rfl)
      obtain ⟨k, Hk⟩ : ∃ k, Hid (D.hs[i]? = some k) := ⟨_, Lib.hid (List.getElem?_eq_getElem (by rw [HM.out]; exact hi))⟩
      have hkL : k < L := by have := (HOk.out.hh k (List.mem_of_getElem? Hk.out)).resolve_right fun e => Hl0.out e.1; rw [HL.out] at this; exact this
      have hcell := HG0a.out.cell (HXH.out i k Hk.out) (by simp)
      obtain ⟨m, Hm⟩ : ∃ m, Hid ((k + 1) % L = m) := ⟨_, Lib.hid rfl⟩
      have hL1 : ((L : Int) == 0) = false := by simp; omega
      have hL2 : (L == 0) = false := by simp; omega
      clear hin
      go_wp2_with fail
      refine region_tail 12 (by kernel_rfl) (by kernel_rfl) ?_
      intro w2 hw2
      have HG2 : Hid (w1.grownBy w2 none) := Lib.hid (by rw [hw2]; exact grown_drewN w1 1 none)
      have HB0b := Lib.hid (kept2 HB0a.out HG2.out)
      have HB1b := Lib.hid (kept2 HB1a.out HG2.out)
      have HG0b := Lib.hid (grown_trans HG0a.out HG2.out)
      clear c00 c01 c02 l0
      obtain ⟨c00, c01, c02, _, _, _, l0⟩ := cells3 HB0b.out
      have hcell := HG2.out.cell hcell (by simp)
      have hw1 : IntKind.i64.wrap ((k : Int) + 1) = (k : Int) + 1 := by rw [IntKind.wrap_i64]; omega
      have hmm := mod_step Hm.out
      have hL3 : ¬ ((L : Int) = 0) := by omega
      have HC := Lib.hid (HSt.out i m w2 HG0b.out hi)
      clear hw2 HG2 HB0a HB1a HG0a
      simp only [List.take_succ_cons, List.take_zero, List.drop_succ_cons, List.drop_zero]
      repeat still_step
      refine wpStill_nil ?_
      clear hcell c00 c01 c02 l0
      go_wp2_with fail
      refine HC.out.mono ?_
      rintro e w3 ⟨vL', vH', rfl, hR3, hg3⟩
      have HB1c := Lib.hid (kept2 HB1b.out hg3)
      have HG0c := Lib.hid (grown_trans HG0b.out hg3)
      have HR3 := Lib.hid hR3
      obtain ⟨bH', oH', cH', rfl, _⟩ := hR3.h
      obtain ⟨A', c', rfl, _⟩ := hR3.l
      obtain ⟨c10, c11, c12, f10, f11, f12, l1⟩ := cells3 HB1c.out
      clear hR3 hg3 HC
      unfold refV
      go_wp2
      refine bodyPost_ret (results_ref2 rfl _ _ _ _ _ _ _ _ rfl (fin3 HB1c.out)) rfl ?_
      refine .inr ⟨i, k, rfl, Hk.out, Hl0.out, ?_⟩
      rw [Hm.out]
      exact ⟨_, _, rfl, HR3.out.fin3 HB1c.out, fin3g HG0c.out (by omega)⟩
set_option maxHeartbeats 2000000 in
theorem rpoint_at (h : RefAt lo w D vL vH) (ho : D.Ok) (hf : D.l.length ≤ 65536) (hM : D.hs.length ≤ 8) (n z : Int) (hz : i32in z) : Calls Try.prog 28 #[refV D vL vH, .int .i64 n, .int .i32 z] w fun e w' =>
    (SamePost w (refV D vL vH) (.int .i64 (D.setC n z)) e w' ∧ ¬ D.setC n z = 0) ∨ ∃ i k x : Nat, n = (i : Int) ∧ z = (x : Int) ∧ D.setC n z = 0 ∧ i < D.hs.length ∧ D.l[k]? = some x ∧ RPost2 lo w (D.at_ i k) (.int .i64 0) e w' := by
  have HH := Lib.hid h
  have HP := Lib.hid (fun w' (hg : w.grownBy w' none) => rplace_at (HH.out.kept hg) hf z)
  have hnd : ∀ w', Calls Try.prog 38 #[refV D vL vH, .int .i32 z] w' fun e w'' => e = .returned (.bool (inN D.N z)) ∧ w'.grownBy w'' none := fun w' => by
    obtain ⟨bH, oH, cH, hv, _⟩ := HH.out.h
    obtain ⟨A, c, hv2, _⟩ := HH.out.l
    exact rnode_at D _ _ z w' hz hv2 hv
  obtain ⟨bH, oH, cH, rfl, hlH, hcmH, _, hxH⟩ := h.h
  obtain ⟨A, c, rfl, hlc, hcm, hzz, hr⟩ := h.l
  have hhd : ∀ n w', Calls Try.prog 39 #[refV D (.slice A D.l.length c) (.slice (some ⟨bH, oH, none⟩) D.hs.length cH), .int .i64 n] w' fun e w'' => e = .returned (.bool (inN D.hs.length n)) ∧ w'.grownBy w'' none := fun n w' => rhand_at D _ n w' rfl
  have hst : ∀ (i k : Nat) w', w.grownBy w' none → i < D.hs.length → Calls Try.prog 42 #[refV D (.slice A D.l.length c) (.slice (some ⟨bH, oH, none⟩) D.hs.length cH), .int .i64 (i : Int), .int .i64 (k : Int)] w' (RPost lo w' (D.at_ i k)) := fun i k w' hg hi => rset_at (HH.out.kept hg) hM hi
  unfold refV at hhd hst hnd HP
  obtain ⟨L, HL⟩ : ∃ L, Hid (D.l.length = L) := ⟨_, Lib.hid rfl⟩
  obtain ⟨M, HM⟩ : ∃ M, Hid (D.hs.length = M) := ⟨_, Lib.hid rfl⟩
  have HRV : Hid (refV D (.slice A D.l.length c) (.slice (some ⟨bH, oH, none⟩) D.hs.length cH) = .agg #[.int .i64 (D.N : Int), .slice A L c, .slice (some ⟨bH, oH, none⟩) M cH]) := Lib.hid (by unfold refV; rw [HL.out, HM.out])
  have HSC : Hid (D.setC n z = if (inN M n && inN D.N z) = false then 1 else if D.has z = false then 5 else 0) := Lib.hid (by unfold Dl.setC; rw [HM.out])
  rw [HL.out, HM.out] at hhd hst hnd HP HRV
  rw [HL.out] at hf HH ⊢
  rw [HM.out] at hlH hM HH ⊢
  rw [HRV.out]
  obtain ⟨hg0, hz0, b0, b1⟩ := alloc33 w (.int .i64 (D.N : Int)) (.slice A L c) (.slice (some ⟨bH, oH, none⟩) M cH) (.int .i64 0) (.slice none 0 0) (.slice none 0 0) 32
  obtain ⟨c00, c01, c02, _, _, _, l0⟩ := cells3 b0
  have HG0 := Lib.hid hg0
  have HB0 := Lib.hid b0
  have HB1 := Lib.hid b1
  have HHd := Lib.hid hhd
  have HNd := Lib.hid hnd
  have HSt := Lib.hid hst
  clear hg0 b0 b1 hhd hst hxH ho h hr hzz hlc hcm hnd
  go_enter Try.func28, Try.ntmps28
  go_wp2_with fail
  generalize (w.alloc (.cells #[.int .i64 (D.N : Int), .slice A L c, .slice (some ⟨bH, oH, none⟩) M cH] 32)).alloc (.cells #[.int .i64 0, .slice none 0 0, .slice none 0 0] 32) = w0 at *
  refine (HHd.out n w0).mono ?_
  rintro e w1 ⟨rfl, hg1⟩
  clear c00 c01 c02 l0
  have HB0a := Lib.hid (kept2 HB0.out hg1)
  have HB1a := Lib.hid (kept2 HB1.out hg1)
  have HG0a := Lib.hid (grown_trans HG0.out hg1)
  obtain ⟨c00, c01, c02, _, _, _, l0⟩ := cells3 HB0a.out
  clear hg1 HB0 HB1 HG0
  cases hin : inN M n with
  | false =>
    have HE : Hid (D.setC n z = 1) := Lib.hid (by rw [HSC.out, hin]; rfl)
    obtain ⟨c10, c11, c12, f10, f11, f12, l1⟩ := cells3 HB1a.out
    go_wp2
    refine bodyPost_ret (results_ref2 rfl _ _ _ _ _ _ _ _ rfl (fin3 HB1a.out)) rfl ?_
    exact .inl ⟨⟨by rw [HE.out]; rfl, fin3g HG0a.out (by omega)⟩, by rw [HE.out]; decide⟩
  | true =>
    go_wp2_with fail
    refine (HNd.out w1).mono ?_
    rintro e w2 ⟨rfl, hg2⟩
    clear c00 c01 c02 l0
    have HB0b := Lib.hid (kept2 HB0a.out hg2)
    have HB1b := Lib.hid (kept2 HB1a.out hg2)
    have HG0b := Lib.hid (grown_trans HG0a.out hg2)
    obtain ⟨c00, c01, c02, _, _, _, l0⟩ := cells3 HB0b.out
    clear hg2 HB0a HB1a HG0a
    cases hnz : inN D.N z with
    | false =>
      have HE : Hid (D.setC n z = 1) := Lib.hid (by rw [HSC.out, hin, hnz]; rfl)
      obtain ⟨c10, c11, c12, f10, f11, f12, l1⟩ := cells3 HB1b.out
      go_wp2
      refine bodyPost_ret (results_ref2 rfl _ _ _ _ _ _ _ _ rfl (fin3 HB1b.out)) rfl ?_
      exact .inl ⟨⟨by rw [HE.out]; rfl, fin3g HG0b.out (by omega)⟩, by rw [HE.out]; decide⟩
    | true =>
      go_wp2_with fail
      refine (HP.out w2 HG0b.out).mono ?_
      rintro e w3 ⟨hg3, (⟨rfl, hno⟩ | ⟨k, x, rfl, hzx, hkx⟩)⟩
      · have HE : Hid (D.setC n z = 5) := Lib.hid (by rw [HSC.out, hin, hnz, hno]; rfl)
        clear c00 c01 c02 l0
        have HB0c := Lib.hid (kept2 HB0b.out hg3)
        have HB1c := Lib.hid (kept2 HB1b.out hg3)
        have HG0c := Lib.hid (grown_trans HG0b.out hg3)
        obtain ⟨c00, c01, c02, _, _, _, l0⟩ := cells3 HB0c.out
        obtain ⟨c10, c11, c12, f10, f11, f12, l1⟩ := cells3 HB1c.out
        clear hg3 HB0b HB1b HG0b hno
        go_wp2
        refine bodyPost_ret (results_ref2 rfl _ _ _ _ _ _ _ _ rfl (fin3 HB1c.out)) rfl ?_
        exact .inl ⟨⟨by rw [HE.out]; rfl, fin3g HG0c.out (by omega)⟩, by rw [HE.out]; decide⟩
      · obtain ⟨i, rfl, hi⟩ := inN_get hin
        subst hzx
        have Hkx := Lib.hid hkx
        have HE : Hid (D.setC (i : Int) (x : Int) = 0) := Lib.hid (by rw [HSC.out, hin, hnz, Dl.has_iff.2 ⟨by omega, by rw [Int.toNat_natCast]; exact List.mem_of_getElem? hkx⟩]; rfl)
        clear c00 c01 c02 l0
        have HB0c := Lib.hid (kept2 HB0b.out hg3)
        have HB1c := Lib.hid (kept2 HB1b.out hg3)
        have HG0c := Lib.hid (grown_trans HG0b.out hg3)
        obtain ⟨c00, c01, c02, _, _, _, l0⟩ := cells3 HB0c.out
        have hd3 : decide ((k : Int) < 0) = false := by simp
        have HC := Lib.hid (HSt.out i k w3 HG0c.out hi)
        clear hg3 HB0b HB1b HG0b hkx hin hnz
        go_wp2_with fail
        refine HC.out.mono ?_
        rintro e w4 ⟨vL', vH', rfl, hR4, hg4⟩
        have HB1d := Lib.hid (kept2 HB1c.out hg4)
        have HG0d := Lib.hid (grown_trans HG0c.out hg4)
        have HR4 := Lib.hid hR4
        obtain ⟨bH', oH', cH', rfl, _⟩ := hR4.h
        obtain ⟨A', c', rfl, _⟩ := hR4.l
        obtain ⟨c10, c11, c12, f10, f11, f12, l1⟩ := cells3 HB1d.out
        clear hR4 hg4 HC
        unfold refV
        go_wp2
        refine bodyPost_ret (results_ref2 rfl _ _ _ _ _ _ _ _ rfl (fin3 HB1d.out)) rfl ?_
        exact .inr ⟨i, k, x, rfl, rfl, HE.out, hi, Hkx.out, _, _, rfl, HR4.out.fin3 HB1d.out, fin3g HG0d.out (by omega)⟩
end
end Go.Proofs.Ytjligfgaahcogaa
