/-
  The document's Remove and Insert.
-/
import Derived.Test.YtmjccpgkgkindaaRefPut
namespace Go.Proofs.Ytmjccpgkgkindaa
open Go.ChangeShapes Go.WideShapes Go.ChangeAt Go.RowKit
set_option linter.unusedVariables false

section
variable {w : World} {C : Ch} {b cap : Nat} {rows : Nat → Value}
def RemPost (w : World) (C : Ch) (b cap : Nat) (n : Int) (e : Ending) (w' : World) : Prop :=
  (SamePost w (refV C b cap) (.bool false) e w' ∧ C.has n = false) ∨ ∃ j k x : Nat, n = (x : Int) ∧ (C.of j)[k]? = some x ∧ PutPost w (C.put j ((C.of j).take k ++ (C.of j).drop (k + 1))) (.bool true) e w'
set_option maxHeartbeats 4000000 in
theorem rrem_at (h : RefAt w C b cap rows) (hM : C.ls.length ≤ 8) (hf : ∀ i, (C.of i).length ≤ 65536) (n : Int) :
    Calls Try.prog 33 #[refV C b cap, .int .i32 n] w (RemPost w C b cap n) := by
  have hP : ∀ w', w.grownBy w' none → Calls Try.prog 34 #[refV C b cap, .int .i32 n] w' (PlPost w' C n) := fun w' hg => place_at (h.kept hg) hM hf n
  obtain ⟨hg0, hz0, b0, b1⟩ := alloc22 w (.int .i64 (C.N : Int)) (.slice (some ⟨b, 0, none⟩) C.ls.length cap) (.int .i64 0) (.slice none 0 0) 31
  obtain ⟨c00, c01, _, _, l0⟩ := cells2 b0
  obtain ⟨c10, c11, f10, f11, l1⟩ := cells2 b1
  unfold refV at hP
  have HG0 := Lib.hid hg0
  have HB0 := Lib.hid b0
  have HB1 := Lib.hid b1
  have HP := Lib.hid hP
  have HH := Lib.hid h
  have HMl := Lib.hid hM
  have HF := Lib.hid hf
  clear hg0 b0 b1 hP h hf hM
  obtain ⟨M, HM⟩ : ∃ M, Hid (C.ls.length = M) := ⟨_, Lib.hid rfl⟩
  have HRV : Hid (refV C b cap = .agg #[.int .i64 (C.N : Int), .slice (some ⟨b, 0, none⟩) M cap]) := Lib.hid (by unfold refV; rw [HM.out])
  rw [HRV.out]
  rw [HM.out] at HG0 HB0 HB1 HP c00 c01 c10 c11 f10 f11 l0 l1
  go_enter Try.func33, Try.ntmps33
  go_wp2_with fail
  generalize (w.alloc (.cells #[.int .i64 (C.N : Int), .slice (some ⟨b, 0, none⟩) M cap] 31)).alloc (.cells #[.int .i64 0, .slice none 0 0] 31) = w0 at *
  refine (HP.out w0 HG0.out).mono ?_
  rintro e w2 ⟨hg2, (⟨rfl, hno⟩ | ⟨j, k, x, rfl, hnx, hjx⟩)⟩
  · clear c00 c01 l0 c10 c11 f10 f11 l1
    have HB0b := Lib.hid (kept2 HB0.out hg2)
    have HB1b := Lib.hid (kept2 HB1.out hg2)
    have HG0b := Lib.hid (grown_trans HG0.out hg2)
    obtain ⟨c00, c01, _, _, l0⟩ := cells2 HB0b.out
    obtain ⟨c10, c11, f10, f11, l1⟩ := cells2 HB1b.out
    have HNo := Lib.hid hno
    clear hg2 hno
    go_wp2
    refine bodyPost_ret (results_ref2 rfl _ _ _ _ _ _ _ rfl (fin2 HB1b.out)) rfl ?_
    exact .inl ⟨⟨by rw [HRV.out]; rfl, fin2g HG0b.out (by omega)⟩, HNo.out⟩
  · subst hnx
    clear c00 c01 l0 c10 c11 f10 f11 l1
    have HB0b := Lib.hid (kept2 HB0.out hg2)
    have HB1b := Lib.hid (kept2 HB1.out hg2)
    have HG0b := Lib.hid (grown_trans HG0.out hg2)
    obtain ⟨c00, c01, _, _, l0⟩ := cells2 HB0b.out
    have Hjx := Lib.hid hjx
    have hjC : j < C.ls.length := Ch.lt_of_mem (List.mem_of_getElem? hjx)
    have hkL : k < (C.of j).length := (List.getElem?_eq_some_iff.1 hjx).1
    have hL6 := HF.out j
    obtain ⟨L, HL⟩ : ∃ L, Hid ((C.of j).length = L) := ⟨_, Lib.hid rfl⟩
    have hrow := HH.out.row j hjC
    obtain ⟨AL, cL, hrw, hlc, _, _, hdis⟩ := hrow
    have hne : ¬ C.of j = [] := by intro e; rw [e] at hkL; simp at hkL
    obtain ⟨bL, oL, rfl, _⟩ := hdis.resolve_left hne
    have hrow := HH.out.row j hjC
    rw [hrw, HL.out] at hrow
    have hcl := HH.out.cell j hjC
    rw [hrw, HL.out] at hcl
    rw [HL.out] at hkL hL6 hlc
    have hjM : j < M := by rw [← HM.out]; exact hjC
    have hW : ∀ w', w.grownBy w' none → ∀ A' len' c' l', NRow w' (.slice A' len' c') l' → Calls Try.prog 46 #[refV C b cap, .int .i64 (j : Int), .slice A' len' c'] w' fun e w'' => ∃ b' cap' rows', e = .returned (refV (C.put j l') b' cap') ∧ RefAt w'' (C.put j l') b' cap' rows' ∧ w'.grownBy w'' none := fun w' hg A' len' c' l' hl => with_at (HH.out.kept hg) HMl.out hjC hl
    have HW : Hid (∀ w', w.grownBy w' none → ∀ A' len' c' l', NRow w' (.slice A' len' c') l' → Calls Try.prog 46 #[.agg #[.int .i64 (C.N : Int), .slice (some ⟨b, 0, none⟩) M cap], .int .i64 (j : Int), .slice A' len' c'] w' fun e w'' => ∃ b' cap' rows', e = .returned (.agg #[.int .i64 (C.N : Int), .slice (some ⟨b', 0, none⟩) M cap']) ∧ RefAt w'' (C.put j l') b' cap' rows' ∧ w'.grownBy w'' none) := Lib.hid fun w' hg A' len' c' l' hl => by
      have := hW w' hg A' len' c' l' hl
      unfold refV at this
      rw [Ch.len_put, HM.out] at this
      exact this
    obtain ⟨m, Hm⟩ : ∃ m, Hid (((C.of j).take k ++ (C.of j).drop (k + 1)).length = m) := ⟨_, Lib.hid rfl⟩
    have hm6 : m ≤ 65536 := by rw [← Hm.out]; simp; have := HL.out; omega
    have HN1 : Hid (NRow w2.drew (.slice (some ⟨bL, oL, none⟩) k cL) ((C.of j).take k)) := Lib.hid (by
      obtain ⟨A', cap', hv, hh⟩ := (hrow.kept (grown_trans HG0b.out (grown_drewN w2 1 none))).take k (by rw [HL.out]; omega)
      cases hv
      exact hh)
    have HN2 := Lib.hid ((hrow.kept (grown_trans HG0b.out (grown_drewN w2 1 none))).dropped (k + 1) (by rw [HL.out]; omega))
    have HJ : Hid (∀ u, NRow w2.drew u ((C.of j).drop (k + 1)) → Calls Try.prog 18 #[.slice (some ⟨bL, oL, none⟩) k cL, u] w2.drew fun e w'' => ∃ A' c', e = .returned (.slice A' m c') ∧ Hid (NRow w'' (.slice A' m c') ((C.of j).take k ++ (C.of j).drop (k + 1))) ∧ Hid (w2.drew.grownBy w'' none)) := Lib.hid fun u hu => by
      refine (joined_at _ _ _ _ _ HN1.out hu (by rw [← List.length_append, Hm.out]; omega)).mono ?_
      rintro e w'' ⟨r, rfl, ho, hg'⟩
      obtain ⟨A', c', rfl⟩ := owns_slice ho
      have hn := NRow.of_owns ho rfl
      rw [Hm.out] at hn ⊢
      exact ⟨A', c', rfl, Lib.hid hn, Lib.hid hg'⟩
    have hcell := HG0b.out.cell hcl (by simp)
    have HGd : Hid (w.grownBy w2.drew none) := Lib.hid (grown_trans HG0b.out (grown_drewN w2 1 none))
    have HB0d := Lib.hid (kept2 HB0b.out (grown_drewN w2 1 none))
    have HB1d := Lib.hid (kept2 HB1b.out (grown_drewN w2 1 none))
    have hwr : IntKind.i64.wrap ((k : Int) + 1) = (k : Int) + 1 := by rw [IntKind.wrap_i64]; omega
    have h0i : (0 : Int) ≤ (k : Int) := by omega
    have hp1 : 0 ≤ (k : Int) + 1 := by omega
    have hk1 : (k : Int) + 1 ≤ (L : Int) := by omega
    have hd3 : decide ((j : Int) < 0) = false := by simp
    clear hg2 hjx hW hrow hcl hdis hne hrw hjC HP HB0 HB1 HG0 HN1 HH HF HMl
    go_wp2_with fail
    by_cases hcc : cL = k + 1
    · subst hcc
      have HJ2 := Lib.hid (HJ.out _ (HN2.out.1 rfl))
      have hle : (k : Int) ≤ (k : Int) + 1 := by omega
      clear HJ HN2 hlc
      go_region_held3 (fun w' => w'.cell? ⟨w.heap.size, 0, none⟩ = some (.int .i64 (C.N : Int)) ∧ w'.cell? ⟨w.heap.size, 1, none⟩ = some (.slice (some ⟨b, 0, none⟩) M cap)) (first | exact ⟨c00, c01⟩ | exact ⟨hj0, hj1⟩ | exact ⟨hk0, hk1⟩ | go_keep)
        (first | (go_at_call 18; refine HJ2.out.mono ?_; rintro e wj ⟨Aj, cj, rfl, HNj, HGj⟩; obtain ⟨hj0, hj1, _, _, _⟩ := cells2 (kept2 HB0d.out HGj.out)) | (go_at_call 46; refine (HW.out wj (grown_trans HGd.out HGj.out) _ _ _ _ HNj.out).mono ?_; rintro e wk ⟨b', cap', rows', rfl, hRk, hGk⟩; obtain ⟨hk0, hk1, _, _, _⟩ := cells2 (kept2 (kept2 HB0d.out HGj.out) hGk); obtain ⟨c10, c11, f10, f11, l1⟩ := cells2 (kept2 (kept2 HB1d.out HGj.out) hGk); have HRk := Lib.hid hRk; have HGk := Lib.hid hGk; clear hRk hGk))
      go_wp2
      refine bodyPost_ret (results_ref2 rfl _ _ _ _ _ _ _ rfl (fin2 (kept2 (kept2 HB1d.out HGj.out) HGk.out))) rfl ?_
      have hG := fin2g (x' := .int .i64 (C.N : Int)) (y' := .slice (some ⟨b', 0, none⟩) M cap') (grown_trans (grown_trans HGd.out HGj.out) HGk.out) (show w.heap.size ≤ w.heap.size + 1 by omega)
      have hB1k := kept2 (kept2 HB1d.out HGj.out) HGk.out
      refine .inr ⟨j, k, x, rfl, Hjx.out, b', cap', rows', by unfold refV; rw [Ch.len_put, HM.out]; rfl, HRk.out.stay fun k' cur t ht hk' => ?_, hG⟩
      have hne : k' ≠ w.heap.size + 1 := by
        rintro rfl
        have := type_eq hk' hB1k
        rcases ht with rfl | rfl <;> cases this
      exact (heap_setCell_other _ _ _ _ hne).trans (heap_setCell_other _ _ _ _ hne)
    · have HJ2 := Lib.hid (HJ.out _ (HN2.out.2 (cL - (k + 1) - 1) (by omega)))
      rw [show cL - (k + 1) - 1 + 1 = cL - (k + 1) by omega] at HJ2
      have hkc : (k : Int) ≤ (cL : Int) := by omega
      have hc0 : ¬ cL = 0 := by omega
      clear HJ HN2 hlc
      go_region_held3 (fun w' => w'.cell? ⟨w.heap.size, 0, none⟩ = some (.int .i64 (C.N : Int)) ∧ w'.cell? ⟨w.heap.size, 1, none⟩ = some (.slice (some ⟨b, 0, none⟩) M cap)) (first | exact ⟨c00, c01⟩ | exact ⟨hj0, hj1⟩ | exact ⟨hk0, hk1⟩ | go_keep)
        (first | (go_at_call 18; refine HJ2.out.mono ?_; rintro e wj ⟨Aj, cj, rfl, HNj, HGj⟩; obtain ⟨hj0, hj1, _, _, _⟩ := cells2 (kept2 HB0d.out HGj.out)) | (go_at_call 46; refine (HW.out wj (grown_trans HGd.out HGj.out) _ _ _ _ HNj.out).mono ?_; rintro e wk ⟨b', cap', rows', rfl, hRk, hGk⟩; obtain ⟨hk0, hk1, _, _, _⟩ := cells2 (kept2 (kept2 HB0d.out HGj.out) hGk); obtain ⟨c10, c11, f10, f11, l1⟩ := cells2 (kept2 (kept2 HB1d.out HGj.out) hGk); have HRk := Lib.hid hRk; have HGk := Lib.hid hGk; clear hRk hGk))
      go_wp2
      refine bodyPost_ret (results_ref2 rfl _ _ _ _ _ _ _ rfl (fin2 (kept2 (kept2 HB1d.out HGj.out) HGk.out))) rfl ?_
      have hG := fin2g (x' := .int .i64 (C.N : Int)) (y' := .slice (some ⟨b', 0, none⟩) M cap') (grown_trans (grown_trans HGd.out HGj.out) HGk.out) (show w.heap.size ≤ w.heap.size + 1 by omega)
      have hB1k := kept2 (kept2 HB1d.out HGj.out) HGk.out
      refine .inr ⟨j, k, x, rfl, Hjx.out, b', cap', rows', by unfold refV; rw [Ch.len_put, HM.out]; rfl, HRk.out.stay fun k' cur t ht hk' => ?_, hG⟩
      have hne : k' ≠ w.heap.size + 1 := by
        rintro rfl
        have := type_eq hk' hB1k
        rcases ht with rfl | rfl <;> cases this
      exact (heap_setCell_other _ _ _ _ hne).trans (heap_setCell_other _ _ _ _ hne)
end
end Go.Proofs.Ytmjccpgkgkindaa
