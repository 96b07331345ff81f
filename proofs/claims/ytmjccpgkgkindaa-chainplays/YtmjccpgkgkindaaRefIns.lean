/-
  The document's Insert.
-/
import Derived.Test.YtmjccpgkgkindaaRefRem
import Derived.Deep.RegionWith
namespace Go.Proofs.Ytmjccpgkgkindaa
open Go.ChangeShapes Go.WideShapes Go.ChangeAt Go.RowKit
set_option linter.unusedVariables false

section
variable {w : World} {C : Ch} {b cap : Nat} {rows : Nat → Value}
def InsPost (w : World) (C : Ch) (b cap : Nat) (n a : Int) (e : Ending) (w' : World) : Prop :=
  (SamePost w (refV C b cap) (.int .i64 (C.insC n a)) e w' ∧ ¬ C.insC n a = 0) ∨ ∃ j k x y : Nat, n = (x : Int) ∧ a = (y : Int) ∧ C.insC n a = 0 ∧ (C.of j)[k]? = some y ∧ PutPost w (C.put j (((C.of j).take (k + 1) ++ [x]) ++ (C.of j).drop (k + 1))) (.int .i64 0) e w'
theorem has_of {C : Ch} {j k x : Nat} (h : (C.of j)[k]? = some x) : C.has (x : Int) = true := Ch.has_iff.2 ⟨by omega, j, by rw [Int.toNat_natCast]; exact List.mem_of_getElem? h⟩
set_option maxHeartbeats 4000000 in
theorem rins_at (h : RefAt w C b cap rows) (hM : C.ls.length ≤ 8) (hf : ∀ i, (C.of i).length ≤ 65536) (hN6 : C.N ≤ 65536) (n a : Int) (hn : i32in n) (ha : i32in a) :
    Calls Try.prog 32 #[refV C b cap, .int .i32 n, .int .i32 a] w (InsPost w C b cap n a) := by
  have hNn : ∀ w', Calls Try.prog 45 #[refV C b cap, .int .i32 n] w' fun e w'' => e = .returned (.bool (inN C.N n)) ∧ w'.grownBy w'' none := fun w' => node_at C b cap n w' hn
  have hNa : ∀ w', Calls Try.prog 45 #[refV C b cap, .int .i32 a] w' fun e w'' => e = .returned (.bool (inN C.N a)) ∧ w'.grownBy w'' none := fun w' => node_at C b cap a w' ha
  have hP : ∀ z w', w.grownBy w' none → Calls Try.prog 34 #[refV C b cap, .int .i32 z] w' (PlPost w' C z) := fun z w' hg => place_at (h.kept hg) hM hf z
  obtain ⟨hg0, hz0, b0, b1⟩ := alloc22 w (.int .i64 (C.N : Int)) (.slice (some ⟨b, 0, none⟩) C.ls.length cap) (.int .i64 0) (.slice none 0 0) 31
  obtain ⟨c00, c01, _, _, l0⟩ := cells2 b0
  unfold refV at hP hNn hNa
  have HG0 := Lib.hid hg0
  have HB0 := Lib.hid b0
  have HB1 := Lib.hid b1
  have HP := Lib.hid hP
  have HNn := Lib.hid hNn
  have HNa := Lib.hid hNa
  have HH := Lib.hid h
  have HMl := Lib.hid hM
  have HF := Lib.hid hf
  clear hg0 b0 b1 hP h hf hM hNn hNa
  obtain ⟨M, HM⟩ : ∃ M, Hid (C.ls.length = M) := ⟨_, Lib.hid rfl⟩
  have HRV : Hid (refV C b cap = .agg #[.int .i64 (C.N : Int), .slice (some ⟨b, 0, none⟩) M cap]) := Lib.hid (by unfold refV; rw [HM.out])
  rw [HRV.out]
  rw [HM.out] at HG0 HB0 HB1 HP HNn HNa c00 c01 l0
  go_enter Try.func32, Try.ntmps32
  go_wp2_with fail
  generalize (w.alloc (.cells #[.int .i64 (C.N : Int), .slice (some ⟨b, 0, none⟩) M cap] 31)).alloc (.cells #[.int .i64 0, .slice none 0 0] 31) = w0 at *
  refine (HNn.out w0).mono ?_
  rintro e w1 ⟨rfl, hg1⟩
  clear c00 c01 l0
  have HB0a := Lib.hid (kept2 HB0.out hg1)
  have HB1a := Lib.hid (kept2 HB1.out hg1)
  have HG0a := Lib.hid (grown_trans HG0.out hg1)
  obtain ⟨c00, c01, _, _, l0⟩ := cells2 HB0a.out
  clear hg1
  cases hin : inN C.N n with
  | false =>
    have HE : Hid (C.insC n a = 1) := Lib.hid (by unfold Ch.insC; rw [hin]; rfl)
    obtain ⟨c10, c11, f10, f11, l1⟩ := cells2 HB1a.out
    go_wp2
    refine bodyPost_ret (results_ref2 rfl _ _ _ _ _ _ _ rfl (fin2 HB1a.out)) rfl ?_
    exact .inl ⟨⟨by rw [HRV.out, HE.out]; rfl, fin2g HG0a.out (by omega)⟩, by rw [HE.out]; decide⟩
  | true =>
    go_wp2_with fail
    refine (HNa.out w1).mono ?_
    rintro e w2 ⟨rfl, hg2⟩
    clear c00 c01 l0
    have HB0b := Lib.hid (kept2 HB0a.out hg2)
    have HB1b := Lib.hid (kept2 HB1a.out hg2)
    have HG0b := Lib.hid (grown_trans HG0a.out hg2)
    obtain ⟨c00, c01, _, _, l0⟩ := cells2 HB0b.out
    clear hg2
    cases hia : inN C.N a with
    | false =>
      have HE : Hid (C.insC n a = 1) := Lib.hid (by unfold Ch.insC; rw [hin, hia]; rfl)
      obtain ⟨c10, c11, f10, f11, l1⟩ := cells2 HB1b.out
      go_wp2
      refine bodyPost_ret (results_ref2 rfl _ _ _ _ _ _ _ rfl (fin2 HB1b.out)) rfl ?_
      exact .inl ⟨⟨by rw [HRV.out, HE.out]; rfl, fin2g HG0b.out (by omega)⟩, by rw [HE.out]; decide⟩
    | true =>
      go_wp2_with fail
      refine (HP.out n w2 HG0b.out).mono ?_
      rintro e w3 ⟨hg3, (⟨rfl, hno⟩ | ⟨j, k, x, rfl, hnx, hjx⟩)⟩
      · have Hno := Lib.hid hno
        clear hno
        clear c00 c01 l0
        have HB0c := Lib.hid (kept2 HB0b.out hg3)
        have HB1c := Lib.hid (kept2 HB1b.out hg3)
        have HG0c := Lib.hid (grown_trans HG0b.out hg3)
        obtain ⟨c00, c01, _, _, l0⟩ := cells2 HB0c.out
        clear hg3
        go_wp2_with fail
        refine (HP.out a w3 HG0c.out).mono ?_
        rintro e w4 ⟨hg4, (⟨rfl, hna⟩ | ⟨j, k, y, rfl, hay, hjy⟩)⟩
        · have HE : Hid (C.insC n a = 5) := Lib.hid (by unfold Ch.insC; rw [hin, hia, Hno.out, hna]; rfl)
          clear hna
          clear c00 c01 l0
          have HB0d := Lib.hid (kept2 HB0c.out hg4)
          have HB1d := Lib.hid (kept2 HB1c.out hg4)
          have HG0d := Lib.hid (grown_trans HG0c.out hg4)
          obtain ⟨c00, c01, _, _, l0⟩ := cells2 HB0d.out
          clear hg4
          obtain ⟨c10, c11, f10, f11, l1⟩ := cells2 HB1d.out
          go_wp2
          refine bodyPost_ret (results_ref2 rfl _ _ _ _ _ _ _ rfl (fin2 HB1d.out)) rfl ?_
          exact .inl ⟨⟨by rw [HRV.out, HE.out]; rfl, fin2g HG0d.out (by omega)⟩, by rw [HE.out]; decide⟩
        · have hnx : 0 ≤ n ∧ n < (C.N : Int) := by unfold inN at hin; simpa using hin
          obtain ⟨x, rfl⟩ := Int.eq_ofNat_of_zero_le hnx.1
          subst hay
          have HE : Hid (C.insC (x : Int) (y : Int) = 0) := Lib.hid (by unfold Ch.insC; rw [hin, hia, Hno.out, has_of hjy]; rfl)
          clear c00 c01 l0
          have HB0d := Lib.hid (kept2 HB0c.out hg4)
          have HB1d := Lib.hid (kept2 HB1c.out hg4)
          have HG0d := Lib.hid (grown_trans HG0c.out hg4)
          obtain ⟨c00, c01, _, _, l0⟩ := cells2 HB0d.out
          clear hg4
          have Hjx := Lib.hid hjy
          have hjC : j < C.ls.length := Ch.lt_of_mem (List.mem_of_getElem? hjy)
          have hkL : k < (C.of j).length := (List.getElem?_eq_some_iff.1 hjy).1
          have hL6 := HF.out j
          obtain ⟨L, HL⟩ : ∃ L, Hid ((C.of j).length = L) := ⟨_, Lib.hid rfl⟩
          have hrow := HH.out.row j hjC
          obtain ⟨AL, cL, hrw, hlc, _, _, hdis⟩ := hrow
          have hne : ¬ C.of j = [] := by intro e; rw [e] at hkL; simp at hkL
          obtain ⟨bL, oL, rfl, _⟩ := hdis.resolve_left hne
          have hrow := HH.out.row j hjC
          rw [hrw, HL.out] at hrow
          have hcl := HH.out.cell j hjC
          rw [hrw, HL.out] at hcl
          rw [HL.out] at hkL hL6 hlc
          have hjM : j < M := by rw [← HM.out]; exact hjC
          have HW : Hid (∀ w', w.grownBy w' none → ∀ A' len' c' l', NRow w' (.slice A' len' c') l' → Calls Try.prog 46 #[.agg #[.int .i64 (C.N : Int), .slice (some ⟨b, 0, none⟩) M cap], .int .i64 (j : Int), .slice A' len' c'] w' fun e w'' => ∃ b' cap' rows', e = .returned (.agg #[.int .i64 (C.N : Int), .slice (some ⟨b', 0, none⟩) M cap']) ∧ RefAt w'' (C.put j l') b' cap' rows' ∧ w'.grownBy w'' none) := Lib.hid fun w' hg A' len' c' l' hl => by
            have := with_at (HH.out.kept hg) HMl.out hjC hl
            unfold refV at this
            rw [Ch.len_put, HM.out] at this
            exact this
          obtain ⟨m1, Hm1⟩ : ∃ m, Hid (((C.of j).take (k + 1) ++ [x]).length = m) := ⟨_, Lib.hid rfl⟩
          obtain ⟨m, Hm⟩ : ∃ m, Hid ((((C.of j).take (k + 1) ++ [x]) ++ (C.of j).drop (k + 1)).length = m) := ⟨_, Lib.hid rfl⟩
          have hm16 : m1 ≤ 65537 := by rw [← Hm1.out]; simp; have := HL.out; omega
          have hm6 : m ≤ 65538 := by rw [← Hm.out]; simp; have := HL.out; omega
          have hgx := grown_trans HG0d.out (grown_trans (grown_drewN w4 1 none) (World.grownBy_alloc w4.drew (.cells #[.int .i32 (x : Int)] 21) none))
          have HN1 : Hid (NRow (w4.drew.alloc (.cells #[.int .i32 (x : Int)] 21)) (.slice (some ⟨bL, oL, none⟩) (k + 1) cL) ((C.of j).take (k + 1))) := Lib.hid (by
            obtain ⟨A', cap', hv, hh⟩ := (hrow.kept hgx).take (k + 1) (by rw [HL.out]; omega)
            cases hv
            exact hh)
          have HX : Hid (NRow (w4.drew.alloc (.cells #[.int .i32 (x : Int)] 21)) (.slice (some ⟨w4.heap.size, 0, none⟩) 1 1) [x]) := Lib.hid (lit_row (xs := [x]) (heap_alloc_new w4.drew _) (show 1 ≤ maxLen by decide))
          have HN2 := Lib.hid ((hrow.kept hgx).dropped (k + 1) (by rw [HL.out]; omega))
          have HJ1 : Hid (Calls Try.prog 18 #[.slice (some ⟨bL, oL, none⟩) (k + 1) cL, .slice (some ⟨w4.heap.size, 0, none⟩) 1 1] (w4.drew.alloc (.cells #[.int .i32 (x : Int)] 21)) fun e w'' => ∃ A' c', e = .returned (.slice A' m1 c') ∧ Hid (NRow w'' (.slice A' m1 c') ((C.of j).take (k + 1) ++ [x])) ∧ Hid ((w4.drew.alloc (.cells #[.int .i32 (x : Int)] 21)).grownBy w'' none)) := Lib.hid (by
            refine (joined_at _ _ _ _ _ HN1.out HX.out (by rw [← List.length_append, Hm1.out]; omega)).mono ?_
            rintro e w'' ⟨r, rfl, ho, hg'⟩
            obtain ⟨A', c', rfl⟩ := owns_slice ho
            have hn := NRow.of_owns ho rfl
            rw [Hm1.out] at hn ⊢
            exact ⟨A', c', rfl, Lib.hid hn, Lib.hid hg'⟩)
          have HJ : Hid (∀ wj A1 c1 u, Hid (NRow wj (.slice A1 m1 c1) ((C.of j).take (k + 1) ++ [x])) → NRow wj u ((C.of j).drop (k + 1)) → Calls Try.prog 18 #[.slice A1 m1 c1, u] wj fun e w'' => ∃ A' c', e = .returned (.slice A' m c') ∧ Hid (NRow w'' (.slice A' m c') (((C.of j).take (k + 1) ++ [x]) ++ (C.of j).drop (k + 1))) ∧ Hid (wj.grownBy w'' none)) := Lib.hid fun wj A1 c1 u hv hu => by
            refine (joined_at _ _ _ _ _ hv.out hu (by rw [← List.length_append, Hm.out]; omega)).mono ?_
            rintro e w'' ⟨r, rfl, ho, hg'⟩
            obtain ⟨A', c', rfl⟩ := owns_slice ho
            have hn := NRow.of_owns ho rfl
            rw [Hm.out] at hn ⊢
            exact ⟨A', c', rfl, Lib.hid hn, Lib.hid hg'⟩
          have hcell := HG0d.out.cell hcl (by simp)
          have HGx := Lib.hid hgx
          have HB0x := Lib.hid (kept2 HB0d.out (grown_trans (grown_drewN w4 1 none) (World.grownBy_alloc w4.drew (.cells #[.int .i32 (x : Int)] 21) none)))
          have HB1x := Lib.hid (kept2 HB1d.out (grown_trans (grown_drewN w4 1 none) (World.grownBy_alloc w4.drew (.cells #[.int .i32 (x : Int)] 21) none)))
          have hwr : IntKind.i64.wrap ((k : Int) + 1) = (k : Int) + 1 := by rw [IntKind.wrap_i64]; omega
          have hp1 : 0 ≤ (k : Int) + 1 := by omega
          have hk1 : (k : Int) + 1 ≤ (L : Int) := by omega
          have hd3 : decide ((j : Int) < 0) = false := by simp
          obtain ⟨cx0, cx1, _, _, _⟩ := cells2 HB0x.out
          clear hjy hrow hcl hdis hne hrw hjC HP HB0 HB1 HG0 HN1 HX HH HF HMl HNn HNa HB0a HB1a HG0a HB0b HB1b HG0b HB0c HB1c HG0c hgx
          go_wp2_with fail
          by_cases hcc : cL = k + 1
          · subst hcc
            have HU : Hid (∀ wj, (w4.drew.alloc (.cells #[.int .i32 (x : Int)] 21)).grownBy wj none → NRow wj (.slice (some ⟨bL, oL, none⟩) (L - (k + 1)) 0) ((C.of j).drop (k + 1))) := Lib.hid fun wj hg => (HN2.out.1 rfl).kept hg
            have hle : (k : Int) + 1 ≤ (k : Int) + 1 := by omega
            clear HN2 hlc
            go_region_held3 (fun w' => w'.cell? ⟨w.heap.size, 0, none⟩ = some (.int .i64 (C.N : Int)) ∧ w'.cell? ⟨w.heap.size, 1, none⟩ = some (.slice (some ⟨b, 0, none⟩) M cap)) (first | exact ⟨c00, c01⟩ | exact ⟨cx0, cx1⟩ | exact ⟨hi0, hi1⟩ | exact ⟨hj0, hj1⟩ | exact ⟨hk0, hk1'⟩ | go_keep)
              (first | (go_at_call_of 18 (Value.slice (some ⟨w4.heap.size, 0, none⟩) 1 1); refine HJ1.out.mono ?_; rintro e wi ⟨Ai, ci, rfl, HNi, HGi⟩; obtain ⟨hi0, hi1, _, _, _⟩ := cells2 (kept2 HB0x.out HGi.out)) | (go_at_call 18; refine (HJ.out wi _ _ _ HNi (HU.out wi HGi.out)).mono ?_; rintro e wj ⟨Aj, cj, rfl, HNj, HGj⟩; obtain ⟨hj0, hj1, _, _, _⟩ := cells2 (kept2 (kept2 HB0x.out HGi.out) HGj.out)) | (go_at_call 46; refine (HW.out wj (grown_trans (grown_trans HGx.out HGi.out) HGj.out) _ _ _ _ HNj.out).mono ?_; rintro e wk ⟨b', cap', rows', rfl, hRk, hGk⟩; obtain ⟨hk0, hk1', _, _, _⟩ := cells2 (kept2 (kept2 (kept2 HB0x.out HGi.out) HGj.out) hGk); obtain ⟨c10, c11, f10, f11, l1⟩ := cells2 (kept2 (kept2 (kept2 HB1x.out HGi.out) HGj.out) hGk); have HRk := Lib.hid hRk; have HGk := Lib.hid hGk; clear hRk hGk))
            go_wp2
            have hB1k := kept2 (kept2 (kept2 HB1x.out HGi.out) HGj.out) HGk.out
            refine bodyPost_ret (results_ref2 rfl _ _ _ _ _ _ _ rfl (fin2 hB1k)) rfl ?_
            have hG := fin2g (x' := .int .i64 (C.N : Int)) (y' := .slice (some ⟨b', 0, none⟩) M cap') (grown_trans (grown_trans (grown_trans HGx.out HGi.out) HGj.out) HGk.out) (show w.heap.size ≤ w.heap.size + 1 by omega)
            refine .inr ⟨j, k, x, y, rfl, rfl, HE.out, Hjx.out, b', cap', rows', by unfold refV; rw [Ch.len_put, HM.out]; rfl, HRk.out.stay fun k' cur t ht hk' => ?_, hG⟩
            have hne : k' ≠ w.heap.size + 1 := by
              rintro rfl
              have := type_eq hk' hB1k
              rcases ht with rfl | rfl <;> cases this
            exact (heap_setCell_other _ _ _ _ hne).trans (heap_setCell_other _ _ _ _ hne)
          · have HU : Hid (∀ wj, (w4.drew.alloc (.cells #[.int .i32 (x : Int)] 21)).grownBy wj none → NRow wj (.slice (some ⟨bL, oL + (k + 1), none⟩) (L - (k + 1)) (cL - (k + 1))) ((C.of j).drop (k + 1))) := Lib.hid fun wj hg => by
              have := (HN2.out.2 (cL - (k + 1) - 1) (by omega)).kept hg
              rw [show cL - (k + 1) - 1 + 1 = cL - (k + 1) by omega] at this
              exact this
            have hkc : (k : Int) + 1 ≤ (cL : Int) := by omega
            have hc0 : ¬ cL = 0 := by omega
            clear HN2 hlc
            go_region_held3 (fun w' => w'.cell? ⟨w.heap.size, 0, none⟩ = some (.int .i64 (C.N : Int)) ∧ w'.cell? ⟨w.heap.size, 1, none⟩ = some (.slice (some ⟨b, 0, none⟩) M cap)) (first | exact ⟨c00, c01⟩ | exact ⟨cx0, cx1⟩ | exact ⟨hi0, hi1⟩ | exact ⟨hj0, hj1⟩ | exact ⟨hk0, hk1'⟩ | go_keep)
              (first | (go_at_call_of 18 (Value.slice (some ⟨w4.heap.size, 0, none⟩) 1 1); refine HJ1.out.mono ?_; rintro e wi ⟨Ai, ci, rfl, HNi, HGi⟩; obtain ⟨hi0, hi1, _, _, _⟩ := cells2 (kept2 HB0x.out HGi.out)) | (go_at_call 18; refine (HJ.out wi _ _ _ HNi (HU.out wi HGi.out)).mono ?_; rintro e wj ⟨Aj, cj, rfl, HNj, HGj⟩; obtain ⟨hj0, hj1, _, _, _⟩ := cells2 (kept2 (kept2 HB0x.out HGi.out) HGj.out)) | (go_at_call 46; refine (HW.out wj (grown_trans (grown_trans HGx.out HGi.out) HGj.out) _ _ _ _ HNj.out).mono ?_; rintro e wk ⟨b', cap', rows', rfl, hRk, hGk⟩; obtain ⟨hk0, hk1', _, _, _⟩ := cells2 (kept2 (kept2 (kept2 HB0x.out HGi.out) HGj.out) hGk); obtain ⟨c10, c11, f10, f11, l1⟩ := cells2 (kept2 (kept2 (kept2 HB1x.out HGi.out) HGj.out) hGk); have HRk := Lib.hid hRk; have HGk := Lib.hid hGk; clear hRk hGk))
            go_wp2
            have hB1k := kept2 (kept2 (kept2 HB1x.out HGi.out) HGj.out) HGk.out
            refine bodyPost_ret (results_ref2 rfl _ _ _ _ _ _ _ rfl (fin2 hB1k)) rfl ?_
            have hG := fin2g (x' := .int .i64 (C.N : Int)) (y' := .slice (some ⟨b', 0, none⟩) M cap') (grown_trans (grown_trans (grown_trans HGx.out HGi.out) HGj.out) HGk.out) (show w.heap.size ≤ w.heap.size + 1 by omega)
            refine .inr ⟨j, k, x, y, rfl, rfl, HE.out, Hjx.out, b', cap', rows', by unfold refV; rw [Ch.len_put, HM.out]; rfl, HRk.out.stay fun k' cur t ht hk' => ?_, hG⟩
            have hne : k' ≠ w.heap.size + 1 := by
              rintro rfl
              have := type_eq hk' hB1k
              rcases ht with rfl | rfl <;> cases this
            exact (heap_setCell_other _ _ _ _ hne).trans (heap_setCell_other _ _ _ _ hne)
      · subst hnx
        have HE : Hid (C.insC (x : Int) a = 8) := Lib.hid (by unfold Ch.insC; rw [hin, hia, has_of hjx]; rfl)
        clear hjx
        clear c00 c01 l0
        have HB0c := Lib.hid (kept2 HB0b.out hg3)
        have HB1c := Lib.hid (kept2 HB1b.out hg3)
        have HG0c := Lib.hid (grown_trans HG0b.out hg3)
        obtain ⟨c00, c01, _, _, l0⟩ := cells2 HB0c.out
        clear hg3
        have hd3 : decide (0 ≤ (j : Int)) = true := by simp
        obtain ⟨c10, c11, f10, f11, l1⟩ := cells2 HB1c.out
        go_wp2
        refine bodyPost_ret (results_ref2 rfl _ _ _ _ _ _ _ rfl (fin2 HB1c.out)) rfl ?_
        exact .inl ⟨⟨by rw [HRV.out, HE.out]; rfl, fin2g HG0c.out (by omega)⟩, by rw [HE.out]; decide⟩
end
end Go.Proofs.Ytmjccpgkgkindaa
