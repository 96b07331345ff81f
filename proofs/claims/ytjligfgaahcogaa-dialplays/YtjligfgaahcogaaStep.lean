/-
  The law's step: an act on both tells the same, and leaves the same dial.
-/
import Derived.Test.YtjligfgaahcogaaRefF
namespace Go.Proofs.Ytjligfgaahcogaa
open Go.ChangeShapes Go.WideShapes Go.ChangeAt Go.RowKit
set_option linter.unusedVariables false
set_option maxRecDepth 100000

theorem kp2 {w w' : World} {B b gL gH : Nat} {o : Obj} (h : w.heap[B]? = some o) (hk : Kp b gL gH w w') (h1 : B ≠ b ∧ B ≠ gL ∧ B ≠ gH) : w'.heap[B]? = some o := (hk.block B (Array.getElem?_eq_some_iff.1 h).1 h1).trans h
def actV (kind hand n : Int) : Value := .agg #[.int .i64 kind, .int .i64 hand, .int .i32 n]
def StepPost (w : World) (lo b gL gH lr : Nat) (D : Dl) (e : Ending) (w' : World) : Prop :=
  ∃ D' vL vH, e = .returned (.tuple #[refV D' vL vH, .bool true]) ∧ IsD w' lo b gL gH D' ∧ RefAt lr w' D' vL vH ∧ Kp b gL gH w w' ∧ D'.l.length ≤ D.l.length + 1 ∧ D'.hs.length = D.hs.length ∧ D'.N = D.N
theorem IsD.fin3 {w : World} {D : Dl} {lo b gL gH B : Nat} {cs : Array Value} {x' y' z' : Value} (h : IsD w lo b gL gH D) (hB : w.heap[B]? = some (.cells cs 32 (0, 0))) : IsD (((w.setCell ⟨B, 0, none⟩ x').setCell ⟨B, 1, none⟩ y').setCell ⟨B, 2, none⟩ z') lo b gL gH D := by
  refine h.stay fun k hk hkk => ?_
  obtain ⟨⟨c1, t1⟩, ⟨c2, t2⟩, c3, t3⟩ := h.types
  have hne : k ≠ B := by
    rintro rfl
    rcases hkk with rfl | rfl | rfl
    · exact absurd (type_eq t1 hB) (by decide)
    · exact absurd (type_eq t2 hB) (by decide)
    · exact absurd (type_eq t3 hB) (by decide)
  exact (heap_setCell_other _ _ _ _ hne).trans ((heap_setCell_other _ _ _ _ hne).trans (heap_setCell_other _ _ _ _ hne))
theorem Kp.fin3 {w0 w : World} {b gL gH B : Nat} {x' y' z' : Value} (h : Kp b gL gH w0 w) (hB : w0.heap.size ≤ B) : Kp b gL gH w0 (((w.setCell ⟨B, 0, none⟩ x').setCell ⟨B, 1, none⟩ y').setCell ⟨B, 2, none⟩ z') :=
  ⟨h.os, h.tape, h.output, by simpa using h.size, fun k hk hh => ((heap_setCell_other _ _ _ _ (by simp only; omega)).trans ((heap_setCell_other _ _ _ _ (by simp only; omega)).trans (heap_setCell_other _ _ _ _ (by simp only; omega)))).trans (h.block k hk hh)⟩
/-- what the document's function and the program's tell alike -/
def Both (lo b gL gH lr f : Nat) (args : Array Value) (w : World) (D : Dl) (u : Value) (e : Ending) (w' : World) : Prop :=
  ∃ D' vL vH, e = .returned (.tuple #[refV D' vL vH, u]) ∧ RefAt lr w' D' vL vH ∧ w.grownBy w' none ∧
    (∀ w2, IsD w2 lo b gL gH D → Calls Try.prog f (#[.pointer (some ⟨b, 0, none⟩)] ++ args) w2 fun e w3 => e = .returned u ∧ IsD w3 lo b gL gH D' ∧ Kp b gL gH w2 w3) ∧ D'.l.length ≤ D.l.length + 1 ∧ D'.hs.length = D.hs.length ∧ D'.N = D.N
section
variable {w : World} {D : Dl} {lo b gL gH lr : Nat} {vL vH : Value}
theorem ins_both (hc : IsD w lo b gL gH D) (hr : RefAt lr w D vL vH) (hlw : lr ≤ w.heap.size) (hand n : Int) (hn : i32in n) :
    Calls Try.prog 25 #[refV D vL vH, .int .i32 n, .int .i64 hand] w fun e w' => ∃ cd, Both lo b gL gH lr 13 #[.int .i32 n, .int .i64 hand] w D (.int .i64 cd) e w' := by
  refine (rins_at hr hlw hc.ok hc.few hc.m8.2 n hand hn).mono ?_
  rintro e w' (⟨⟨rfl, hg⟩, he⟩ | ⟨i, x, rfl, rfl, he, hi, hx, hf, vL', vH', rfl, hR, hg⟩)
  · refine ⟨_, D, vL, vH, rfl, hr.kept hg, hg, fun w2 h2 => ?_, by omega, rfl, rfl⟩
    refine (insert_er h2 hn he).mono ?_
    rintro e w3 ⟨rfl, rfl⟩
    exact ⟨rfl, h2, Stay.refl _ _⟩
  · exact ⟨0, D.ins i x, vL', vH', rfl, hR, hg, fun w2 h2 => insert_is h2 hi hx hf, by rw [Dl.ins_l]; exact Nat.le_refl _, Dl.ins_len _ _ _, Dl.ins_N _ _ _⟩
theorem rem_both (hc : IsD w lo b gL gH D) (hr : RefAt lr w D vL vH) (hlw : lr ≤ w.heap.size) (n : Int) (hn : i32in n) :
    Calls Try.prog 26 #[refV D vL vH, .int .i32 n] w fun e w' => ∃ cd, Both lo b gL gH lr 18 #[.int .i32 n] w D (.bool cd) e w' := by
  refine (rrem_at hr hlw hc.ok hc.few hc.m8.1 hc.m8.2 n).mono ?_
  rintro e w' (⟨⟨rfl, hg⟩, he⟩ | ⟨k, x, rfl, hk, vL', vH', rfl, hR, hg⟩)
  · refine ⟨_, D, vL, vH, rfl, hr.kept hg, hg, fun w2 h2 => ?_, by omega, rfl, rfl⟩
    refine (remove_er h2 n hn he).mono ?_
    rintro e w3 ⟨rfl, rfl⟩
    exact ⟨rfl, h2, Stay.refl _ _⟩
  · refine ⟨true, D.rem k, vL', vH', rfl, hR, hg, fun w2 h2 => remove_is h2 hk, ?_, Dl.rem_hs _ _, rfl⟩
    show (D.l.take k ++ D.l.drop (k + 1)).length ≤ _
    rw [rem_len (List.getElem?_eq_some_iff.1 hk).1]; omega
theorem stp_both (hc : IsD w lo b gL gH D) (hr : RefAt lr w D vL vH) (hand : Int) :
    Calls Try.prog 27 #[refV D vL vH, .int .i64 hand] w fun e w' => ∃ cd, Both lo b gL gH lr 14 #[.int .i64 hand] w D (.bool cd) e w' := by
  refine (rstep_at hr hc.ok hc.few hc.m8.2 hand).mono ?_
  rintro e w' (⟨⟨rfl, hg⟩, he⟩ | ⟨i, k, rfl, hk, h0, vL', vH', rfl, hR, hg⟩)
  · refine ⟨_, D, vL, vH, rfl, hr.kept hg, hg, fun w2 h2 => ?_, by omega, rfl, rfl⟩
    refine (step_er h2 hand he).mono ?_
    rintro e w3 ⟨rfl, rfl⟩
    exact ⟨rfl, h2, Stay.refl _ _⟩
  · exact ⟨true, D.at_ i ((k + 1) % D.l.length), vL', vH', rfl, hR, hg, fun w2 h2 => step_is h2 hk h0, by show D.l.length ≤ _; omega, Dl.at_len _ _ _, rfl⟩
theorem pt_both (hc : IsD w lo b gL gH D) (hr : RefAt lr w D vL vH) (hand n : Int) (hn : i32in n) :
    Calls Try.prog 28 #[refV D vL vH, .int .i64 hand, .int .i32 n] w fun e w' => ∃ cd, Both lo b gL gH lr 23 #[.int .i64 hand, .int .i32 n] w D (.int .i64 cd) e w' := by
  refine (rpoint_at hr hc.ok hc.few hc.m8.2 hand n hn).mono ?_
  rintro e w' (⟨⟨rfl, hg⟩, he⟩ | ⟨i, k, x, rfl, rfl, he, hi, hk, vL', vH', rfl, hR, hg⟩)
  · refine ⟨_, D, vL, vH, rfl, hr.kept hg, hg, fun w2 h2 => ?_, by omega, rfl, rfl⟩
    refine (set_er h2 hn he).mono ?_
    rintro e w3 ⟨rfl, rfl⟩
    exact ⟨rfl, h2, Stay.refl _ _⟩
  · exact ⟨0, D.at_ i k, vL', vH', rfl, hR, hg, fun w2 h2 => set_is h2 hi hk, by show D.l.length ≤ _; omega, Dl.at_len _ _ _, rfl⟩
set_option maxHeartbeats 1000000 in
theorem step0 (hc : IsD w lo b gL gH D) (hr : RefAt lr w D vL vH) (hlr : gH < lr) (hlw : lr ≤ w.heap.size) (hand n : Int) (hn : i32in n) :
    Calls Try.prog 11 #[.pointer (some ⟨b, 0, none⟩), refV D vL vH, actV 0 hand n] w (StepPost w lo b gL gH lr D) := by
  have hlt := hc.lts
  have HHr := Lib.hid hr
  obtain ⟨bH, oH, cH, rfl, _⟩ := hr.h
  obtain ⟨A, c, rfl, _⟩ := hr.l
  unfold actV
  obtain ⟨L, HL⟩ : ∃ L, Hid (D.l.length = L) := ⟨_, Lib.hid rfl⟩
  obtain ⟨M, HM⟩ : ∃ M, Hid (D.hs.length = M) := ⟨_, Lib.hid rfl⟩
  obtain ⟨N, HN⟩ : ∃ N, Hid (D.N = N) := ⟨_, Lib.hid rfl⟩
  have HRV : Hid (refV D (.slice A D.l.length c) (.slice (some ⟨bH, oH, none⟩) D.hs.length cH) = .agg #[.int .i64 (N : Int), .slice A L c, .slice (some ⟨bH, oH, none⟩) M cH]) := Lib.hid (by unfold refV; rw [HL.out, HM.out, HN.out])
  rw [HRV.out]
  obtain ⟨hg0, hz0, b0, b1, b2⟩ := alloc3 w (.cells #[.int .i64 (N : Int), .slice A L c, .slice (some ⟨bH, oH, none⟩) M cH] 32) (.cells #[.int .i64 0, .int .i64 hand, .int .i32 n] 35) (.cells #[.int .i64 0, .slice none 0 0, .slice none 0 0] 32)
  have HC := Lib.hid hc
  have HG0 := Lib.hid hg0
  have HB1 := Lib.hid b1
  have HB2 := Lib.hid b2
  have HLW := Lib.hid hlw
  have HLR := Lib.hid hlr
  obtain ⟨c00, c01, c02, _, _, _, l0⟩ := cells3 b0
  obtain ⟨c10, c11, c12, _, _, _, l1⟩ := cells3 b1
  clear hc hr hg0 b0 b1 b2 hlw hlr
  go_enter Try.func11, Try.ntmps11
  go_wp2_with fail
  have HR0 := Lib.hid (HHr.out.kept HG0.out)
  have HC0 := Lib.hid (HC.out.kept HG0.out)
  generalize ((w.alloc (.cells #[.int .i64 (N : Int), .slice A L c, .slice (some ⟨bH, oH, none⟩) M cH] 32)).alloc (.cells #[.int .i64 0, .int .i64 hand, .int .i32 n] 35)).alloc (.cells #[.int .i64 0, .slice none 0 0, .slice none 0 0] 32) = w0 at *
  have hp := ins_both HC0.out HR0.out (Nat.le_trans HLW.out HG0.out.size) hand n hn
  rw [HRV.out] at hp
  refine hp.mono ?_
  rintro e w1 ⟨cd, D', vL', vH', rfl, hR1, hg1, hcall, hl1', hh1', hn1'⟩
  have HR1 := Lib.hid hR1
  have HCall := Lib.hid hcall
  have HD' := Lib.hid (And.intro hl1' (And.intro hh1' hn1'))
  obtain ⟨bH', oH', cH', rfl, _⟩ := hR1.h
  obtain ⟨A', c', rfl, _⟩ := hR1.l
  obtain ⟨L', HL'⟩ : ∃ L, Hid (D'.l.length = L) := ⟨_, Lib.hid rfl⟩
  obtain ⟨M', HM'⟩ : ∃ M, Hid (D'.hs.length = M) := ⟨_, Lib.hid rfl⟩
  obtain ⟨N', HN'⟩ : ∃ N, Hid (D'.N = N) := ⟨_, Lib.hid rfl⟩
  have HRV' : Hid (refV D' (.slice A' D'.l.length c') (.slice (some ⟨bH', oH', none⟩) D'.hs.length cH') = .agg #[.int .i64 (N' : Int), .slice A' L' c', .slice (some ⟨bH', oH', none⟩) M' cH']) := Lib.hid (by unfold refV; rw [HL'.out, HM'.out, HN'.out])
  rw [HRV'.out]
  have HG1 := Lib.hid (grown_trans HG0.out hg1)
  have HB1a := Lib.hid (kept2 HB1.out hg1)
  have HB2a := Lib.hid (kept2 HB2.out hg1)
  have HC1 := Lib.hid (HC0.out.kept hg1)
  have hl1 : w.heap.size + 3 ≤ w1.heap.size := by have := hg1.size; omega
  clear hp hR1 hcall hl1' hh1' hn1' hg1 c00 c01 c02 l0 c10 c11 c12 l1 HB1 HB2 HG0 HC0 HR0 hz0
  have hga := World.grownBy_alloc w1 (.cells #[.int .i64 (N' : Int), .slice A' L' c', .slice (some ⟨bH', oH', none⟩) M' cH'] 32) none
  have HG2 := Lib.hid (grown_trans HG1.out hga)
  have HB1b := Lib.hid (kept2 HB1a.out hga)
  have HB2b := Lib.hid (kept2 HB2a.out hga)
  have HB3b := Lib.hid (heap_alloc_new w1 (.cells #[.int .i64 (N' : Int), .slice A' L' c', .slice (some ⟨bH', oH', none⟩) M' cH'] 32))
  have HC2 := Lib.hid (HC1.out.kept hga)
  have HR2 := Lib.hid (HR1.out.kept hga)
  obtain ⟨B3, HB3e⟩ : ∃ B3, Hid (w1.heap.size = B3) := ⟨_, Lib.hid rfl⟩
  rw [HB3e.out] at HB3b hl1
  have HB3n : Hid ((w.heap.size + 1 ≠ b ∧ w.heap.size + 1 ≠ gL ∧ w.heap.size + 1 ≠ gH) ∧ (w.heap.size + 2 ≠ b ∧ w.heap.size + 2 ≠ gL ∧ w.heap.size + 2 ≠ gH) ∧ (B3 ≠ b ∧ B3 ≠ gL ∧ B3 ≠ gH)) := Lib.hid (by omega)
  clear HG1 HB1a HB2a HC1 HR1 hga
  go_wp2_with fail
  rw [HB3e.out]
  generalize w1.alloc (.cells #[.int .i64 (N' : Int), .slice A' L' c', .slice (some ⟨bH', oH', none⟩) M' cH'] 32) = w2 at *
  have HCd : Hid (Calls Try.prog 13 #[.pointer (some ⟨b, 0, none⟩), .int .i32 n, .int .i64 hand] w2.drew fun e w3 => e = .returned (.int .i64 cd) ∧ Hid (IsD w3 lo b gL gH D') ∧ Hid (Kp b gL gH w2 w3)) := Lib.hid (by
    refine (HCall.out w2.drew (HC2.out.kept (grown_drewN w2 1 none))).mono ?_
    rintro e w3 ⟨rfl, h1, h2⟩
    exact ⟨rfl, Lib.hid h1, Lib.hid ((Kp.of_new (grown_drewN w2 1 none)).trans h2)⟩)
  obtain ⟨c10, c11, c12, _, _, _, _⟩ := cells3 HB1b.out
  obtain ⟨c30, c31, c32, _, _, _, l3⟩ := cells3 HB3b.out
  clear HCall
  have hcc : (cd == cd) = true := by simp
  have hb32 : B3 ≠ w.heap.size + 1 + 1 := by omega
  have hb33 : w.heap.size + 1 + 1 ≠ B3 := by omega
  go_region_held3 (fun w' => w'.cell? ⟨B3, 0, none⟩ = some (.int .i64 (N' : Int)) ∧ w'.cell? ⟨B3, 1, none⟩ = some (.slice A' L' c') ∧ w'.cell? ⟨B3, 2, none⟩ = some (.slice (some ⟨bH', oH', none⟩) M' cH') ∧ w'.cell? ⟨w.heap.size + 1, 1, none⟩ = some (.int .i64 hand) ∧ w'.cell? ⟨w.heap.size + 1, 2, none⟩ = some (.int .i32 n)) (first | exact ⟨c30, c31, c32, c11, c12⟩ | exact ⟨k30, k31, k32, k11, k12⟩ | go_keep)
    (first | (go_at_call 13; refine HCd.out.mono ?_; rintro e w3 ⟨rfl, HC3, HK3⟩; obtain ⟨k30, k31, k32, _, _, _, _⟩ := cells3 (kp2 HB3b.out HK3.out HB3n.out.2.2); obtain ⟨_, k11, k12, _, _, _, _⟩ := cells3 (kp2 HB1b.out HK3.out HB3n.out.1); obtain ⟨k20, k21, k22, m20, m21, m22, n2⟩ := cells3 (kp2 HB2b.out HK3.out HB3n.out.2.1)))
  all_goals go_wp2
  all_goals (
    refine bodyPost_ret (results_ref2 rfl _ _ _ _ _ _ _ _ rfl (fin3 (kp2 HB2b.out HK3.out HB3n.out.2.1))) rfl ?_
    exact ⟨D', _, _, by rw [HRV'.out]; rfl, HC3.out.fin3 (kp2 HB2b.out HK3.out HB3n.out.2.1), (HR2.out.kp HK3.out HC2.out.types.1 HC2.out.types.2.1 HC2.out.types.2.2 HLR.out).fin3 (kp2 HB2b.out HK3.out HB3n.out.2.1), Kp.fin3 ((Kp.of_new HG2.out).trans HK3.out) (by omega), HD'.out.1, HD'.out.2.1, HD'.out.2.2⟩)
set_option maxHeartbeats 1000000 in
theorem step1 (hc : IsD w lo b gL gH D) (hr : RefAt lr w D vL vH) (hlr : gH < lr) (hlw : lr ≤ w.heap.size) (hand n : Int) (hn : i32in n) :
    Calls Try.prog 11 #[.pointer (some ⟨b, 0, none⟩), refV D vL vH, actV 1 hand n] w (StepPost w lo b gL gH lr D) := by
  have hlt := hc.lts
  have HHr := Lib.hid hr
  obtain ⟨bH, oH, cH, rfl, _⟩ := hr.h
  obtain ⟨A, c, rfl, _⟩ := hr.l
  unfold actV
  obtain ⟨L, HL⟩ : ∃ L, Hid (D.l.length = L) := ⟨_, Lib.hid rfl⟩
  obtain ⟨M, HM⟩ : ∃ M, Hid (D.hs.length = M) := ⟨_, Lib.hid rfl⟩
  obtain ⟨N, HN⟩ : ∃ N, Hid (D.N = N) := ⟨_, Lib.hid rfl⟩
  have HRV : Hid (refV D (.slice A D.l.length c) (.slice (some ⟨bH, oH, none⟩) D.hs.length cH) = .agg #[.int .i64 (N : Int), .slice A L c, .slice (some ⟨bH, oH, none⟩) M cH]) := Lib.hid (by unfold refV; rw [HL.out, HM.out, HN.out])
  rw [HRV.out]
  obtain ⟨hg0, hz0, b0, b1, b2⟩ := alloc3 w (.cells #[.int .i64 (N : Int), .slice A L c, .slice (some ⟨bH, oH, none⟩) M cH] 32) (.cells #[.int .i64 1, .int .i64 hand, .int .i32 n] 35) (.cells #[.int .i64 0, .slice none 0 0, .slice none 0 0] 32)
  have HC := Lib.hid hc
  have HG0 := Lib.hid hg0
  have HB1 := Lib.hid b1
  have HB2 := Lib.hid b2
  have HLW := Lib.hid hlw
  have HLR := Lib.hid hlr
  obtain ⟨c00, c01, c02, _, _, _, l0⟩ := cells3 b0
  obtain ⟨c10, c11, c12, _, _, _, l1⟩ := cells3 b1
  clear hc hr hg0 b0 b1 b2 hlw hlr
  go_enter Try.func11, Try.ntmps11
  go_wp2_with fail
  have HR0 := Lib.hid (HHr.out.kept HG0.out)
  have HC0 := Lib.hid (HC.out.kept HG0.out)
  generalize ((w.alloc (.cells #[.int .i64 (N : Int), .slice A L c, .slice (some ⟨bH, oH, none⟩) M cH] 32)).alloc (.cells #[.int .i64 1, .int .i64 hand, .int .i32 n] 35)).alloc (.cells #[.int .i64 0, .slice none 0 0, .slice none 0 0] 32) = w0 at *
  have hp := rem_both HC0.out HR0.out (Nat.le_trans HLW.out HG0.out.size) n hn
  rw [HRV.out] at hp
  refine hp.mono ?_
  rintro e w1 ⟨cd, D', vL', vH', rfl, hR1, hg1, hcall, hl1', hh1', hn1'⟩
  have HR1 := Lib.hid hR1
  have HCall := Lib.hid hcall
  have HD' := Lib.hid (And.intro hl1' (And.intro hh1' hn1'))
  obtain ⟨bH', oH', cH', rfl, _⟩ := hR1.h
  obtain ⟨A', c', rfl, _⟩ := hR1.l
  obtain ⟨L', HL'⟩ : ∃ L, Hid (D'.l.length = L) := ⟨_, Lib.hid rfl⟩
  obtain ⟨M', HM'⟩ : ∃ M, Hid (D'.hs.length = M) := ⟨_, Lib.hid rfl⟩
  obtain ⟨N', HN'⟩ : ∃ N, Hid (D'.N = N) := ⟨_, Lib.hid rfl⟩
  have HRV' : Hid (refV D' (.slice A' D'.l.length c') (.slice (some ⟨bH', oH', none⟩) D'.hs.length cH') = .agg #[.int .i64 (N' : Int), .slice A' L' c', .slice (some ⟨bH', oH', none⟩) M' cH']) := Lib.hid (by unfold refV; rw [HL'.out, HM'.out, HN'.out])
  rw [HRV'.out]
  have HG1 := Lib.hid (grown_trans HG0.out hg1)
  have HB1a := Lib.hid (kept2 HB1.out hg1)
  have HB2a := Lib.hid (kept2 HB2.out hg1)
  have HC1 := Lib.hid (HC0.out.kept hg1)
  have hl1 : w.heap.size + 3 ≤ w1.heap.size := by have := hg1.size; omega
  clear hp hR1 hcall hl1' hh1' hn1' hg1 c00 c01 c02 l0 c10 c11 c12 l1 HB1 HB2 HG0 HC0 HR0 hz0
  have hga := World.grownBy_alloc w1 (.cells #[.int .i64 (N' : Int), .slice A' L' c', .slice (some ⟨bH', oH', none⟩) M' cH'] 32) none
  have HG2 := Lib.hid (grown_trans HG1.out hga)
  have HB1b := Lib.hid (kept2 HB1a.out hga)
  have HB2b := Lib.hid (kept2 HB2a.out hga)
  have HB3b := Lib.hid (heap_alloc_new w1 (.cells #[.int .i64 (N' : Int), .slice A' L' c', .slice (some ⟨bH', oH', none⟩) M' cH'] 32))
  have HC2 := Lib.hid (HC1.out.kept hga)
  have HR2 := Lib.hid (HR1.out.kept hga)
  obtain ⟨B3, HB3e⟩ : ∃ B3, Hid (w1.heap.size = B3) := ⟨_, Lib.hid rfl⟩
  rw [HB3e.out] at HB3b hl1
  have HB3n : Hid ((w.heap.size + 1 ≠ b ∧ w.heap.size + 1 ≠ gL ∧ w.heap.size + 1 ≠ gH) ∧ (w.heap.size + 2 ≠ b ∧ w.heap.size + 2 ≠ gL ∧ w.heap.size + 2 ≠ gH) ∧ (B3 ≠ b ∧ B3 ≠ gL ∧ B3 ≠ gH)) := Lib.hid (by omega)
  clear HG1 HB1a HB2a HC1 HR1 hga
  go_wp2_with fail
  rw [HB3e.out]
  generalize w1.alloc (.cells #[.int .i64 (N' : Int), .slice A' L' c', .slice (some ⟨bH', oH', none⟩) M' cH'] 32) = w2 at *
  have HCd : Hid (Calls Try.prog 18 #[.pointer (some ⟨b, 0, none⟩), .int .i32 n] w2.drew fun e w3 => e = .returned (.bool cd) ∧ Hid (IsD w3 lo b gL gH D') ∧ Hid (Kp b gL gH w2 w3)) := Lib.hid (by
    refine (HCall.out w2.drew (HC2.out.kept (grown_drewN w2 1 none))).mono ?_
    rintro e w3 ⟨rfl, h1, h2⟩
    exact ⟨rfl, Lib.hid h1, Lib.hid ((Kp.of_new (grown_drewN w2 1 none)).trans h2)⟩)
  obtain ⟨c10, c11, c12, _, _, _, _⟩ := cells3 HB1b.out
  obtain ⟨c30, c31, c32, _, _, _, l3⟩ := cells3 HB3b.out
  clear HCall
  have hcc : (cd == cd) = true := by simp
  have hb32 : B3 ≠ w.heap.size + 1 + 1 := by omega
  have hb33 : w.heap.size + 1 + 1 ≠ B3 := by omega
  go_region_held3 (fun w' => w'.cell? ⟨B3, 0, none⟩ = some (.int .i64 (N' : Int)) ∧ w'.cell? ⟨B3, 1, none⟩ = some (.slice A' L' c') ∧ w'.cell? ⟨B3, 2, none⟩ = some (.slice (some ⟨bH', oH', none⟩) M' cH') ∧ w'.cell? ⟨w.heap.size + 1, 1, none⟩ = some (.int .i64 hand) ∧ w'.cell? ⟨w.heap.size + 1, 2, none⟩ = some (.int .i32 n)) (first | exact ⟨c30, c31, c32, c11, c12⟩ | exact ⟨k30, k31, k32, k11, k12⟩ | go_keep)
    (first | (go_at_call 18; refine HCd.out.mono ?_; rintro e w3 ⟨rfl, HC3, HK3⟩; obtain ⟨k30, k31, k32, _, _, _, _⟩ := cells3 (kp2 HB3b.out HK3.out HB3n.out.2.2); obtain ⟨_, k11, k12, _, _, _, _⟩ := cells3 (kp2 HB1b.out HK3.out HB3n.out.1); obtain ⟨k20, k21, k22, m20, m21, m22, n2⟩ := cells3 (kp2 HB2b.out HK3.out HB3n.out.2.1)))
  all_goals go_wp2
  all_goals (
    refine bodyPost_ret (results_ref2 rfl _ _ _ _ _ _ _ _ rfl (fin3 (kp2 HB2b.out HK3.out HB3n.out.2.1))) rfl ?_
    exact ⟨D', _, _, by rw [HRV'.out]; rfl, HC3.out.fin3 (kp2 HB2b.out HK3.out HB3n.out.2.1), (HR2.out.kp HK3.out HC2.out.types.1 HC2.out.types.2.1 HC2.out.types.2.2 HLR.out).fin3 (kp2 HB2b.out HK3.out HB3n.out.2.1), Kp.fin3 ((Kp.of_new HG2.out).trans HK3.out) (by omega), HD'.out.1, HD'.out.2.1, HD'.out.2.2⟩)
set_option maxHeartbeats 1000000 in
theorem step2 (hc : IsD w lo b gL gH D) (hr : RefAt lr w D vL vH) (hlr : gH < lr) (hlw : lr ≤ w.heap.size) (hand n : Int) (hn : i32in n) :
    Calls Try.prog 11 #[.pointer (some ⟨b, 0, none⟩), refV D vL vH, actV 2 hand n] w (StepPost w lo b gL gH lr D) := by
  have hlt := hc.lts
  have HHr := Lib.hid hr
  obtain ⟨bH, oH, cH, rfl, _⟩ := hr.h
  obtain ⟨A, c, rfl, _⟩ := hr.l
  unfold actV
  obtain ⟨L, HL⟩ : ∃ L, Hid (D.l.length = L) := ⟨_, Lib.hid rfl⟩
  obtain ⟨M, HM⟩ : ∃ M, Hid (D.hs.length = M) := ⟨_, Lib.hid rfl⟩
  obtain ⟨N, HN⟩ : ∃ N, Hid (D.N = N) := ⟨_, Lib.hid rfl⟩
  have HRV : Hid (refV D (.slice A D.l.length c) (.slice (some ⟨bH, oH, none⟩) D.hs.length cH) = .agg #[.int .i64 (N : Int), .slice A L c, .slice (some ⟨bH, oH, none⟩) M cH]) := Lib.hid (by unfold refV; rw [HL.out, HM.out, HN.out])
  rw [HRV.out]
  obtain ⟨hg0, hz0, b0, b1, b2⟩ := alloc3 w (.cells #[.int .i64 (N : Int), .slice A L c, .slice (some ⟨bH, oH, none⟩) M cH] 32) (.cells #[.int .i64 2, .int .i64 hand, .int .i32 n] 35) (.cells #[.int .i64 0, .slice none 0 0, .slice none 0 0] 32)
  have HC := Lib.hid hc
  have HG0 := Lib.hid hg0
  have HB1 := Lib.hid b1
  have HB2 := Lib.hid b2
  have HLW := Lib.hid hlw
  have HLR := Lib.hid hlr
  obtain ⟨c00, c01, c02, _, _, _, l0⟩ := cells3 b0
  obtain ⟨c10, c11, c12, _, _, _, l1⟩ := cells3 b1
  clear hc hr hg0 b0 b1 b2 hlw hlr
  go_enter Try.func11, Try.ntmps11
  go_wp2_with fail
  have HR0 := Lib.hid (HHr.out.kept HG0.out)
  have HC0 := Lib.hid (HC.out.kept HG0.out)
  generalize ((w.alloc (.cells #[.int .i64 (N : Int), .slice A L c, .slice (some ⟨bH, oH, none⟩) M cH] 32)).alloc (.cells #[.int .i64 2, .int .i64 hand, .int .i32 n] 35)).alloc (.cells #[.int .i64 0, .slice none 0 0, .slice none 0 0] 32) = w0 at *
  have hp := stp_both HC0.out HR0.out hand
  rw [HRV.out] at hp
  refine hp.mono ?_
  rintro e w1 ⟨cd, D', vL', vH', rfl, hR1, hg1, hcall, hl1', hh1', hn1'⟩
  have HR1 := Lib.hid hR1
  have HCall := Lib.hid hcall
  have HD' := Lib.hid (And.intro hl1' (And.intro hh1' hn1'))
  obtain ⟨bH', oH', cH', rfl, _⟩ := hR1.h
  obtain ⟨A', c', rfl, _⟩ := hR1.l
  obtain ⟨L', HL'⟩ : ∃ L, Hid (D'.l.length = L) := ⟨_, Lib.hid rfl⟩
  obtain ⟨M', HM'⟩ : ∃ M, Hid (D'.hs.length = M) := ⟨_, Lib.hid rfl⟩
  obtain ⟨N', HN'⟩ : ∃ N, Hid (D'.N = N) := ⟨_, Lib.hid rfl⟩
  have HRV' : Hid (refV D' (.slice A' D'.l.length c') (.slice (some ⟨bH', oH', none⟩) D'.hs.length cH') = .agg #[.int .i64 (N' : Int), .slice A' L' c', .slice (some ⟨bH', oH', none⟩) M' cH']) := Lib.hid (by unfold refV; rw [HL'.out, HM'.out, HN'.out])
  rw [HRV'.out]
  have HG1 := Lib.hid (grown_trans HG0.out hg1)
  have HB1a := Lib.hid (kept2 HB1.out hg1)
  have HB2a := Lib.hid (kept2 HB2.out hg1)
  have HC1 := Lib.hid (HC0.out.kept hg1)
  have hl1 : w.heap.size + 3 ≤ w1.heap.size := by have := hg1.size; omega
  clear hp hR1 hcall hl1' hh1' hn1' hg1 c00 c01 c02 l0 c10 c11 c12 l1 HB1 HB2 HG0 HC0 HR0 hz0
  have hga := World.grownBy_alloc w1 (.cells #[.int .i64 (N' : Int), .slice A' L' c', .slice (some ⟨bH', oH', none⟩) M' cH'] 32) none
  have HG2 := Lib.hid (grown_trans HG1.out hga)
  have HB1b := Lib.hid (kept2 HB1a.out hga)
  have HB2b := Lib.hid (kept2 HB2a.out hga)
  have HB3b := Lib.hid (heap_alloc_new w1 (.cells #[.int .i64 (N' : Int), .slice A' L' c', .slice (some ⟨bH', oH', none⟩) M' cH'] 32))
  have HC2 := Lib.hid (HC1.out.kept hga)
  have HR2 := Lib.hid (HR1.out.kept hga)
  obtain ⟨B3, HB3e⟩ : ∃ B3, Hid (w1.heap.size = B3) := ⟨_, Lib.hid rfl⟩
  rw [HB3e.out] at HB3b hl1
  have HB3n : Hid ((w.heap.size + 1 ≠ b ∧ w.heap.size + 1 ≠ gL ∧ w.heap.size + 1 ≠ gH) ∧ (w.heap.size + 2 ≠ b ∧ w.heap.size + 2 ≠ gL ∧ w.heap.size + 2 ≠ gH) ∧ (B3 ≠ b ∧ B3 ≠ gL ∧ B3 ≠ gH)) := Lib.hid (by omega)
  clear HG1 HB1a HB2a HC1 HR1 hga
  go_wp2_with fail
  rw [HB3e.out]
  generalize w1.alloc (.cells #[.int .i64 (N' : Int), .slice A' L' c', .slice (some ⟨bH', oH', none⟩) M' cH'] 32) = w2 at *
  have HCd : Hid (Calls Try.prog 14 #[.pointer (some ⟨b, 0, none⟩), .int .i64 hand] w2.drew fun e w3 => e = .returned (.bool cd) ∧ Hid (IsD w3 lo b gL gH D') ∧ Hid (Kp b gL gH w2 w3)) := Lib.hid (by
    refine (HCall.out w2.drew (HC2.out.kept (grown_drewN w2 1 none))).mono ?_
    rintro e w3 ⟨rfl, h1, h2⟩
    exact ⟨rfl, Lib.hid h1, Lib.hid ((Kp.of_new (grown_drewN w2 1 none)).trans h2)⟩)
  obtain ⟨c10, c11, c12, _, _, _, _⟩ := cells3 HB1b.out
  obtain ⟨c30, c31, c32, _, _, _, l3⟩ := cells3 HB3b.out
  clear HCall
  have hcc : (cd == cd) = true := by simp
  have hb32 : B3 ≠ w.heap.size + 1 + 1 := by omega
  have hb33 : w.heap.size + 1 + 1 ≠ B3 := by omega
  go_region_held3 (fun w' => w'.cell? ⟨B3, 0, none⟩ = some (.int .i64 (N' : Int)) ∧ w'.cell? ⟨B3, 1, none⟩ = some (.slice A' L' c') ∧ w'.cell? ⟨B3, 2, none⟩ = some (.slice (some ⟨bH', oH', none⟩) M' cH') ∧ w'.cell? ⟨w.heap.size + 1, 1, none⟩ = some (.int .i64 hand) ∧ w'.cell? ⟨w.heap.size + 1, 2, none⟩ = some (.int .i32 n)) (first | exact ⟨c30, c31, c32, c11, c12⟩ | exact ⟨k30, k31, k32, k11, k12⟩ | go_keep)
    (first | (go_at_call 14; refine HCd.out.mono ?_; rintro e w3 ⟨rfl, HC3, HK3⟩; obtain ⟨k30, k31, k32, _, _, _, _⟩ := cells3 (kp2 HB3b.out HK3.out HB3n.out.2.2); obtain ⟨_, k11, k12, _, _, _, _⟩ := cells3 (kp2 HB1b.out HK3.out HB3n.out.1); obtain ⟨k20, k21, k22, m20, m21, m22, n2⟩ := cells3 (kp2 HB2b.out HK3.out HB3n.out.2.1)))
  all_goals go_wp2
  all_goals (
    refine bodyPost_ret (results_ref2 rfl _ _ _ _ _ _ _ _ rfl (fin3 (kp2 HB2b.out HK3.out HB3n.out.2.1))) rfl ?_
    exact ⟨D', _, _, by rw [HRV'.out]; rfl, HC3.out.fin3 (kp2 HB2b.out HK3.out HB3n.out.2.1), (HR2.out.kp HK3.out HC2.out.types.1 HC2.out.types.2.1 HC2.out.types.2.2 HLR.out).fin3 (kp2 HB2b.out HK3.out HB3n.out.2.1), Kp.fin3 ((Kp.of_new HG2.out).trans HK3.out) (by omega), HD'.out.1, HD'.out.2.1, HD'.out.2.2⟩)
set_option maxHeartbeats 1000000 in
theorem step3 (hc : IsD w lo b gL gH D) (hr : RefAt lr w D vL vH) (hlr : gH < lr) (hlw : lr ≤ w.heap.size) (kind : Int) (hk0 : ¬ kind = 0) (hk1 : ¬ kind = 1) (hk2 : ¬ kind = 2) (hand n : Int) (hn : i32in n) :
    Calls Try.prog 11 #[.pointer (some ⟨b, 0, none⟩), refV D vL vH, actV kind hand n] w (StepPost w lo b gL gH lr D) := by
  have hlt := hc.lts
  have HHr := Lib.hid hr
  obtain ⟨bH, oH, cH, rfl, _⟩ := hr.h
  obtain ⟨A, c, rfl, _⟩ := hr.l
  unfold actV
  obtain ⟨L, HL⟩ : ∃ L, Hid (D.l.length = L) := ⟨_, Lib.hid rfl⟩
  obtain ⟨M, HM⟩ : ∃ M, Hid (D.hs.length = M) := ⟨_, Lib.hid rfl⟩
  obtain ⟨N, HN⟩ : ∃ N, Hid (D.N = N) := ⟨_, Lib.hid rfl⟩
  have HRV : Hid (refV D (.slice A D.l.length c) (.slice (some ⟨bH, oH, none⟩) D.hs.length cH) = .agg #[.int .i64 (N : Int), .slice A L c, .slice (some ⟨bH, oH, none⟩) M cH]) := Lib.hid (by unfold refV; rw [HL.out, HM.out, HN.out])
  rw [HRV.out]
  obtain ⟨hg0, hz0, b0, b1, b2⟩ := alloc3 w (.cells #[.int .i64 (N : Int), .slice A L c, .slice (some ⟨bH, oH, none⟩) M cH] 32) (.cells #[.int .i64 kind, .int .i64 hand, .int .i32 n] 35) (.cells #[.int .i64 0, .slice none 0 0, .slice none 0 0] 32)
  have HC := Lib.hid hc
  have HG0 := Lib.hid hg0
  have HB1 := Lib.hid b1
  have HB2 := Lib.hid b2
  have HLW := Lib.hid hlw
  have HLR := Lib.hid hlr
  obtain ⟨c00, c01, c02, _, _, _, l0⟩ := cells3 b0
  obtain ⟨c10, c11, c12, _, _, _, l1⟩ := cells3 b1
  clear hc hr hg0 b0 b1 b2 hlw hlr
  have hq0 : (kind == 0) = false := by simp [hk0]
  have hq1 : (kind == 1) = false := by simp [hk1]
  have hq2 : (kind == 2) = false := by simp [hk2]
  clear hk0 hk1 hk2
  go_enter Try.func11, Try.ntmps11
  go_wp2_with fail
  have HR0 := Lib.hid (HHr.out.kept HG0.out)
  have HC0 := Lib.hid (HC.out.kept HG0.out)
  generalize ((w.alloc (.cells #[.int .i64 (N : Int), .slice A L c, .slice (some ⟨bH, oH, none⟩) M cH] 32)).alloc (.cells #[.int .i64 kind, .int .i64 hand, .int .i32 n] 35)).alloc (.cells #[.int .i64 0, .slice none 0 0, .slice none 0 0] 32) = w0 at *
  have hp := pt_both HC0.out HR0.out hand n hn
  rw [HRV.out] at hp
  refine hp.mono ?_
  rintro e w1 ⟨cd, D', vL', vH', rfl, hR1, hg1, hcall, hl1', hh1', hn1'⟩
  have HR1 := Lib.hid hR1
  have HCall := Lib.hid hcall
  have HD' := Lib.hid (And.intro hl1' (And.intro hh1' hn1'))
  obtain ⟨bH', oH', cH', rfl, _⟩ := hR1.h
  obtain ⟨A', c', rfl, _⟩ := hR1.l
  obtain ⟨L', HL'⟩ : ∃ L, Hid (D'.l.length = L) := ⟨_, Lib.hid rfl⟩
  obtain ⟨M', HM'⟩ : ∃ M, Hid (D'.hs.length = M) := ⟨_, Lib.hid rfl⟩
  obtain ⟨N', HN'⟩ : ∃ N, Hid (D'.N = N) := ⟨_, Lib.hid rfl⟩
  have HRV' : Hid (refV D' (.slice A' D'.l.length c') (.slice (some ⟨bH', oH', none⟩) D'.hs.length cH') = .agg #[.int .i64 (N' : Int), .slice A' L' c', .slice (some ⟨bH', oH', none⟩) M' cH']) := Lib.hid (by unfold refV; rw [HL'.out, HM'.out, HN'.out])
  rw [HRV'.out]
  have HG1 := Lib.hid (grown_trans HG0.out hg1)
  have HB1a := Lib.hid (kept2 HB1.out hg1)
  have HB2a := Lib.hid (kept2 HB2.out hg1)
  have HC1 := Lib.hid (HC0.out.kept hg1)
  have hl1 : w.heap.size + 3 ≤ w1.heap.size := by have := hg1.size; omega
  clear hp hR1 hcall hl1' hh1' hn1' hg1 c00 c01 c02 l0 c10 c11 c12 l1 HB1 HB2 HG0 HC0 HR0 hz0
  have hga := World.grownBy_alloc w1 (.cells #[.int .i64 (N' : Int), .slice A' L' c', .slice (some ⟨bH', oH', none⟩) M' cH'] 32) none
  have HG2 := Lib.hid (grown_trans HG1.out hga)
  have HB1b := Lib.hid (kept2 HB1a.out hga)
  have HB2b := Lib.hid (kept2 HB2a.out hga)
  have HB3b := Lib.hid (heap_alloc_new w1 (.cells #[.int .i64 (N' : Int), .slice A' L' c', .slice (some ⟨bH', oH', none⟩) M' cH'] 32))
  have HC2 := Lib.hid (HC1.out.kept hga)
  have HR2 := Lib.hid (HR1.out.kept hga)
  obtain ⟨B3, HB3e⟩ : ∃ B3, Hid (w1.heap.size = B3) := ⟨_, Lib.hid rfl⟩
  rw [HB3e.out] at HB3b hl1
  have HB3n : Hid ((w.heap.size + 1 ≠ b ∧ w.heap.size + 1 ≠ gL ∧ w.heap.size + 1 ≠ gH) ∧ (w.heap.size + 2 ≠ b ∧ w.heap.size + 2 ≠ gL ∧ w.heap.size + 2 ≠ gH) ∧ (B3 ≠ b ∧ B3 ≠ gL ∧ B3 ≠ gH)) := Lib.hid (by omega)
  clear HG1 HB1a HB2a HC1 HR1 hga
  go_wp2_with fail
  rw [HB3e.out]
  generalize w1.alloc (.cells #[.int .i64 (N' : Int), .slice A' L' c', .slice (some ⟨bH', oH', none⟩) M' cH'] 32) = w2 at *
  have HCd : Hid (Calls Try.prog 23 #[.pointer (some ⟨b, 0, none⟩), .int .i64 hand, .int .i32 n] w2.drew fun e w3 => e = .returned (.int .i64 cd) ∧ Hid (IsD w3 lo b gL gH D') ∧ Hid (Kp b gL gH w2 w3)) := Lib.hid (by
    refine (HCall.out w2.drew (HC2.out.kept (grown_drewN w2 1 none))).mono ?_
    rintro e w3 ⟨rfl, h1, h2⟩
    exact ⟨rfl, Lib.hid h1, Lib.hid ((Kp.of_new (grown_drewN w2 1 none)).trans h2)⟩)
  obtain ⟨c10, c11, c12, _, _, _, _⟩ := cells3 HB1b.out
  obtain ⟨c30, c31, c32, _, _, _, l3⟩ := cells3 HB3b.out
  clear HCall
  have hcc : (cd == cd) = true := by simp
  have hb32 : B3 ≠ w.heap.size + 1 + 1 := by omega
  have hb33 : w.heap.size + 1 + 1 ≠ B3 := by omega
  go_region_held3 (fun w' => w'.cell? ⟨B3, 0, none⟩ = some (.int .i64 (N' : Int)) ∧ w'.cell? ⟨B3, 1, none⟩ = some (.slice A' L' c') ∧ w'.cell? ⟨B3, 2, none⟩ = some (.slice (some ⟨bH', oH', none⟩) M' cH') ∧ w'.cell? ⟨w.heap.size + 1, 1, none⟩ = some (.int .i64 hand) ∧ w'.cell? ⟨w.heap.size + 1, 2, none⟩ = some (.int .i32 n)) (first | exact ⟨c30, c31, c32, c11, c12⟩ | exact ⟨k30, k31, k32, k11, k12⟩ | go_keep)
    (first | (go_at_call 23; refine HCd.out.mono ?_; rintro e w3 ⟨rfl, HC3, HK3⟩; obtain ⟨k30, k31, k32, _, _, _, _⟩ := cells3 (kp2 HB3b.out HK3.out HB3n.out.2.2); obtain ⟨_, k11, k12, _, _, _, _⟩ := cells3 (kp2 HB1b.out HK3.out HB3n.out.1); obtain ⟨k20, k21, k22, m20, m21, m22, n2⟩ := cells3 (kp2 HB2b.out HK3.out HB3n.out.2.1)))
  all_goals go_wp2
  all_goals (
    refine bodyPost_ret (results_ref2 rfl _ _ _ _ _ _ _ _ rfl (fin3 (kp2 HB2b.out HK3.out HB3n.out.2.1))) rfl ?_
    exact ⟨D', _, _, by rw [HRV'.out]; rfl, HC3.out.fin3 (kp2 HB2b.out HK3.out HB3n.out.2.1), (HR2.out.kp HK3.out HC2.out.types.1 HC2.out.types.2.1 HC2.out.types.2.2 HLR.out).fin3 (kp2 HB2b.out HK3.out HB3n.out.2.1), Kp.fin3 ((Kp.of_new HG2.out).trans HK3.out) (by omega), HD'.out.1, HD'.out.2.1, HD'.out.2.2⟩)
end
end Go.Proofs.Ytjligfgaahcogaa
