/-
  The walk of the law that what any acts make of a dial is as the document says.
-/
import Derived.Test.YtjligfgaahcogaaActs
import Derived.Test.YtjligfgaahcogaaStands
namespace Go.Proofs.Ytjligfgaahcogaa
open Go.ChangeShapes Go.WideShapes Go.ChangeAt Go.RowKit
set_option linter.unusedVariables false
set_option maxRecDepth 100000

section
variable {w : World} {D : Dl} {lo b gL gH lr : Nat} {vL vH : Value}
/-- an act of any kind -/
theorem step_at (hc : IsD w lo b gL gH D) (hr : RefAt lr w D vL vH) (hlr : gH < lr) (hlw : lr ≤ w.heap.size) (v : ActV) (hv : v.ok) :
    Calls Try.prog 11 #[.pointer (some ⟨b, 0, none⟩), refV D vL vH, actV v.kind v.hand v.n] w (StepPost w lo b gL gH lr D) := by
  have hn := hv.n32
  obtain ⟨kind, hand, n⟩ := v
  simp only at hn ⊢
  by_cases hk0 : kind = 0
  · subst hk0; exact step0 hc hr hlr hlw hand n hn
  · by_cases hk1 : kind = 1
    · subst hk1; exact step1 hc hr hlr hlw hand n hn
    · by_cases hk2 : kind = 2
      · subst hk2; exact step2 hc hr hlr hlw hand n hn
      · exact step3 hc hr hlr hlw kind hk0 hk1 hk2 hand n hn
end
/-- what holds between two acts -/
structure PI (w : World) (lo b gL gH lr B N M k : Nat) (D : Dl) (vL vH : Value) (W : World) : Prop where
  ch : IsD W lo b gL gH D
  ref : RefAt lr W D vL vH
  box : W.heap[B]? = some (.cells #[.int .i64 (N : Int), vL, vH] 32 (0, 0))
  n : D.N = N
  hs : D.hs.length = M
  few : D.l.length ≤ k
  grown : w.grownBy W none
  lrw : lr ≤ W.heap.size
theorem PI.grow {w : World} {lo b gL gH lr B N M k : Nat} {D : Dl} {vL vH : Value} {W W' : World} (h : PI w lo b gL gH lr B N M k D vL vH W) (hg : W.grownBy W' none) : PI w lo b gL gH lr B N M k D vL vH W' :=
  ⟨h.ch.kept hg, h.ref.kept hg, kept2 h.box hg, h.n, h.hs, h.few, grown_trans h.grown hg, Nat.le_trans h.lrw hg.size⟩
theorem refV_eq {D : Dl} {vL vH : Value} {N : Nat} (h : D.N = N) : refV D vL vH = .agg #[.int .i64 (N : Int), vL, vH] := by unfold refV; rw [h]
set_option maxHeartbeats 1000000 in
theorem plays_walk (N M : Nat) (A : Option Addr) (len cap : Nat) (acts : List ActV) (w : World) (hN : N ≤ 65536) (hM1 : 1 ≤ M) (hM8 : M ≤ 8) (hlen : acts.length = len) (hok : ∀ a ∈ acts, a.ok) (hr : ActsAt w A acts) (h100 : len ≤ 100) :
    Calls Try.prog 3 #[.int .i64 (N : Int), .int .i64 (M : Int), .slice A len cap] w fun e w' => e = .returned (.bool true) ∧ w.grownBy w' none := by
  have hd : decide (100 < (len : Int)) = false := by simp; omega
  have hd' : decide (100 < len) = false := by simp; omega
  have c0 := new_is N M w hN hM1 hM8
  have HC0 := Lib.hid c0
  have c1 : ∀ w', Calls Try.prog 8 #[.int .i64 (N : Int), .int .i64 (M : Int)] w' fun e w'' => e = .returned (.bool true) ∧ w' = w'' := fun w' => by
    have := may_ref (N : Int) (M : Int) w'
    rw [show decide (0 ≤ (N : Int) ∧ (N : Int) ≤ 65536 ∧ 1 ≤ (M : Int) ∧ (M : Int) ≤ 8) = true by simp; omega] at this
    exact this
  have HC1 := Lib.hid c1
  have c2 := fun lo w' => rnew_at N M lo w' hM1 hM8
  have HC2 := Lib.hid c2
  have Hlen := Lib.hid hlen
  have HOK := Lib.hid hok
  have HA := Lib.hid hr
  clear hlen hok hr c0 c1 c2
  go_enter Try.func3, Try.ntmps3
  go_wp2_with fail
  refine HC0.out.mono ?_
  rintro e w1 ⟨gL, gH, rfl, hs, hg, hzz⟩
  clear hzz
  have HG1 := Lib.hid hg
  have HS1 := Lib.hid hs
  have HLo := Lib.hid hs.los
  have HLt := Lib.hid hs.lts
  clear hs hg HC0
  go_wp2_with fail
  refine (HC1.out w1).mono ?_
  rintro e w' ⟨rfl, rfl⟩
  go_wp2_with fail
  obtain ⟨lr, Hlr⟩ : ∃ lr, Hid (w1.heap.size = lr) := ⟨_, Lib.hid rfl⟩
  refine (HC2.out lr w1).mono ?_
  rintro e w2 ⟨vL, vH, rfl, hR, hg⟩
  have HG2 := Lib.hid (grown_trans HG1.out hg)
  have HS2 := Lib.hid (HS1.out.kept hg)
  have HR2 := Lib.hid hR
  have hBge : w1.heap.size ≤ w2.heap.size := hg.size
  have HLR : Hid (gH < lr) := Lib.hid (by rw [← Hlr.out]; exact HLt.out.2.2)
  obtain ⟨bH, oH, cH, rfl, _⟩ := hR.h
  obtain ⟨Al, cl, rfl, _⟩ := hR.l
  clear hg hR HC1 HC2 HG1 HS1
  rw [refV_eq (show (Dl.new N M).N = N from rfl)]
  go_wp2_with fail
  obtain ⟨B, HB⟩ : ∃ B, Hid (w2.heap.size = B) := ⟨_, Lib.hid rfl⟩
  have HBgt : Hid (w.heap.size + 2 < B ∧ gL < B ∧ gH < B) := Lib.hid (by have := HLt.out; rw [← HB.out]; omega)
  have HP0 : Hid (∃ vL vH, PI w w.heap.size (w.heap.size + 2) gL gH lr B N M 0 (Dl.new N M) vL vH (w2.alloc (.cells #[.int .i64 (N : Int), .slice Al (Dl.new N M).l.length cl, .slice (some ⟨bH, oH, none⟩) (Dl.new N M).hs.length cH] 32))) := Lib.hid (by
    have hga := World.grownBy_alloc w2 (.cells #[.int .i64 (N : Int), .slice Al (Dl.new N M).l.length cl, .slice (some ⟨bH, oH, none⟩) (Dl.new N M).hs.length cH] 32) none
    refine ⟨_, _, HS2.out.kept hga, HR2.out.kept hga, by rw [← HB.out]; exact heap_alloc_new w2 _, rfl, by simp [Dl.new], Nat.le_refl _, grown_trans HG2.out hga, ?_⟩
    rw [← Hlr.out]
    exact Nat.le_trans hBge hga.size)
  rw [HB.out]
  clear HG2 HS2 HR2 HB hBge HLt
  generalize w2.alloc (.cells #[.int .i64 (N : Int), .slice Al (Dl.new N M).l.length cl, .slice (some ⟨bH, oH, none⟩) (Dl.new N M).hs.length cH] 32) = w3 at *
  go_loopw [49] (fun k wr => ∃ (k' : Nat) (D : Dl) (vL vH : Value), k' ≤ len ∧ k = .int .i64 (k' : Int) ∧ Hid (PI w w.heap.size (w.heap.size + 2) gL gH lr B N M k' D vL vH wr)) (fun k _ => len - (intOf k).toNat)
  case atStart =>
    obtain ⟨vL, vH, hp⟩ := HP0.out
    exact ⟨0, _, vL, vH, by omega, by go_num, Lib.hid hp⟩
  case round =>
    obtain ⟨k, D, vL, vH, hk, rfl, HP⟩ := hrel
    clear HP0
    obtain ⟨bH, oH, cH, rfl, _⟩ := HP.out.ref.h
    obtain ⟨Al, cl, rfl, _⟩ := HP.out.ref.l
    obtain ⟨L, HL⟩ : ∃ L, Hid (D.l.length = L) := ⟨_, Lib.hid rfl⟩
    obtain ⟨M0, HM0⟩ : ∃ M0, Hid (D.hs.length = M0) := ⟨_, Lib.hid rfl⟩
    rw [HL.out, HM0.out] at HP
    by_cases hlt : k < len
    · obtain ⟨v, Hv⟩ : ∃ v, Hid (acts[k]? = some v) := ⟨_, Lib.hid (List.getElem?_eq_getElem (by rw [Hlen.out]; exact hlt))⟩
      obtain ⟨b1, o1, rfl, hb1, a0, a1, a2⟩ := (HA.out.kept HP.out.grown).some Hv.out
      have hvok := HOK.out v (List.mem_of_getElem? Hv.out)
      have hn32 := Lib.hid hvok.n32
      -- the act's box
      have hga := World.grownBy_alloc wr (.cells #[.int .i64 v.kind, .int .i64 v.hand, .int .i32 v.n] 35) none
      obtain ⟨Ba, HBa⟩ : ∃ Ba, Hid (wr.heap.size = Ba) := ⟨_, Lib.hid rfl⟩
      have hst := step_at (HP.out.ch.kept hga) (HP.out.ref.kept hga) HLR.out (Nat.le_trans HP.out.lrw hga.size) v hvok
      rw [refV_eq HP.out.n] at hst
      unfold actV at hst
      have HST := Lib.hid hst
      have HBX4 := Lib.hid (kept2 HP.out.box hga)
      have HBA4 := Lib.hid (heap_alloc_new wr (.cells #[.int .i64 v.kind, .int .i64 v.hand, .int .i32 v.n] 35))
      have HG4 := Lib.hid (grown_trans HP.out.grown hga)
      have HLW4 := Lib.hid (Nat.le_trans HP.out.lrw hga.size)
      have HF4 := Lib.hid HP.out.few
      have HNM := Lib.hid (And.intro HP.out.n HP.out.hs)
      obtain ⟨c00, c01, c02, _, _, _, l0⟩ := cells3 HP.out.box
      have hBlt := (Array.getElem?_eq_some_iff.1 HP.out.box).1
      have HBB : Hid (B < Ba) := Lib.hid (by rw [← HBa.out]; exact hBlt)
      have hkI : (k : Int) < (len : Int) := by omega
      clear hvok hst hga
      go_wp2_with fail
      rw [HBa.out] at HBA4 ⊢
      refine HST.out.mono ?_
      rintro e w5 ⟨D', vL', vH', rfl, hch, href, hkp, hfew, hhs', hn'⟩
      have hltA := HBB.out
      have hgt := HBgt.out
      have hlo := HLo.out
      have hb9 := kp2 HBX4.out hkp (by omega)
      have hb11 := kp2 HBA4.out hkp (by omega)
      have hg5 := Kp.grown HG4.out hkp (by omega) (by omega) (by omega)
      have hDN : D'.N = N := hn'.trans HNM.out.1
      have hDM : D'.hs.length = M := hhs'.trans HNM.out.2
      have hfew' : D'.l.length ≤ k + 1 := by have := HF4.out; omega
      have hlw5 : lr ≤ w5.heap.size := Nat.le_trans HLW4.out hkp.size
      obtain ⟨bH', oH', cH', rfl, _⟩ := href.h
      obtain ⟨Al', cl', rfl, _⟩ := href.l
      obtain ⟨L', HL'⟩ : ∃ L, Hid (D'.l.length = L) := ⟨_, Lib.hid rfl⟩
      rw [HL'.out, hDM] at href
      rw [refV_eq hDN, HL'.out, hDM]
      have hga := World.grownBy_alloc w5 (.cells #[.int .i64 (N : Int), .slice Al' L' cl', .slice (some ⟨bH', oH', none⟩) M cH'] 32) none
      have hb9' := kept2 hb9 hga
      have HP7 : Hid (PI w w.heap.size (w.heap.size + 2) gL gH lr B N M (k + 1) D' (.slice Al' L' cl') (.slice (some ⟨bH', oH', none⟩) M cH') ((((w5.alloc (.cells #[.int .i64 (N : Int), .slice Al' L' cl', .slice (some ⟨bH', oH', none⟩) M cH'] 32)).setCell ⟨B, 0, none⟩ (.int .i64 (N : Int))).setCell ⟨B, 1, none⟩ (.slice Al' L' cl')).setCell ⟨B, 2, none⟩ (.slice (some ⟨bH', oH', none⟩) M cH'))) :=
        Lib.hid ⟨(hch.kept hga).fin3 hb9', (href.kept hga).fin3 hb9', fin3 hb9', hDN, hDM, hfew', fin3g (grown_trans hg5 hga) (by omega), by simp; omega⟩
      have HBA7 : Hid (((((w5.alloc (.cells #[.int .i64 (N : Int), .slice Al' L' cl', .slice (some ⟨bH', oH', none⟩) M cH'] 32)).setCell ⟨B, 0, none⟩ (.int .i64 (N : Int))).setCell ⟨B, 1, none⟩ (.slice Al' L' cl')).setCell ⟨B, 2, none⟩ (.slice (some ⟨bH', oH', none⟩) M cH')).heap[Ba]? = _) :=
        Lib.hid ((heap_setCell_other _ _ _ _ (by simp only; omega)).trans ((heap_setCell_other _ _ _ _ (by simp only; omega)).trans ((heap_setCell_other _ _ _ _ (by simp only; omega)).trans (kept2 hb11 hga))))
      obtain ⟨d0, d1, d2, d3, d4, d5, _⟩ := cells3 hb9'
      obtain ⟨e0, e1, e2, _, _, _, _⟩ := cells3 HBA7.out
      obtain ⟨x0, x1, x2, _, _, _, x4⟩ := cells3 HP7.out.box
      clear hb9 hb11 hg5 hga hb9' hch href hkp hfew hhs' hn' c00 c01 c02 l0 hBlt a0 a1 a2 hb1 HST HBX4 HBA4 HG4 HP hlo hfew' hDN hDM hlw5 HLW4 HF4 HNM
      go_wp2_with fail
      generalize (((w5.alloc (.cells #[.int .i64 (N : Int), .slice Al' L' cl', .slice (some ⟨bH', oH', none⟩) M cH'] 32)).setCell ⟨B, 0, none⟩ (.int .i64 (N : Int))).setCell ⟨B, 1, none⟩ (.slice Al' L' cl')).setCell ⟨B, 2, none⟩ (.slice (some ⟨bH', oH', none⟩) M cH') = w7 at *
      clear d0 d1 d2 d3 d4 d5 e0 e1 e2 x0 x1 x2 x4
      have ca := stands_at HP7.out.ch HP7.out.ref (by have := HP7.out.few; omega) v.hand v.n hn32.out
      rw [refV_eq HP7.out.n] at ca
      refine ca.mono ?_
      rintro e w8 ⟨rfl, hg8⟩
      have HP8 := Lib.hid (HP7.out.grow hg8)
      have HBA8 := Lib.hid (kept2 HBA7.out hg8)
      obtain ⟨e0, e1, e2, _, _, _, _⟩ := cells3 HBA8.out
      obtain ⟨x0, x1, x2, _, _, _, x4⟩ := cells3 HP8.out.box
      clear ca hg8 HP7 HBA7
      go_wp2_with fail
      clear e0 e1 e2 x0 x1 x2 x4
      have ca := stands_at HP8.out.ch HP8.out.ref (by have := HP8.out.few; omega) 0 v.n hn32.out
      rw [refV_eq HP8.out.n] at ca
      refine ca.mono ?_
      rintro e w9 ⟨rfl, hg9⟩
      have HP9 := Lib.hid (HP8.out.grow hg9)
      clear ca hg9 HP8 HBA8
      go_wp2
      go_roundw
      · exact ⟨k + 1, D', _, _, by omega, by go_num, HP9⟩
      · simp only [intOf]; omega
    · obtain rfl : k = len := by omega
      have hlt' : ¬ ((k : Int) < (k : Int)) := by omega
      go_wp2
      have HPk := HP
      clear HP
      go_loopw [14] (fun i wr => ∃ i' : Nat, i' ≤ M + 2 ∧ i = .int .i64 ((i' : Int) - 1) ∧ Hid (PI w w.heap.size (w.heap.size + 2) gL gH lr B N M k D (.slice Al L cl) (.slice (some ⟨bH, oH, none⟩) M0 cH) wr)) (fun i _ => M + 2 - (intOf i + 1).toNat)
      case atStart => exact ⟨0, by omega, by go_num, HPk⟩
      case round =>
        obtain ⟨i, hi, rfl, HP⟩ := hrel
        by_cases hil : i < M + 2
        · have hile : ((i : Int) - 1) ≤ (M : Int) := by omega
          obtain ⟨x0, x1, x2, _, _, _, x4⟩ := cells3 HP.out.box
          go_wp2_with fail
          clear x0 x1 x2 x4
          have ca := stands_at HP.out.ch HP.out.ref (by have := HP.out.few; omega) ((i : Int) - 1) 0 (by constructor <;> omega)
          rw [refV_eq HP.out.n] at ca
          refine ca.mono ?_
          rintro e w10 ⟨rfl, hg8⟩
          have HP10 := Lib.hid (HP.out.grow hg8)
          clear ca hg8 HP
          go_wp2
          go_roundw
          · exact ⟨i + 1, by omega, by go_num, HP10⟩
          · simp only [intOf]; omega
        · have hile : ¬ (((i : Int) - 1) ≤ (M : Int)) := by omega
          go_wp2_with fail
          refine (alive_any _).mono ?_
          rintro e w11 ⟨rfl, hg11⟩
          go_wp2
          go_ret
          exact ⟨rfl, grown_trans HP.out.grown hg11⟩
set_option maxHeartbeats 4000000 in
theorem plays_long (N M : Nat) (A : Option Addr) (len cap : Nat) (w : World) (hN : N ≤ 65536) (hM1 : 1 ≤ M) (hM8 : M ≤ 8) (h100 : 100 < len) :
    Calls Try.prog 3 #[.int .i64 (N : Int), .int .i64 (M : Int), .slice A len cap] w fun e w' => e = .returned (.bool true) ∧ w.grownBy w' none := by
  have hd : decide (100 < (len : Int)) = true := by simp; omega
  have hd' : decide (100 < len) = true := by simp; omega
  have c0 := new_is N M w hN hM1 hM8
  have HC0 := Lib.hid c0
  have c1 : ∀ w', Calls Try.prog 8 #[.int .i64 (N : Int), .int .i64 (M : Int)] w' fun e w'' => e = .returned (.bool true) ∧ w' = w'' := fun w' => by
    have := may_ref (N : Int) (M : Int) w'
    rw [show decide (0 ≤ (N : Int) ∧ (N : Int) ≤ 65536 ∧ 1 ≤ (M : Int) ∧ (M : Int) ≤ 8) = true by simp; omega] at this
    exact this
  have HC1 := Lib.hid c1
  clear c0 c1
  go_enter Try.func3, Try.ntmps3
  go_wp2_with fail
  refine HC0.out.mono ?_
  rintro e w1 ⟨gL, gH, rfl, hs, hg, _⟩
  have HG1 := Lib.hid hg
  clear hs hg HC0
  go_wp2_with fail
  refine (HC1.out w1).mono ?_
  rintro e w' ⟨rfl, rfl⟩
  go_wp2_with fail
  refine (alive_any _).mono ?_
  rintro e w11 ⟨rfl, hg11⟩
  go_wp2
  go_ret
  exact ⟨rfl, grown_trans HG1.out hg11⟩
set_option maxHeartbeats 4000000 in
theorem plays_no (n m : Int) (A : Option Addr) (len cap : Nat) (w : World) (h : n < 0 ∨ 65536 < n ∨ m < 1 ∨ 8 < m) :
    Calls Try.prog 3 #[.int .i64 n, .int .i64 m, .slice A len cap] w fun e w' => e = .returned (.bool true) ∧ w.grownBy w' none := by
  have HC0 := Lib.hid (new_no n m w h)
  have c1 : Calls Try.prog 8 #[.int .i64 n, .int .i64 m] w fun e w'' => e = .returned (.bool false) ∧ w = w'' := by
    have := may_ref n m w
    rw [show decide (0 ≤ n ∧ n ≤ 65536 ∧ 1 ≤ m ∧ m ≤ 8) = false by simp; omega] at this
    exact this
  have HC1 := Lib.hid c1
  clear c1
  go_enter Try.func3, Try.ntmps3
  go_wp2_with fail
  refine HC0.out.mono ?_
  rintro e w1 ⟨rfl, rfl⟩
  go_wp2_with fail
  refine HC1.out.mono ?_
  rintro e w' ⟨rfl, rfl⟩
  go_wp2_with fail
  refine (alive_any _).mono ?_
  rintro e w11 ⟨rfl, hg11⟩
  go_wp2
  go_ret
  exact ⟨rfl, hg11⟩
/-- the law holds of every input -/
theorem plays_any (n m : Int) (A : Option Addr) (len cap : Nat) (acts : List ActV) (w : World) (hlen : acts.length = len) (hok : ∀ a ∈ acts, a.ok) (hr : ActsAt w A acts) :
    Calls Try.prog 3 #[.int .i64 n, .int .i64 m, .slice A len cap] w fun e w' => e = .returned (.bool true) ∧ w.grownBy w' none := by
  by_cases h : n < 0 ∨ 65536 < n ∨ m < 1 ∨ 8 < m
  · exact plays_no n m A len cap w h
  · obtain ⟨N, rfl⟩ : ∃ N : Nat, n = N := ⟨n.toNat, by omega⟩
    obtain ⟨M, rfl⟩ : ∃ M : Nat, m = M := ⟨m.toNat, by omega⟩
    by_cases h1 : len ≤ 100
    · exact plays_walk N M A len cap acts w (by omega) (by omega) (by omega) hlen hok hr h1
    · exact plays_long N M A len cap w (by omega) (by omega) (by omega) (by omega)
end Go.Proofs.Ytjligfgaahcogaa
