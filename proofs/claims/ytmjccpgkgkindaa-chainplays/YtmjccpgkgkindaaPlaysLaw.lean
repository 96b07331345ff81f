/-
  The walk of the law that what any acts make of chains is as the document says.
-/
import Derived.Test.YtmjccpgkgkindaaActs
import Derived.Test.YtmjccpgkgkindaaNeigh
import Derived.Test.YtmjccpgkgkindaaLists
namespace Go.Proofs.Ytmjccpgkgkindaa
open Go.ChangeShapes Go.WideShapes Go.ChangeAt Go.RowKit
set_option linter.unusedVariables false
set_option maxRecDepth 100000

section
variable {w : World} {C : Ch} {lo b gL gN rb rcap : Nat} {rows : Nat → Value}
/-- an act of any kind -/
theorem step_at (hc : IsCh w lo b gL gN C) (hr : RefAt w C rb rcap rows) (v : ActV) (hv : v.ok) :
    Calls Try.prog 11 #[.pointer (some ⟨b, 0, none⟩), refV C rb rcap, actV v.kind v.list v.n v.a] w (StepPost w lo b gL gN C) := by
  have hn := hv.n32
  have ha := hv.a32
  obtain ⟨kind, list, n, a⟩ := v
  simp only at hn ha ⊢
  have hent : C.enter list n = 0 → ∃ i x : Nat, list = (i : Int) ∧ n = (x : Int) ∧ i < C.ls.length ∧ x < C.N ∧ C.free x := by
    intro h0
    unfold Ch.enter at h0
    cases hl : inN C.ls.length list with
    | false => rw [hl] at h0; simp at h0
    | true =>
      cases hi : inN C.N n with
      | false => rw [hl, hi] at h0; simp at h0
      | true =>
        obtain ⟨i, rfl, hi'⟩ := in_cases hl
        obtain ⟨x, rfl, hx'⟩ := in_cases hi
        refine ⟨i, x, rfl, rfl, hi', hx', Ch.has_free.1 ?_⟩
        cases hh : C.has (x : Int) with
        | false => rfl
        | true => rw [hl, hi, hh] at h0; simp at h0
  by_cases hk0 : kind = 0
  · subst hk0
    by_cases he : C.enter list n = 0
    · obtain ⟨i, x, rfl, rfl, hi, hx, hf⟩ := hent he
      exact step0_ok hc hr i x a hi hx hf
    · exact step0_er hc hr list n a hn he
  · by_cases hk1 : kind = 1
    · subst hk1
      by_cases he : C.enter list n = 0
      · obtain ⟨i, x, rfl, rfl, hi, hx, hf⟩ := hent he
        exact step1_ok hc hr i x a hi hx hf
      · exact step1_er hc hr list n a hn he
    · by_cases hk2 : kind = 2
      · subst hk2
        exact step2_at hc hr list n a hn ha
      · exact step3_at hc hr kind list n a hn ⟨hk0, hk1, hk2⟩
end
theorem ofI_le {C : Ch} {k : Nat} (h : ∀ i, (C.of i).length ≤ k) (list : Int) : (C.ofI list).length ≤ k := by
  unfold Ch.ofI
  split
  · exact h _
  · simp
/-- what holds between two acts -/
structure PI (w : World) (lo b gL gN B M k : Nat) (C : Ch) (rb rcap : Nat) (rows : Nat → Value) (W : World) : Prop where
  ch : IsCh W lo b gL gN C
  ref : RefAt W C rb rcap rows
  box : W.heap[B]? = some (.cells #[.int .i64 (C.N : Int), .slice (some ⟨rb, 0, none⟩) M rcap] 31 (0, 0))
  len : C.ls.length = M
  few : ∀ i, (C.of i).length ≤ k
  grown : w.grownBy W none
theorem PI.grow {w : World} {lo b gL gN B M k : Nat} {C : Ch} {rb rcap : Nat} {rows : Nat → Value} {W W' : World} (h : PI w lo b gL gN B M k C rb rcap rows W) (hg : W.grownBy W' none) : PI w lo b gL gN B M k C rb rcap rows W' :=
  ⟨h.ch.kept hg, h.ref.kept hg, kept2 h.box hg, h.len, h.few, grown_trans h.grown hg⟩
set_option maxHeartbeats 4000000 in
theorem plays_walk (N M : Nat) (A : Option Addr) (len cap : Nat) (acts : List ActV) (w : World) (hN : N ≤ 65536) (hM1 : 1 ≤ M) (hM8 : M ≤ 8) (hlen : acts.length = len) (hok : ∀ a ∈ acts, a.ok) (hr : ActsAt w A acts) (h100 : len ≤ 100) :
    Calls Try.prog 3 #[.int .i64 (N : Int), .int .i64 (M : Int), .slice A len cap] w fun e w' => e = .returned (.bool true) ∧ w.grownBy w' none := by
  have hd : decide (100 < (len : Int)) = false := by simp; omega
  have hd' : decide (100 < len) = false := by simp; omega
  have c0 := new_is N M w hN hM1 hM8
  have HC0 := Lib.hid c0
  have c1 : ∀ w', Calls Try.prog 8 #[.int .i64 (N : Int), .int .i64 (M : Int)] w' fun e w'' => e = .returned (.bool true) ∧ w' = w'' := fun w' => by
    have := may_ref (N : Int) (M : Int) w'
    rw [show decide (0 ≤ (N : Int) ∧ (N : Int) ≤ 65536 ∧ 1 ≤ (M : Int) ∧ (M : Int) ≤ 8) = true by simp; omega] at this
    exact this
  have HC1 := Lib.hid c1
  have c2 := fun w' => newref_at N M w' hM1 hM8
  have HC2 := Lib.hid c2
  have Hlen := Lib.hid hlen
  have HOK := Lib.hid hok
  have HA := Lib.hid hr
  clear hlen hok hr c0 c1 c2
  go_enter Try.func3, Try.ntmps3
  go_wp2_with fail
  refine HC0.out.mono ?_
  rintro e w1 ⟨gL, gN, rfl, hs, hg⟩
  have HG1 := Lib.hid hg
  have HS1 := Lib.hid hs
  have HLo := Lib.hid hs.los
  have HLt := Lib.hid hs.lts
  clear hs hg HC0
  go_wp2_with fail
  refine (HC1.out w1).mono ?_
  rintro e w' ⟨rfl, rfl⟩
  go_wp2_with fail
  refine (HC2.out w1).mono ?_
  unfold refV
  rintro e w2 ⟨rb, rcap, rows, rfl, hR, hg⟩
  have HG2 := Lib.hid (grown_trans HG1.out hg)
  have HS2 := Lib.hid (HS1.out.kept hg)
  have HR2 := Lib.hid hR
  have hBge : w1.heap.size ≤ w2.heap.size := hg.size
  clear hg hR HC1 HC2 HG1 HS1
  simp only [List.length_replicate]
  go_wp2_with fail
  obtain ⟨B, HB⟩ : ∃ B, Hid (w2.heap.size = B) := ⟨_, Lib.hid rfl⟩
  have HBgt : Hid (w.heap.size + 2 < B ∧ gL < B ∧ gN < B) := Lib.hid (by have := HLt.out; rw [← HB.out]; omega)
  have HP0 : Hid (PI w w.heap.size (w.heap.size + 2) gL gN B M 0 ⟨N, List.replicate M []⟩ rb rcap rows (w2.alloc (.cells #[.int .i64 (N : Int), .slice (some ⟨rb, 0, none⟩) M rcap] 31))) := Lib.hid (by
    have hga := World.grownBy_alloc w2 (.cells #[.int .i64 (N : Int), .slice (some ⟨rb, 0, none⟩) M rcap] 31) none
    refine ⟨HS2.out.kept hga, HR2.out.kept hga, by rw [← HB.out]; exact heap_alloc_new w2 _, by simp, fun i => ?_, grown_trans HG2.out hga⟩
    unfold Ch.of
    rw [List.getD_eq_getElem?_getD, List.getElem?_replicate]
    split <;> simp)
  rw [HB.out]
  clear HG2 HS2 HR2 HB hBge HLt
  generalize w2.alloc (.cells #[.int .i64 (N : Int), .slice (some ⟨rb, 0, none⟩) M rcap] 31) = w3 at *
  go_loopw [49] (fun k wr => ∃ (k' : Nat) (C : Ch) (rb rcap : Nat) (rows : Nat → Value), k' ≤ len ∧ k = .int .i64 (k' : Int) ∧ Hid (PI w w.heap.size (w.heap.size + 2) gL gN B M k' C rb rcap rows wr)) (fun k _ => len - (intOf k).toNat)
  case atStart => exact ⟨0, _, rb, rcap, rows, by omega, by go_num, HP0⟩
  case round =>
    obtain ⟨k, C, rb, rcap, rows, hk, rfl, HP⟩ := hrel
    clear HP0
    by_cases hlt : k < len
    · obtain ⟨v, Hv⟩ : ∃ v, Hid (acts[k]? = some v) := ⟨_, Lib.hid (List.getElem?_eq_getElem (by rw [Hlen.out]; exact hlt))⟩
      obtain ⟨b1, o1, rfl, hb1, a0, a1, a2, a3⟩ := (HA.out.kept HP.out.grown).some Hv.out
      have hvok := HOK.out v (List.mem_of_getElem? Hv.out)
      have HVok := Lib.hid hvok
      have hn32 := Lib.hid hvok.n32
      have ha32 := Lib.hid hvok.a32
      -- the act's box
      have hga := World.grownBy_alloc wr (.cells #[.int .i64 v.kind, .int .i64 v.list, .int .i32 v.n, .int .i32 v.a] 34) none
      obtain ⟨Ba, HBa⟩ : ∃ Ba, Hid (wr.heap.size = Ba) := ⟨_, Lib.hid rfl⟩
      have hst := step_at (HP.out.ch.kept hga) (HP.out.ref.kept hga) v hvok
      unfold refV actV at hst
      rw [HP.out.len] at hst
      have HST := Lib.hid hst
      have HBX4 := Lib.hid (kept2 HP.out.box hga)
      have HBA4 := Lib.hid (heap_alloc_new wr (.cells #[.int .i64 v.kind, .int .i64 v.list, .int .i32 v.n, .int .i32 v.a] 34))
      have HG4 := Lib.hid (grown_trans HP.out.grown hga)
      obtain ⟨c00, c01, _, _, l0⟩ := cells2 HP.out.box
      have hBlt := (Array.getElem?_eq_some_iff.1 HP.out.box).1
      have HBB : Hid (B < Ba) := Lib.hid (by rw [← HBa.out]; exact hBlt)
      have hkI : (k : Int) < (len : Int) := by omega
      clear hvok hst hga
      go_wp2_with fail
      rw [HBa.out] at HBA4 ⊢
      refine HST.out.mono ?_
      rintro e w5 ⟨C', rb', rcap', rows', rfl, hch, href, hkp, hfew, hlen'⟩
      have hltA := HBB.out
      have hgt := HBgt.out
      have hlo := HLo.out
      have hb9 := kp2 HBX4.out hkp (by omega) (by omega)
      have hb11 := kp2 HBA4.out hkp (by omega) (by omega)
      have hg5 := Kp.grown HG4.out hkp (by omega) (by omega)
      have hlenM : C'.ls.length = M := hlen'.trans HP.out.len
      have hfew' : ∀ i, (C'.of i).length ≤ k + 1 := fun i => by have := hfew i; have := HP.out.few i; omega
      have hga := World.grownBy_alloc w5 (.cells #[.int .i64 (C'.N : Int), .slice (some ⟨rb', 0, none⟩) M rcap'] 31) none
      have hb9' := kept2 hb9 hga
      have HP7 : Hid (PI w w.heap.size (w.heap.size + 2) gL gN B M (k + 1) C' rb' rcap' rows' (((w5.alloc (.cells #[.int .i64 (C'.N : Int), .slice (some ⟨rb', 0, none⟩) M rcap'] 31)).setCell ⟨B, 0, none⟩ (.int .i64 (C'.N : Int))).setCell ⟨B, 1, none⟩ (.slice (some ⟨rb', 0, none⟩) M rcap'))) :=
        Lib.hid ⟨(hch.kept hga).set2 hb9', (href.kept hga).set2 hb9', fin2 hb9', hlenM, hfew', fin2g (grown_trans hg5 hga) (by omega)⟩
      have HBA7 : Hid ((((w5.alloc (.cells #[.int .i64 (C'.N : Int), .slice (some ⟨rb', 0, none⟩) M rcap'] 31)).setCell ⟨B, 0, none⟩ (.int .i64 (C'.N : Int))).setCell ⟨B, 1, none⟩ (.slice (some ⟨rb', 0, none⟩) M rcap')).heap[Ba]? = _) :=
        Lib.hid (((heap_setCell_other _ _ _ _ (by simp only; omega)).trans (heap_setCell_other _ _ _ _ (by simp only; omega))).trans (kept2 hb11 hga))
      obtain ⟨d0, d1, d2, d3, _⟩ := cells2 hb9'
      obtain ⟨e0, e1, e2, e3⟩ := cells4 HBA7.out
      obtain ⟨x0, x1, _, _, x4⟩ := cells2 HP7.out.box
      unfold refV
      rw [hlenM]
      clear hb9 hb11 hg5 hga hb9' hch href hkp hfew hlen' c00 c01 l0 hBlt a0 a1 a2 a3 hb1 HST HBX4 HBA4 HG4 HP hlo hfew'
      go_wp2_with fail
      generalize ((w5.alloc (.cells #[.int .i64 (C'.N : Int), .slice (some ⟨rb', 0, none⟩) M rcap'] 31)).setCell ⟨B, 0, none⟩ (.int .i64 (C'.N : Int))).setCell ⟨B, 1, none⟩ (.slice (some ⟨rb', 0, none⟩) M rcap') = w7 at *
      clear d0 d1 d2 d3 e0 e1 e2 e3 x0 x1 x4
      have ca := neigh_at HP7.out.ch HP7.out.ref v.n hn32.out
      unfold refV at ca
      rw [hlenM] at ca
      refine ca.mono ?_
      rintro e w8 ⟨rfl, hg8⟩
      have HP8 := Lib.hid (HP7.out.grow hg8)
      have HBA8 := Lib.hid (kept2 HBA7.out hg8)
      obtain ⟨e0, e1, e2, e3⟩ := cells4 HBA8.out
      obtain ⟨x0, x1, _, _, x4⟩ := cells2 HP8.out.box
      clear ca hg8 HP7 HBA7
      go_wp2_with fail
      clear e0 e1 e2 e3 x0 x1 x4
      have ca := neigh_at HP8.out.ch HP8.out.ref v.a ha32.out
      unfold refV at ca
      rw [hlenM] at ca
      refine ca.mono ?_
      rintro e w9 ⟨rfl, hg8⟩
      have HP9 := Lib.hid (HP8.out.grow hg8)
      have HBA9 := Lib.hid (kept2 HBA8.out hg8)
      obtain ⟨e0, e1, e2, e3⟩ := cells4 HBA9.out
      obtain ⟨x0, x1, _, _, x4⟩ := cells2 HP9.out.box
      clear ca hg8 HP8 HBA8
      go_wp2_with fail
      clear e0 e1 e2 e3 x0 x1 x4
      have ca := lists_at HP9.out.ch HP9.out.ref v.list (by have := ofI_le HP9.out.few v.list; omega)
      unfold refV at ca
      rw [hlenM] at ca
      refine ca.mono ?_
      rintro e w10 ⟨rfl, hg8⟩
      have HP10 := Lib.hid (HP9.out.grow hg8)
      clear ca hg8 HP9 HBA9
      go_wp2
      go_roundw
      · exact ⟨k + 1, C', rb', rcap', rows', by omega, by go_num, HP10⟩
      · simp only [intOf]; omega
    · obtain rfl : k = len := by omega
      have hlt' : ¬ ((k : Int) < (k : Int)) := by omega
      go_wp2
      have HPk := HP
      clear HP
      go_loopw [14] (fun i wr => ∃ i' : Nat, i' ≤ M + 2 ∧ i = .int .i64 ((i' : Int) - 1) ∧ Hid (PI w w.heap.size (w.heap.size + 2) gL gN B M k C rb rcap rows wr)) (fun i _ => M + 2 - (intOf i + 1).toNat)
      case atStart => exact ⟨0, by omega, by go_num, HPk⟩
      case round =>
        obtain ⟨i, hi, rfl, HP⟩ := hrel
        by_cases hil : i < M + 2
        · have hile : ((i : Int) - 1) ≤ (M : Int) := by omega
          obtain ⟨x0, x1, _, _, x4⟩ := cells2 HP.out.box
          go_wp2_with fail
          clear x0 x1 x4
          have ca := lists_at HP.out.ch HP.out.ref ((i : Int) - 1) (by have := ofI_le HP.out.few ((i : Int) - 1); omega)
          unfold refV at ca
          rw [HP.out.len] at ca
          refine ca.mono ?_
          rintro e w10 ⟨rfl, hg8⟩
          have HP10 := Lib.hid (HP.out.grow hg8)
          clear ca hg8 HP
          go_wp2
          go_roundw
          · exact ⟨i + 1, by omega, by go_num, HP10⟩
          · simp only [intOf]; omega
        · have hile : ¬ (((i : Int) - 1) ≤ (M : Int)) := by omega
          go_wp2_with fail
          refine (alive_any _).mono ?_
          rintro e w11 ⟨rfl, hg11⟩
          go_wp2
          go_ret
          exact ⟨rfl, grown_trans HP.out.grown hg11⟩
set_option maxHeartbeats 4000000 in
theorem plays_long (N M : Nat) (A : Option Addr) (len cap : Nat) (w : World) (hN : N ≤ 65536) (hM1 : 1 ≤ M) (hM8 : M ≤ 8) (h100 : 100 < len) :
    Calls Try.prog 3 #[.int .i64 (N : Int), .int .i64 (M : Int), .slice A len cap] w fun e w' => e = .returned (.bool true) ∧ w.grownBy w' none := by
  have hd : decide (100 < (len : Int)) = true := by simp; omega
  have hd' : decide (100 < len) = true := by simp; omega
  have c0 := new_is N M w hN hM1 hM8
  have HC0 := Lib.hid c0
  have c1 : ∀ w', Calls Try.prog 8 #[.int .i64 (N : Int), .int .i64 (M : Int)] w' fun e w'' => e = .returned (.bool true) ∧ w' = w'' := fun w' => by
    have := may_ref (N : Int) (M : Int) w'
    rw [show decide (0 ≤ (N : Int) ∧ (N : Int) ≤ 65536 ∧ 1 ≤ (M : Int) ∧ (M : Int) ≤ 8) = true by simp; omega] at this
    exact this
  have HC1 := Lib.hid c1
  clear c0 c1
  go_enter Try.func3, Try.ntmps3
  go_wp2_with fail
  refine HC0.out.mono ?_
  rintro e w1 ⟨gL, gN, rfl, hs, hg⟩
  have HG1 := Lib.hid hg
  clear hs hg HC0
  go_wp2_with fail
  refine (HC1.out w1).mono ?_
  rintro e w' ⟨rfl, rfl⟩
  go_wp2_with fail
  refine (alive_any _).mono ?_
  rintro e w11 ⟨rfl, hg11⟩
  go_wp2
  go_ret
  exact ⟨rfl, grown_trans HG1.out hg11⟩
set_option maxHeartbeats 4000000 in
theorem plays_no (n m : Int) (A : Option Addr) (len cap : Nat) (w : World) (h : n < 0 ∨ 65536 < n ∨ m < 1 ∨ 8 < m) :
    Calls Try.prog 3 #[.int .i64 n, .int .i64 m, .slice A len cap] w fun e w' => e = .returned (.bool true) ∧ w.grownBy w' none := by
  have HC0 := Lib.hid (new_no n m w h)
  have c1 : Calls Try.prog 8 #[.int .i64 n, .int .i64 m] w fun e w'' => e = .returned (.bool false) ∧ w = w'' := by
    have := may_ref n m w
    rw [show decide (0 ≤ n ∧ n ≤ 65536 ∧ 1 ≤ m ∧ m ≤ 8) = false by simp; omega] at this
    exact this
  have HC1 := Lib.hid c1
  clear c1
  go_enter Try.func3, Try.ntmps3
  go_wp2_with fail
  refine HC0.out.mono ?_
  rintro e w1 ⟨rfl, rfl⟩
  go_wp2_with fail
  refine HC1.out.mono ?_
  rintro e w' ⟨rfl, rfl⟩
  go_wp2_with fail
  refine (alive_any _).mono ?_
  rintro e w11 ⟨rfl, hg11⟩
  go_wp2
  go_ret
  exact ⟨rfl, hg11⟩
/-- the law holds of every input -/
theorem plays_any (n m : Int) (A : Option Addr) (len cap : Nat) (acts : List ActV) (w : World) (hlen : acts.length = len) (hok : ∀ a ∈ acts, a.ok) (hr : ActsAt w A acts) :
    Calls Try.prog 3 #[.int .i64 n, .int .i64 m, .slice A len cap] w fun e w' => e = .returned (.bool true) ∧ w.grownBy w' none := by
  by_cases h : n < 0 ∨ 65536 < n ∨ m < 1 ∨ 8 < m
  · exact plays_no n m A len cap w h
  · obtain ⟨N, rfl⟩ : ∃ N : Nat, n = N := ⟨n.toNat, by omega⟩
    obtain ⟨M, rfl⟩ : ∃ M : Nat, m = M := ⟨m.toNat, by omega⟩
    by_cases h1 : len ≤ 100
    · exact plays_walk N M A len cap acts w (by omega) (by omega) (by omega) hlen hok hr h1
    · exact plays_long N M A len cap w (by omega) (by omega) (by omega) (by omega)
end Go.Proofs.Ytmjccpgkgkindaa
