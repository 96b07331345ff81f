/-
  The walk of the law that what any acts make of a slab is as the document says.
-/
import Derived.Test.YtoopfoapkbjdkaaStep2
import Derived.Test.YtoopfoapkbjdkaaStep3
import Derived.Test.YtoopfoapkbjdkaaStep4
import Derived.Test.YtoopfoapkbjdkaaAllAt
import Derived.Test.YtoopfoapkbjdkaaStands2
import Derived.Test.YtoopfoapkbjdkaaStale
namespace Go.Proofs.Ytoopfoapkbjdkaa
open Go.ChangeShapes Go.WideShapes Go.ChangeAt Go.RowKit
set_option linter.unusedVariables false
set_option maxRecDepth 100000

theorem may_ref (n m : Int) (w : World) : Calls Try.prog 8 #[.int .i64 n, .int .i64 m] w fun e w' => e = .returned (.bool (decide (1 ≤ n ∧ n ≤ 65536 ∧ 1 ≤ m ∧ m ≤ n))) ∧ w = w' := by
  by_cases h1 : 1 ≤ n
  · have hd1 : decide (1 ≤ n) = true := by simp; omega
    by_cases h2 : n ≤ 65536
    · have hd2 : decide (n ≤ 65536) = true := by simp; omega
      by_cases h3 : 1 ≤ m
      · have hd3 : decide (1 ≤ m) = true := by simp; omega
        have e : decide (1 ≤ n ∧ n ≤ 65536 ∧ 1 ≤ m ∧ m ≤ n) = decide (m ≤ n) := by simp [h1, h2, h3]
        rw [e]
        go_enter Try.func8, Try.ntmps8
        go_wp2
        go_ret
        exact ⟨rfl, rfl⟩
      · have hd3 : decide (1 ≤ m) = false := by simp; omega
        have e : decide (1 ≤ n ∧ n ≤ 65536 ∧ 1 ≤ m ∧ m ≤ n) = false := by simp [h3]
        rw [e]
        go_enter Try.func8, Try.ntmps8
        go_wp2
        go_ret
        exact ⟨rfl, rfl⟩
    · have hd2 : decide (n ≤ 65536) = false := by simp; omega
      have e : decide (1 ≤ n ∧ n ≤ 65536 ∧ 1 ≤ m ∧ m ≤ n) = false := by simp [h2]
      rw [e]
      go_enter Try.func8, Try.ntmps8
      go_wp2
      go_ret
      exact ⟨rfl, rfl⟩
  · have hd1 : decide (1 ≤ n) = false := by simp; omega
    have e : decide (1 ≤ n ∧ n ≤ 65536 ∧ 1 ≤ m ∧ m ≤ n) = false := by simp [h1]
    rw [e]
    go_enter Try.func8, Try.ntmps8
    go_wp2
    go_ret
    exact ⟨rfl, rfl⟩
section
variable {w : World} {lo b : Nat} {S : SI} {vL vF : Value}
/-- an act of any kind -/
theorem step_at (hc : IsSlab w lo b S) (hr : RefAt w 0 S vL vF) {k : Nat} (ht : Turns S k) (hk : k ≤ 1000) (v : ActV) (hv : v.ok) :
    Calls Try.prog 10 #[.pointer (some ⟨b, 0, none⟩), refVal S vL vF, actV v.kind v.place v.turn v.v] w (StepPost w lo b S) := by
  have hp := hv.place
  have htt := hv.turn
  obtain ⟨kind, p, t, x⟩ := v
  simp only at hp htt ⊢
  have hturn : S.turn S.place + 1 < 4294967296 := by have := ht.at S.place; omega
  by_cases hk0 : kind = 0
  · subst hk0
    by_cases hroom : S.len < S.most
    · exact step_alloc0 hc hr p t x hp htt hroom hturn
    · exact step_full0 hc hr p t x hp htt (by omega)
  by_cases hk1 : kind = 1
  · subst hk1
    by_cases hroom : S.len < S.most
    · exact step_alloc1 hc hr p t x hp htt hroom hturn
    · exact step_full1 hc hr p t x hp htt (by omega)
  by_cases hk2 : kind = 2
  · subst hk2
    cases hn : S.names p t with
    | none => exact step_free_no hc hr p t x hp htt hn
    | some s => exact step_free_yes hc hr p t x hp htt hn
  by_cases hk3 : kind = 3
  · subst hk3
    cases hn : S.names p t with
    | none => exact step_set_no hc hr p t x hp htt hn
    | some s => exact step_set_yes hc hr p t x hp htt hn
  by_cases hk4 : kind = 4
  · subst hk4
    have key : ∀ p' t' : Int, (-2147483648 ≤ p' ∧ p' < 2147483648) → (0 ≤ t' ∧ t' < 4294967296) → hdlOf p (S.node p) = hdl p' t' → Calls Try.prog 10 #[.pointer (some ⟨b, 0, none⟩), refVal S vL vF, actV 4 p t x] w (StepPost w lo b S) := by
      intro p' t' h1 h2 hat
      cases hn : S.names p' t' with
      | none => exact step_at_no hc hr p t x hp p' t' h1 h2 hat hn
      | some s => exact step_at_yes hc hr p t x hp p' t' h1 h2 hat hn
    cases hnd : S.node p with
    | none => exact key 0 0 (by omega) (by omega) (by rw [hnd]; rfl)
    | some s =>
      have hm := (node_some.1 hnd).2.1
      have := ht s (List.mem_of_getElem? hm)
      exact key p s.turn hp (by omega) (by rw [hnd]; rfl)
  · exact step_none hc hr kind p t x hp htt hk0 hk1 hk2 hk3 hk4
theorem Turns.step {S S' : SI} {k : Nat} (h : Turns S k) (hs : S' = S ∨ (∃ v, S' = S.alloc v) ∨ (∃ p, S' = S.free 0 p) ∨ ∃ p v, S' = S.set p v) : Turns S' (k + 1) := by
  rcases hs with rfl | ⟨v, rfl⟩ | ⟨p, rfl⟩ | ⟨p, v, rfl⟩
  · exact h.mono (by omega)
  · exact h.alloc v
  · exact (h.free p).mono (by omega)
  · exact (h.set p v).mono (by omega)
theorem same_len {S S' : SI} (hs : S' = S ∨ (∃ v, S' = S.alloc v) ∨ (∃ p, S' = S.free 0 p) ∨ ∃ p v, S' = S.set p v) : S'.most = S.most ∧ S'.c = S.c := by
  rcases hs with rfl | ⟨v, rfl⟩ | ⟨p, rfl⟩ | ⟨p, v, rfl⟩
  · exact ⟨rfl, rfl⟩
  · exact alloc_len S v
  · exact free_len S 0 p
  · exact set_len S p v
theorem all_is (hc : IsSlab w lo b S) (hr : RefAt w 0 S vL vF) {k : Nat} (ht : Turns S k) (hk : k ≤ 1000) (m : Nat) (hm : m ≤ 100000) :
    Calls Try.prog 12 #[.pointer (some ⟨b, 0, none⟩), refVal S vL vF, .int .i64 (m : Int)] w fun e w' => e = .returned (.bool true) ∧ w.grownBy w' none := by
  have hfa := hc.facts
  refine all_at w _ m S vL vF hm (by omega) (fun s hs => by have := ht s hs; omega) hr fun W hg => ?_
  obtain ⟨_, _, d, cp, vC, vF', hmem⟩ := hc.kept hg
  refine (copied_at hmem).mono ?_
  rintro e w' ⟨b', rfl, hg', hv⟩
  exact ⟨_, rfl, hg', .inr ⟨b', S.c, rfl, hv⟩⟩
end
/-- what holds between two acts -/
structure PI (w : World) (lo b B k most c : Nat) (S : SI) (vL vF : Value) (W : World) : Prop where
  ch : IsSlab W lo b S
  ref : RefAt W 0 S vL vF
  box : W.heap[B]? = some (.cells #[.int .i64 (most : Int), .int .i64 (c : Int), vL, vF] 32 (0, 0))
  eq : S.most = most ∧ S.c = c
  turns : Turns S k
  grown : w.grownBy W none
theorem PI.grow {w : World} {lo b B k most c : Nat} {S : SI} {vL vF : Value} {W W' : World} (h : PI w lo b B k most c S vL vF W) (hg : W.grownBy W' none) : PI w lo b B k most c S vL vF W' :=
  ⟨h.ch.kept hg, h.ref.kept hg, kept2 h.box hg, h.eq, h.turns, grown_trans h.grown hg⟩
theorem refVal_eq {S : SI} {vL vF : Value} {most c : Nat} (h : S.most = most ∧ S.c = c) : refVal S vL vF = .agg #[.int .i64 (most : Int), .int .i64 (c : Int), vL, vF] := by unfold refVal; rw [h.1, h.2]
set_option maxHeartbeats 1000000 in
theorem plays_walk (most c : Nat) (A : Option Addr) (len cap : Nat) (acts : List ActV) (w : World) (hc1 : 1 ≤ c) (hcm : c ≤ most) (hm6 : most ≤ 65536) (hlen : acts.length = len) (hok : ∀ a ∈ acts, a.ok) (hr : ActsAt w A acts) (h100 : len ≤ 100) :
    Calls Try.prog 3 #[.int .i64 (most : Int), .int .i64 (c : Int), .slice A len cap] w fun e w' => e = .returned (.bool true) ∧ w.grownBy w' none := by
  have hd : decide (100 < (len : Int)) = false := by simp; omega
  have hd' : decide (100 < len) = false := by simp; omega
  have HC0 := Lib.hid (new_is (w := w) (Nat.le_refl _) hc1 hcm hm6)
  have c1 : ∀ w', Calls Try.prog 8 #[.int .i64 (most : Int), .int .i64 (c : Int)] w' fun e w'' => e = .returned (.bool true) ∧ w' = w'' := fun w' => by
    have := may_ref (most : Int) (c : Int) w'
    rw [show decide (1 ≤ (most : Int) ∧ (most : Int) ≤ 65536 ∧ 1 ≤ (c : Int) ∧ (c : Int) ≤ (most : Int)) = true by simp; omega] at this
    exact this
  have HC1 := Lib.hid c1
  have Hlen := Lib.hid hlen
  have HOK := Lib.hid hok
  have HA := Lib.hid hr
  clear hlen hok hr c1
  go_enter Try.func3, Try.ntmps3
  go_wp2_with fail
  refine HC0.out.mono ?_
  rintro e w1 ⟨rfl, hs, hg⟩
  have HG1 := Lib.hid hg
  have HS1 := Lib.hid hs
  clear hs hg HC0
  go_wp2_with fail
  refine (HC1.out w1).mono ?_
  rintro e w' ⟨rfl, rfl⟩
  go_wp2_with fail
  obtain ⟨B, HB⟩ : ∃ B, Hid (w1.heap.size = B) := ⟨_, Lib.hid rfl⟩
  have HP0 : Hid (PI w w.heap.size w.heap.size B 0 most c ⟨most, c, [], []⟩ (.slice none 0 0) (.slice none 0 0) (w1.alloc (.cells #[.int .i64 (most : Int), .int .i64 (c : Int), .slice none 0 0, .slice none 0 0] 32))) := Lib.hid (by
    have hga := World.grownBy_alloc w1 (.cells #[.int .i64 (most : Int), .int .i64 (c : Int), .slice none 0 0, .slice none 0 0] 32) none
    exact ⟨HS1.out.kept hga, ⟨World.ownsRow_nil _ _ _ _, World.ownsRow_nil _ _ _ _⟩, by rw [← HB.out]; exact heap_alloc_new w1 _, ⟨rfl, rfl⟩, (fun s hs => by cases hs), grown_trans HG1.out hga⟩)
  rw [HB.out]
  have HBw : Hid (w.heap.size ≤ B) := Lib.hid (by rw [← HB.out]; exact HG1.out.size)
  clear HG1 HS1 HB HC1
  generalize w1.alloc (.cells #[.int .i64 (most : Int), .int .i64 (c : Int), .slice none 0 0, .slice none 0 0] 32) = w3 at *
  go_loopw [48] (fun k wr => ∃ (k' : Nat) (S : SI) (vL vF : Value), k' ≤ len ∧ k = .int .i64 (k' : Int) ∧ Hid (PI w w.heap.size w.heap.size B k' most c S vL vF wr)) (fun k _ => len - (intOf k).toNat)
  case atStart => exact ⟨0, _, _, _, by omega, by go_num, HP0⟩
  case round =>
    obtain ⟨k, S, vL, vF, hk, rfl, HP⟩ := hrel
    clear HP0
    obtain ⟨AF, capF, rfl⟩ := owns_slice HP.out.ref.rowF
    obtain ⟨AL, capL, rfl⟩ := HP.out.ref.slice
    obtain ⟨lL, HlL⟩ : ∃ L, Hid (S.L.length = L) := ⟨_, Lib.hid rfl⟩
    obtain ⟨lF, HlF⟩ : ∃ L, Hid (S.fr.length = L) := ⟨_, Lib.hid rfl⟩
    rw [HlL.out, HlF.out] at HP
    by_cases hlt : k < len
    · obtain ⟨v, Hv⟩ : ∃ v, Hid (acts[k]? = some v) := ⟨_, Lib.hid (List.getElem?_eq_getElem (by rw [Hlen.out]; exact hlt))⟩
      obtain ⟨b1, o1, rfl, hb1, a0, a1, a2, a3⟩ := (HA.out.kept HP.out.grown).some Hv.out
      have hvok := HOK.out v (List.mem_of_getElem? Hv.out)
      have HVok := Lib.hid hvok
      -- the act's box
      have hga := World.grownBy_alloc wr (.cells #[.int .i64 v.kind, .int .i32 v.place, .int .u32 v.turn, .int .i64 v.v] 37) none
      obtain ⟨Ba, HBa⟩ : ∃ Ba, Hid (wr.heap.size = Ba) := ⟨_, Lib.hid rfl⟩
      have hst := step_at (HP.out.ch.kept hga) (HP.out.ref.kept hga) HP.out.turns (by omega) v hvok
      rw [refVal_eq HP.out.eq] at hst
      unfold actV at hst
      have HST := Lib.hid hst
      have HBX4 := Lib.hid (kept2 HP.out.box hga)
      have HBA4 := Lib.hid (heap_alloc_new wr (.cells #[.int .i64 v.kind, .int .i32 v.place, .int .u32 v.turn, .int .i64 v.v] 37))
      have HG4 := Lib.hid (grown_trans HP.out.grown hga)
      have HTu := Lib.hid HP.out.turns
      have HEq := Lib.hid HP.out.eq
      obtain ⟨c00, c01, c02, c03, l0⟩ := cells4 HP.out.box
      have hBlt := (Array.getElem?_eq_some_iff.1 HP.out.box).1
      have HBB : Hid (B < Ba) := Lib.hid (by rw [← HBa.out]; exact hBlt)
      have hkI : (k : Int) < (len : Int) := by omega
      clear hvok hst hga
      go_wp2_with fail
      rw [HBa.out] at HBA4 ⊢
      refine HST.out.mono ?_
      rintro e w5 ⟨S', vL', vF', rfl, hch, href, hkp, hwhy⟩
      have hltA := HBB.out
      have hlo := HBw.out
      have hb9 := hkp.other HBX4.out (by decide)
      have hb11 := hkp.other HBA4.out (by decide)
      have hg5 := Keep.grown HG4.out hkp (Nat.le_refl _)
      have heq' : S'.most = most ∧ S'.c = c := ⟨(same_len hwhy).1.trans HEq.out.1, (same_len hwhy).2.trans HEq.out.2⟩
      have htu' := HTu.out.step hwhy
      obtain ⟨AF', capF', rfl⟩ := owns_slice href.rowF
      obtain ⟨AL', capL', rfl⟩ := href.slice
      obtain ⟨lL', HlL'⟩ : ∃ L, Hid (S'.L.length = L) := ⟨_, Lib.hid rfl⟩
      obtain ⟨lF', HlF'⟩ : ∃ L, Hid (S'.fr.length = L) := ⟨_, Lib.hid rfl⟩
      rw [HlL'.out, HlF'.out] at href
      rw [refVal_eq heq', HlL'.out, HlF'.out]
      have hga := World.grownBy_alloc w5 (.cells #[.int .i64 (most : Int), .int .i64 (c : Int), .slice AL' lL' capL', .slice AF' lF' capF'] 32) none
      have hb9' := kept2 hb9 hga
      have hfs := fin_step (x := .int .i64 (most : Int)) (y := .int .i64 (c : Int)) (z := .slice AL' lL' capL') (u := .slice AF' lF' capF') (w0 := w) (lo := w.heap.size) (b := w.heap.size) (Keep.of_new (grown_trans hg5 hga)) (by omega) hb9' (href.kept hga) (hch.kept hga)
      have HP7 : Hid (PI w w.heap.size w.heap.size B (k + 1) most c S' (.slice AL' lL' capL') (.slice AF' lF' capF') (((((w5.alloc (.cells #[.int .i64 (most : Int), .int .i64 (c : Int), .slice AL' lL' capL', .slice AF' lF' capF'] 32)).setCell ⟨B, 0, none⟩ (.int .i64 (most : Int))).setCell ⟨B, 1, none⟩ (.int .i64 (c : Int))).setCell ⟨B, 2, none⟩ (.slice AL' lL' capL')).setCell ⟨B, 3, none⟩ (.slice AF' lF' capF'))) :=
        Lib.hid ⟨hfs.2.2.1, hfs.2.1, hfs.1, heq', htu', grown_new (grown_new (grown_new (grown_new (grown_trans hg5 hga) (grown_setCell _ _ _ _) hlo) (grown_setCell _ _ _ _) hlo) (grown_setCell _ _ _ _) hlo) (grown_setCell _ _ _ _) hlo⟩
      have HBA7 : Hid ((((((w5.alloc (.cells #[.int .i64 (most : Int), .int .i64 (c : Int), .slice AL' lL' capL', .slice AF' lF' capF'] 32)).setCell ⟨B, 0, none⟩ (.int .i64 (most : Int))).setCell ⟨B, 1, none⟩ (.int .i64 (c : Int))).setCell ⟨B, 2, none⟩ (.slice AL' lL' capL')).setCell ⟨B, 3, none⟩ (.slice AF' lF' capF')).heap[Ba]? = _) :=
        Lib.hid ((heap_setCell_other _ _ _ _ (by simp only; omega)).trans ((heap_setCell_other _ _ _ _ (by simp only; omega)).trans ((heap_setCell_other _ _ _ _ (by simp only; omega)).trans ((heap_setCell_other _ _ _ _ (by simp only; omega)).trans (kept2 hb11 hga)))))
      obtain ⟨d0, d1, d2, d3, d4⟩ := cells4 hb9'
      obtain ⟨f0, f1, f2, f3⟩ := free4 hb9'
      obtain ⟨e0, e1, e2, e3, e4⟩ := cells4 HBA7.out
      obtain ⟨x0, x1, x2, x3, x4⟩ := cells4 HP7.out.box
      clear hb9 hb11 hg5 hga hb9' hch href hkp hwhy c00 c01 c02 c03 l0 hBlt a0 a1 a2 a3 hb1 HST HBX4 HBA4 HG4 HP hlo heq' htu' hfs HTu HEq
      go_wp2_with fail
      generalize ((((w5.alloc (.cells #[.int .i64 (most : Int), .int .i64 (c : Int), .slice AL' lL' capL', .slice AF' lF' capF'] 32)).setCell ⟨B, 0, none⟩ (.int .i64 (most : Int))).setCell ⟨B, 1, none⟩ (.int .i64 (c : Int))).setCell ⟨B, 2, none⟩ (.slice AL' lL' capL')).setCell ⟨B, 3, none⟩ (.slice AF' lF' capF') = w7 at *
      clear d0 d1 d2 d3 d4 f0 f1 f2 f3 e0 e1 e2 e3 e4 x0 x1 x2 x3 x4
      have ca := stands_at HP7.out.ch HP7.out.ref HVok.out.place HVok.out.turn (fun s hs => by have := HP7.out.turns s hs; omega)
      rw [refVal_eq HP7.out.eq] at ca
      refine ca.mono ?_
      rintro e w8 ⟨rfl, hg8⟩
      have HP8 := Lib.hid (HP7.out.grow hg8)
      have HBA8 := Lib.hid (kept2 HBA7.out hg8)
      obtain ⟨e0, e1, e2, e3, e4⟩ := cells4 HBA8.out
      obtain ⟨x0, x1, x2, x3, x4⟩ := cells4 HP8.out.box
      clear ca hg8 HP7 HBA7
      go_wp2_with fail
      clear e0 e1 e2 e3 e4 x0 x1 x2 x3 x4
      have ca := all_is HP8.out.ch HP8.out.ref HP8.out.turns (by omega) k (by omega)
      rw [refVal_eq HP8.out.eq] at ca
      refine ca.mono ?_
      rintro e w9 ⟨rfl, hg9⟩
      have HP9 := Lib.hid (HP8.out.grow hg9)
      clear ca hg9 HP8 HBA8
      go_wp2
      go_roundw
      · exact ⟨k + 1, S', _, _, by omega, by go_num, HP9⟩
      · simp only [intOf]; omega
    · obtain rfl : k = len := by omega
      have hlt' : ¬ ((k : Int) < (k : Int)) := by omega
      obtain ⟨x0, x1, x2, x3, x4⟩ := cells4 HP.out.box
      have ca := all_is HP.out.ch HP.out.ref HP.out.turns (by omega) 1000 (by omega)
      rw [refVal_eq HP.out.eq] at ca
      have HCa : Hid (Calls Try.prog 12 #[.pointer (some ⟨w.heap.size, 0, none⟩), .agg #[.int .i64 (most : Int), .int .i64 (c : Int), .slice AL lL capL, .slice AF lF capF], .int .i64 1000] wr fun e w' => e = .returned (.bool true) ∧ wr.grownBy w' none) := Lib.hid ca
      clear ca
      go_wp2_with fail
      refine HCa.out.mono ?_
      rintro e w10 ⟨rfl, hg10⟩
      have HG10 := Lib.hid (grown_trans HP.out.grown hg10)
      clear hg10 HP HCa x0 x1 x2 x3 x4
      go_wp2_with fail
      refine (alive_any _).mono ?_
      rintro e w11 ⟨rfl, hg11⟩
      have HG11 := Lib.hid (grown_trans HG10.out hg11)
      clear hg11 HG10
      go_wp2
      go_ret
      exact ⟨rfl, HG11.out⟩
set_option maxHeartbeats 1000000 in
theorem plays_long (most c : Nat) (A : Option Addr) (len cap : Nat) (w : World) (hc1 : 1 ≤ c) (hcm : c ≤ most) (hm6 : most ≤ 65536) (h100 : 100 < len) :
    Calls Try.prog 3 #[.int .i64 (most : Int), .int .i64 (c : Int), .slice A len cap] w fun e w' => e = .returned (.bool true) ∧ w.grownBy w' none := by
  have hd : decide (100 < (len : Int)) = true := by simp; omega
  have hd' : decide (100 < len) = true := by simp; omega
  have HC0 := Lib.hid (new_is (w := w) (Nat.le_refl _) hc1 hcm hm6)
  have c1 : ∀ w', Calls Try.prog 8 #[.int .i64 (most : Int), .int .i64 (c : Int)] w' fun e w'' => e = .returned (.bool true) ∧ w' = w'' := fun w' => by
    have := may_ref (most : Int) (c : Int) w'
    rw [show decide (1 ≤ (most : Int) ∧ (most : Int) ≤ 65536 ∧ 1 ≤ (c : Int) ∧ (c : Int) ≤ (most : Int)) = true by simp; omega] at this
    exact this
  have HC1 := Lib.hid c1
  clear c1
  go_enter Try.func3, Try.ntmps3
  go_wp2_with fail
  refine HC0.out.mono ?_
  rintro e w1 ⟨rfl, hs, hg⟩
  have HG1 := Lib.hid hg
  clear hs hg HC0
  go_wp2_with fail
  refine (HC1.out w1).mono ?_
  rintro e w' ⟨rfl, rfl⟩
  go_wp2_with fail
  refine (alive_any _).mono ?_
  rintro e w11 ⟨rfl, hg11⟩
  go_wp2
  go_ret
  exact ⟨rfl, grown_trans HG1.out hg11⟩
set_option maxHeartbeats 1000000 in
theorem plays_no (n m : Int) (A : Option Addr) (len cap : Nat) (w : World) (h : n < 1 ∨ 65536 < n ∨ m < 1 ∨ n < m) :
    Calls Try.prog 3 #[.int .i64 n, .int .i64 m, .slice A len cap] w fun e w' => e = .returned (.bool true) ∧ w.grownBy w' none := by
  have HC0 := Lib.hid (new_no n m w h)
  have c1 : Calls Try.prog 8 #[.int .i64 n, .int .i64 m] w fun e w'' => e = .returned (.bool false) ∧ w = w'' := by
    have := may_ref n m w
    rw [show decide (1 ≤ n ∧ n ≤ 65536 ∧ 1 ≤ m ∧ m ≤ n) = false by simp; omega] at this
    exact this
  have HC1 := Lib.hid c1
  clear c1
  go_enter Try.func3, Try.ntmps3
  go_wp2_with fail
  refine HC0.out.mono ?_
  rintro e w1 ⟨rfl, rfl⟩
  go_wp2_with fail
  refine HC1.out.mono ?_
  rintro e w' ⟨rfl, rfl⟩
  go_wp2_with fail
  refine (alive_any _).mono ?_
  rintro e w11 ⟨rfl, hg11⟩
  go_wp2
  go_ret
  exact ⟨rfl, hg11⟩
/-- the law holds of every input -/
theorem plays_any (n m : Int) (A : Option Addr) (len cap : Nat) (acts : List ActV) (w : World) (hlen : acts.length = len) (hok : ∀ a ∈ acts, a.ok) (hr : ActsAt w A acts) :
    Calls Try.prog 3 #[.int .i64 n, .int .i64 m, .slice A len cap] w fun e w' => e = .returned (.bool true) ∧ w.grownBy w' none := by
  by_cases h : n < 1 ∨ 65536 < n ∨ m < 1 ∨ n < m
  · exact plays_no n m A len cap w h
  · obtain ⟨N, rfl⟩ : ∃ N : Nat, n = N := ⟨n.toNat, by omega⟩
    obtain ⟨M, rfl⟩ : ∃ M : Nat, m = M := ⟨m.toNat, by omega⟩
    by_cases h1 : len ≤ 100
    · exact plays_walk N M A len cap acts w (by omega) (by omega) (by omega) hlen hok hr h1
    · exact plays_long N M A len cap w (by omega) (by omega) (by omega) (by omega)
end Go.Proofs.Ytoopfoapkbjdkaa
