/-
  The places of the nodes that stand, one by one.
-/
import Derived.Test.YtoopfoapkbjdkaaCopy
import Derived.Test.YtoopfoapkbjdkaaLoop
namespace Go.Proofs.Ytoopfoapkbjdkaa
open Go.RowKit Go.Shelf
set_option linter.unusedVariables false
attribute [local go_sem] Oper.semAt_some

theorem round_depth {m m' : Nat} {P : Program} {l : Nat} {f : FuncId} {tmps : Array Value} {assign body : Code} {w : World} {R : Ending → World → Prop}
    (h : RoundIn WF m P l f tmps assign body w R) : RoundIn WF m' P l f tmps assign body w R := ⟨h.1, fun c cs _ => h.2 c cs (fun d hd => by simp [Fence.wide] at hd)⟩

theorem places_any (p : Option Addr) (w : World) : Calls Try.prog 50 #[.pointer p] w fun e w' => e = .returned (.func (.func 54) #[] #[.pointer (some ⟨w.heap.size, 0, none⟩)]) ∧ w' = w.alloc (.cells #[.pointer p] 23) := by
  go_enter Try.func50, Try.ntmps50
  go_wp2
  go_ret
  exact ⟨rfl, rfl⟩
/-- the places below k at which nodes stand -/
def up (L : List (Spot Int)) (p : Nat) : Bool := match L[p]? with | some s => s.stands | none => false
def standing (L : List (Spot Int)) (k : Nat) : List Nat := (List.range k).filter (up L)
theorem standing_succ (L : List (Spot Int)) (k : Nat) : standing L (k + 1) = standing L k ++ (if up L k then [k] else []) := by
  unfold standing
  rw [List.range_succ, List.filter_append]
  congr 1
  cases h : up L k <;> simp [h]
theorem standing_prefix (L : List (Spot Int)) {j k : Nat} (h : j ≤ k) : standing L j <+: standing L k := by
  induction k with
  | zero => obtain rfl : j = 0 := by omega
            exact List.prefix_refl _
  | succ k ih =>
    rcases Nat.lt_or_ge j (k + 1) with hj | hj
    · exact (ih (by omega)).trans (by rw [standing_succ]; exact List.prefix_append _ _)
    · obtain rfl : j = k + 1 := by omega
      exact List.prefix_refl _
theorem standing_len (L : List (Spot Int)) (k : Nat) : (standing L k).length ≤ k := by
  unfold standing
  have := List.length_filter_le (up L) (List.range k)
  rwa [List.length_range] at this
def lrows (L : List (Spot Int)) : List (List Value) := L.map (Spot.cells enci)
theorem spot_view {w : World} {lo hi b c : Nat} {Lc : List (List Value)} (h : View Ki w lo hi b c Lc) {p : Nat} (hp : p < Lc.length) :
    ∃ dj, (lo ≤ dj ∧ dj < hi) ∧ (∀ t, t < 3 → w.cell? ⟨dj, p % c * 3 + t, none⟩ = (Lc.getD p [])[t]?) ∧ Calls Try.prog 37 #[.pointer (some ⟨b, 0, none⟩), .int .i32 (p : Int)] w fun e w' => e = .returned (.pointer (some ⟨dj, p % c * 3, none⟩)) ∧ ∃ q, w' = w.drewN q := by
  obtain ⟨gC, n, capC, dj, lj, cj, hg, hd, h3, hn, hr, hl, ht⟩ := h.spot p hp
  exact ⟨dj, hd, ht, spot_raw b Lc.length c p gC n capC dj lj cj w hp h.l6 h.c1 h.c6 h.chunk1 h.taken2 h3 hn hr hl⟩
theorem lrows_get {L : List (Spot Int)} {p : Nat} {s : Spot Int} (h : L[p]? = some s) : (lrows L).getD p [] = s.cells enci := by
  unfold lrows; rw [List.getD_eq_getElem?_getD, List.getElem?_map, h]; rfl

def PProt (vlo vhi Bn : Nat) (k : Nat) : Prop := (vlo ≤ k ∧ k < vhi) ∨ k = Bn
/-- a view and the box that leads to it stay in a round -/
theorem view_step {w w' : World} {X Ft Ft' : Nat → Prop} {vlo vhi b c Bn : Nat} {Lc : List (List Value)} {v : Value} (hv : View Ki w vlo vhi b c Lc) (hB : w.heap[Bn]? = some (.cells #[v] 23 (0, 0))) (hs : Step X Ft Ft' w w') (hF : ∀ k, PProt vlo vhi Bn k → ¬ Ft k) (hX : ∀ k, PProt vlo vhi Bn k → ¬ X k) :
    View Ki w' vlo vhi b c Lc ∧ w'.heap[Bn]? = some (.cells #[v] 23 (0, 0)) :=
  ⟨hv.stay hs.stay.size fun k h1 h2 => hs.stay.block k (Nat.lt_of_lt_of_le h2 hv.hiw) ⟨hF k (.inl ⟨h1, h2⟩), hX k (.inl ⟨h1, h2⟩)⟩,
    (hs.stay.block Bn (Array.getElem?_eq_some_iff.1 hB).1 ⟨hF _ (.inr rfl), hX _ (.inr rfl)⟩).trans hB⟩

theorem places_nil (lo Bn : Nat) (w : World) (Prot : Nat → Prop) (hc : w.cell? ⟨Bn, 0, none⟩ = some (.pointer none)) :
    Seq Try.prog Prot lo 54 #[.pointer (some ⟨Bn, 0, none⟩)] (fun i : Fin 0 => #[.int .i32 ((i : Nat) : Int)]) (fun ys => ys = []) (fun pre => pre <+: []) 65536 w := by
  intro n l X J Jx W F0 hgw hloW hX fJ fJx oJ oJx hpr hY h0 hF0
  have hcW := hgw.cell hc (by simp)
  have HJ0 := Lib.hid h0
  clear hX hY h0 oJ oJx fJ fJx hpr hc hF0
  have hF : ∀ k, WF.fn k := fun _ => trivial
  have hDp : WF.depth.isSome = false := rfl
  refine callsIn_of_wp Try.func54 rfl trivial ?_ rfl
  simp only [Try.ntmps54, List.size_toArray, List.length_cons, List.length_nil, Nat.reduceAdd, Nat.reduceSub, Array.replicate_succ, Array.replicate_zero, List.push_toArray, List.append_toArray, List.nil_append, List.cons_append]
  gi_wp2
  refine bodyPost_ret (results_none rfl _ _ _) rfl ?_
  exact ⟨⟨_, rfl⟩, .inl ⟨_, F0, rfl, HJ0.out⟩⟩

set_option maxRecDepth 100000 in
set_option maxHeartbeats 1000000 in
theorem places_seq (lo vlo vhi b c Bn : Nat) (L : List (Spot Int)) (w : World) (hv : View Ki w vlo vhi b c (lrows L)) (hB : w.heap[Bn]? = some (.cells #[.pointer (some ⟨b, 0, none⟩)] 23 (0, 0))) :
    Seq Try.prog (PProt vlo vhi Bn) lo 54 #[.pointer (some ⟨Bn, 0, none⟩)] (fun i : Fin L.length => #[.int .i32 ((i : Nat) : Int)]) (fun ys => ys.map Fin.val = standing L L.length) (fun pre => pre.map Fin.val <+: standing L L.length) 65536 w := by
  intro n l X J Jx W F0 hgw hloW hX fJ fJx oJ oJx hpr hY h0 hF0
  have hvW := hv.kept hgw
  have hBW := (hgw.block Bn (Array.getElem?_eq_some_iff.1 hB).1 (by simp)).trans hB
  have hll : (lrows L).length = L.length := List.length_map ..
  have hl6 := hvW.l6
  rw [hll] at hl6
  have hcW := cell_of_head hBW 0
  have htW := hvW.taken2
  rw [hll] at htW
  simp only [List.getElem?_toArray, List.getElem?_cons_zero] at hcW
  have HY := Lib.hid hY
  have HF := Lib.hid fJ
  have HJ0 := Lib.hid h0
  have HP := Lib.hid hpr
  have HX := Lib.hid hX
  have HV0 := Lib.hid hvW
  have HB0 := Lib.hid hBW
  obtain ⟨len, Hlen⟩ : ∃ len, Hid (L.length = len) := ⟨_, Lib.hid rfl⟩
  rw [Hlen.out] at htW hl6
  have hwl : IntKind.i32.wrap (len : Int) = (len : Int) := by rw [IntKind.wrap_i32]; omega
  clear hX hY h0 oJ oJx fJ fJx hpr hv hB hvW hBW hF0 hll
  have hF : ∀ k, WF.fn k := fun _ => trivial
  have hDp : WF.depth.isSome = false := rfl
  refine callsIn_of_wp Try.func54 rfl trivial ?_ rfl
  simp only [Try.ntmps54, List.size_toArray, List.length_cons, List.length_nil, Nat.reduceAdd, Nat.reduceSub, Array.replicate_succ, Array.replicate_zero, List.push_toArray, List.append_toArray, List.nil_append, List.cons_append]
  gi_wp2
  gi_loopw [11] (fun v wr => ∃ (k : Nat) (Ft : Nat → Prop) (ys : List (Fin L.length)), k ≤ len ∧ v = .int .i32 (k : Int) ∧ Hid (ys.map Fin.val = standing L k) ∧ Hid (J ys Ft wr) ∧ Hid (View Ki wr vlo vhi b c (lrows L)) ∧ Hid (wr.heap[Bn]? = some (.cells #[.pointer (some ⟨b, 0, none⟩)] 23 (0, 0))) ∧ Hid (W.heap.size ≤ wr.heap.size)) (fun v _ => len - (intOf v).toNat)
  case atStart => exact ⟨0, F0, [], Nat.zero_le _, rfl, Lib.hid rfl, HJ0, HV0, HB0, Lib.hid (Nat.le_refl _)⟩
  case round =>
    obtain ⟨k, Ft, ys, hk, rfl, HYs, HJ, HV, HB, HZ⟩ := hrel
    clear HJ0 HV0 HB0 hcW htW
    by_cases hlt : k < len
    · obtain ⟨s, hs⟩ : ∃ s, L[k]? = some s := ⟨_, List.getElem?_eq_getElem (by rw [Hlen.out]; exact hlt)⟩
      obtain ⟨dj, hd, hcell, hcall⟩ := spot_view HV.out (p := k) (by unfold lrows; rw [List.length_map, Hlen.out]; exact hlt)
      rw [lrows_get hs] at hcell
      have hc1 := hcell 1 (by decide)
      simp only [Spot.cells, List.getElem?_cons_zero, List.getElem?_cons_succ] at hc1
      have hcB := cell_of_head HB.out 0
      simp only [List.getElem?_toArray, List.getElem?_cons_zero] at hcB
      have hup : up L k = s.stands := by unfold up; rw [hs]
      have HLT : Hid (k < L.length) := Lib.hid (by rw [Hlen.out]; exact hlt)
      have HS := Lib.hid (standing_succ L k)
      rw [hup] at HS
      have HC := Lib.hid hcall
      generalize k % c * 3 = o at hc1 HC
      clear hcall hcell
      cases hst : s.stands with
      | false =>
        rw [hst] at hc1 HS
        gi_wp2_with (gi_at_call 37; refine (callsIn_wide.2 HC.out).mono ?_; rintro e w' ⟨rfl, q, rfl⟩)
        go_roundw
        case rel => exact ⟨k + 1, Ft, ys, by omega, by go_num, Lib.hid (by rw [HS.out, HYs.out]; simp), Lib.hid (HF.out _ _ _ _ HJ.out (Stay.of_grown (grown_drewN wr q none) (by simp))), Lib.hid (HV.out.kept (grown_drewN wr q none)), HB, HZ⟩
        case measure => simp [intOf]; omega
      | true =>
        rw [hst] at hc1 HS
        have HSP : Hid ((ys ++ [(⟨k, HLT.out⟩ : Fin L.length)]).map Fin.val <+: standing L L.length) := Lib.hid (by
          have e : (ys ++ [(⟨k, HLT.out⟩ : Fin L.length)]).map Fin.val = standing L (k + 1) := by rw [HS.out, List.map_append, HYs.out]; rfl
          rw [e]
          exact standing_prefix L HLT.out)
        gi_wp2_with (gi_at_call 37; refine (callsIn_wide.2 HC.out).mono ?_; rintro e w' ⟨rfl, q, rfl⟩; have HJq := Lib.hid (HF.out _ _ _ _ HJ.out (Stay.of_grown (grown_drewN wr q none) (by simp))); obtain ⟨fn, tmps, assign, body, hy, hR⟩ := HY.out 0 _ ⟨k, HLT.out⟩ Ft (wr.drewN q) HJq.out (by have := standing_len L k; have h2 := congrArg List.length HYs.out; rw [List.length_map] at h2; omega) HSP.out; have HR := Lib.hid hR; clear hR)
        refine (round_depth HR.out).mono ?_
        have hvb : ∀ (Ft' : Nat → Prop) (W3 : World), Step X Ft Ft' (wr.drewN q) W3 → View Ki W3 vlo vhi b c (lrows L) ∧ W3.heap[Bn]? = some (.cells #[.pointer (some ⟨b, 0, none⟩)] 23 (0, 0)) := fun Ft' W3 hst =>
          view_step (HV.out.kept (grown_drewN wr q none)) HB.out hst (fun j hj => HP.out _ _ _ HJ.out j hj) (fun j hj hX => (HX.out j hX).2.2 hj)
        have HVB := Lib.hid hvb
        clear hvb
        rintro e W3 (⟨rfl, Ft', hJ3, hstp⟩ | ⟨rfl, Ft', hx3, hstp⟩)
        · have HVB3 := HVB.out Ft' W3 hstp
          have HV3 := Lib.hid HVB3.1
          have HB3 := Lib.hid HVB3.2
          have HZ3 : Hid (W.heap.size ≤ W3.heap.size) := Lib.hid (Nat.le_trans HZ.out hstp.stay.size)
          have HJ3 := Lib.hid hJ3
          have HYs3 : Hid ((ys ++ [(⟨k, HLT.out⟩ : Fin L.length)]).map Fin.val = standing L (k + 1)) := Lib.hid (by rw [HS.out, List.map_append, HYs.out]; rfl)
          clear hstp hJ3 hy HVB3
          gi_wp2
          go_roundw
          case rel => exact ⟨k + 1, Ft', _, by omega, by go_num, HYs3, HJ3, HV3, HB3, HZ3⟩
          case measure => simp [intOf]; omega
        · have HX3 := Lib.hid hx3
          clear hstp hx3 hy
          gi_wp2
          refine bodyPost_ret (results_none rfl _ _ _) rfl ?_
          refine ⟨⟨_, rfl⟩, .inr ⟨_, Ft', ?_, HX3.out⟩⟩
          have e : (ys ++ [(⟨k, HLT.out⟩ : Fin L.length)]).map Fin.val = standing L (k + 1) := by rw [HS.out, List.map_append, HYs.out]; rfl
          rw [e]
          exact standing_prefix L HLT.out
    · obtain rfl : k = len := by omega
      gi_wp2
      go_end0
      exact ⟨⟨_, rfl⟩, .inl ⟨_, Ft, HYs.out.trans (by rw [Hlen.out]), HJ.out⟩⟩
end Go.Proofs.Ytoopfoapkbjdkaa
