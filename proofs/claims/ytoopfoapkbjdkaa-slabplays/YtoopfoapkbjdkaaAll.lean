/-
  All: the nodes of a slab, one by one, as they were when the going through began.
-/
import Derived.Test.YtoopfoapkbjdkaaPlaces
import Derived.Test.YtoopfoapkbjdkaaTailIn
namespace Go.Proofs.Ytoopfoapkbjdkaa
open Go.RowKit Go.Shelf
set_option linter.unusedVariables false
attribute [local go_sem] Oper.semAt_some

theorem all_any (p : Option Addr) (w : World) : Calls Try.prog 35 #[.pointer p] w fun e w' => e = .returned (.func (.func 48) #[] #[.pointer (some ⟨w.heap.size, 0, none⟩)]) ∧ w' = w.alloc (.cells #[.pointer p] 23) := by
  go_enter Try.func35, Try.ntmps35
  go_wp2
  go_ret
  exact ⟨rfl, rfl⟩
theorem round_in {m m' l2 : Nat} {P : Program} {l : Nat} {f : FuncId} {tmps : Array Value} {assign body : Code} {w : World} {R : Ending → World → Prop}
    (h : RoundIn WF m P l f tmps assign body w R) : RoundIn (WF.inRound l2) m' P l f tmps assign body w R := ⟨h.1, fun c cs _ => h.2 c cs (fun d hd => by simp [Fence.wide] at hd)⟩

/-- what is looked at: nothing, or a copy -/
def Vw (L : List (Spot Int)) (p : Option Addr) (lo hi : Nat) (w : World) : Prop := (p = none ∧ L = [] ∧ hi ≤ w.heap.size) ∨ ∃ b c, p = some ⟨b, 0, none⟩ ∧ View Ki w lo hi b c (lrows L)
theorem Vw.hiw {L : List (Spot Int)} {p : Option Addr} {lo hi : Nat} {w : World} (h : Vw L p lo hi w) : hi ≤ w.heap.size := by
  rcases h with ⟨_, _, h⟩ | ⟨b, c, _, hv⟩
  · exact h
  · exact hv.hiw
theorem Vw.stay {L : List (Spot Int)} {p : Option Addr} {lo hi : Nat} {w w' : World} (h : Vw L p lo hi w) (hs : w.heap.size ≤ w'.heap.size) (hb : ∀ k, lo ≤ k → k < hi → w'.heap[k]? = w.heap[k]?) : Vw L p lo hi w' := by
  rcases h with ⟨h1, h2, h3⟩ | ⟨b, c, rfl, hv⟩
  · exact .inl ⟨h1, h2, Nat.le_trans h3 hs⟩
  · exact .inr ⟨b, c, rfl, hv.stay hs hb⟩
theorem Vw.kept {L : List (Spot Int)} {p : Option Addr} {lo hi : Nat} {w w' : World} (h : Vw L p lo hi w) (hg : w.grownBy w' none) : Vw L p lo hi w' :=
  h.stay hg.size fun k _ hk => hg.block k (Nat.lt_of_lt_of_le hk h.hiw) (by simp)
theorem inner_seq {L : List (Spot Int)} {p : Option Addr} {lo vlo vhi Bn : Nat} {w : World} (h : Vw L p vlo vhi w) (hB : w.heap[Bn]? = some (.cells #[.pointer p] 23 (0, 0))) :
    Seq Try.prog (PProt vlo vhi Bn) lo 54 #[.pointer (some ⟨Bn, 0, none⟩)] (fun i : Fin L.length => #[.int .i32 ((i : Nat) : Int)]) (fun ys => ys.map Fin.val = standing L L.length) (fun pre => pre.map Fin.val <+: standing L L.length) 65536 w := by
  rcases h with ⟨rfl, rfl, _⟩ | ⟨b, c, rfl, hv⟩
  · intro n l X J Jx W F0 hgw hloW hX fJ fJx oJ oJx hpr hY h0 hF0
    refine (places_nil lo Bn w (PProt vlo vhi Bn) (cell_of_head hB 0) n l X J Jx W F0 hgw hloW hX fJ fJx oJ oJx hpr (fun _ _ x => absurd x.isLt (by simp)) h0 hF0).mono ?_
    rintro e W' ⟨he, h | h⟩
    · obtain ⟨xs, Ft, rfl, hj⟩ := h
      exact ⟨he, .inl ⟨_, Ft, rfl, hj⟩⟩
    · obtain ⟨xs, Ft, hp, hj⟩ := h
      exact ⟨he, .inr ⟨_, Ft, by rw [List.prefix_nil.1 hp]; exact List.nil_prefix, hj⟩⟩
  · exact places_seq lo vlo vhi b c Bn L w hv hB

/-- what the iterator keeps for itself -/
structure Priv (l By : Nat) (L : List (Spot Int)) (p2 : Option Addr) (vhi : Nat) (Ft : Nat → Prop) (W : World) : Prop where
  vw : Vw L p2 (By + 1) vhi W
  box : W.heap[vhi]? = some (.cells #[.pointer p2] 23 (0, 0))
  box2 : W.heap[vhi + 1]? = some (.cells #[.pointer p2] 23 (0, 0))
  yb : W.heap[By]? = some (.cells #[.func (.yield l) #[] #[]] 69 (0, 0))
  le : By < vhi
  nf : ∀ k, By ≤ k → k ≤ vhi + 1 → ¬ Ft k
theorem Priv.keep {l By : Nat} {L : List (Spot Int)} {p2 : Option Addr} {vhi : Nat} {Ft Ft' : Nat → Prop} {W W' : World} (h : Priv l By L p2 vhi Ft W) (hs : W.heap.size ≤ W'.heap.size) (hb : ∀ k, By ≤ k → k ≤ vhi + 1 → W'.heap[k]? = W.heap[k]?) (hf : ∀ k, By ≤ k → k ≤ vhi + 1 → ¬ Ft' k) : Priv l By L p2 vhi Ft' W' :=
  ⟨h.vw.stay hs fun k h1 h2 => hb k (by omega) (by omega), (hb _ (by have := h.le; omega) (by omega)).trans h.box, (hb _ (by have := h.le; omega) (by omega)).trans h.box2, (hb _ (Nat.le_refl _) (by have := h.le; omega)).trans h.yb, h.le, hf⟩
theorem Priv.size {l By : Nat} {L : List (Spot Int)} {p2 : Option Addr} {vhi : Nat} {Ft : Nat → Prop} {W : World} (h : Priv l By L p2 vhi Ft W) : vhi + 1 < W.heap.size := (Array.getElem?_eq_some_iff.1 h.box2).1
theorem Priv.step {l By : Nat} {L : List (Spot Int)} {p2 : Option Addr} {vhi : Nat} {X Ft Ft' : Nat → Prop} {W W' : World} (h : Priv l By L p2 vhi Ft W) (hs : Step X Ft Ft' W W') (hX : ∀ k, By ≤ k → ¬ X k) : Priv l By L p2 vhi Ft' W' := by
  have hz := h.size
  refine h.keep hs.stay.size (fun k h1 h2 => hs.stay.block k (by omega) ⟨h.nf k h1 h2, hX k h1⟩) fun k h1 h2 hk => ?_
  rcases hs.foot k hk with hk | hk
  · exact h.nf k h1 h2 hk
  · omega
theorem ypost_bool {α : Type} {X : Nat → Prop} {J Jx : List α → (Nat → Prop) → World → Prop} {pre : List α} {x : α} {Ft : Nat → Prop} {W : World} {e : Ending} {W' : World} (h : YPost X J Jx pre x Ft W e W') :
    ∃ bb Ft', e = .returned (.bool bb) ∧ Step X Ft Ft' W W' ∧ ((bb = true ∧ J (pre ++ [x]) Ft' W') ∨ (bb = false ∧ Jx (pre ++ [x]) Ft' W')) := by
  rcases h with ⟨rfl, Ft', hJ, hs⟩ | ⟨rfl, Ft', hJ, hs⟩
  · exact ⟨true, Ft', rfl, hs, .inl ⟨rfl, hJ⟩⟩
  · exact ⟨false, Ft', rfl, hs, .inr ⟨rfl, hJ⟩⟩
def ftn (L : List (Spot Int)) (i : Fin L.length) : Nat := L[i].turn
def fhs (L : List (Spot Int)) (i : Fin L.length) : Int := L[i].has
def nodeEnc (L : List (Spot Int)) (i : Fin L.length) : Array Value := #[.agg #[.int .i32 ((i : Nat) : Int), .int .u32 ((ftn L i : Nat) : Int)], .int .i64 (fhs L i)]

set_option maxRecDepth 100000 in
set_option maxHeartbeats 2000000 in
theorem all_seq (lo Bn : Nat) (L : List (Spot Int)) (p : Option Addr) (w : World) (hc : w.cell? ⟨Bn, 0, none⟩ = some (.pointer p))
    (hcopy : ∀ W, w.grownBy W none → Calls Try.prog 49 #[.pointer p] W fun e w' => ∃ p2, e = .returned (.pointer p2) ∧ W.grownBy w' none ∧ Vw L p2 W.heap.size w'.heap.size w') :
    Seq Try.prog (fun _ => False) lo 48 #[.pointer (some ⟨Bn, 0, none⟩)] (nodeEnc L) (fun ys => ys.map Fin.val = standing L L.length) (fun pre => pre.map Fin.val <+: standing L L.length) 65536 w := by
  intro n l X J Jx W F0 hgw hloW hX fJ fJx oJ oJx hpr hY h0 hF0
  have hcW := hgw.cell hc (by simp)
  have hBn : Bn < W.heap.size := World.block_lt_of_cell? W _ hcW
  have HC := Lib.hid (hcopy (W.alloc (.cells #[.func (.yield l) #[] #[]] 69)) (grown_trans hgw (World.grownBy_alloc _ _ none)))
  have HY := Lib.hid hY
  have HF := Lib.hid fJ
  have HFx := Lib.hid fJx
  have HO := Lib.hid oJ
  have HOx := Lib.hid oJx
  have H0 := Lib.hid h0
  have HF0 := Lib.hid hF0
  have HX := Lib.hid hX
  clear hY fJ fJx oJ oJx h0 hF0 hc hgw hX hcopy hpr
  have hF : ∀ k, WF.fn k := fun _ => trivial
  have hDp : WF.depth.isSome = false := rfl
  refine callsIn_of_wp_marks Try.func48 rfl trivial ?_ rfl
  simp only [Try.ntmps48, List.size_toArray, List.length_cons, List.length_nil, Nat.reduceAdd, Nat.reduceSub, Array.replicate_succ, Array.replicate_zero, List.push_toArray, List.append_toArray, List.nil_append, List.cons_append]
  gi_wp2_with (first | (gi_at_call 49; refine (callsIn_wide.2 HC.out).mono ?_; rintro e wc ⟨p2, rfl, hg1, hvw⟩; have HG1 := Lib.hid hg1; have HVW := Lib.hid hvw; clear hg1 hvw) | (gi_at_call 50; refine (callsIn_wide.2 (places_any _ _)).mono ?_; rintro e w' ⟨rfl, rfl⟩))
  have hz0 : (W.alloc (.cells #[.func (.yield l) #[] #[]] 69)).heap.size = W.heap.size + 1 := by simp
  have hz1 := HG1.out.size
  rw [hz0] at hz1
  have HP : Hid (Priv l W.heap.size L p2 wc.heap.size F0 ((wc.alloc (.cells #[.pointer p2] 23)).alloc (.cells #[.pointer p2] 23))) := Lib.hid (by
    have hgx : wc.grownBy ((wc.alloc (.cells #[.pointer p2] 23)).alloc (.cells #[.pointer p2] 23)) none := grown_trans (World.grownBy_alloc _ _ none) (World.grownBy_alloc _ _ none)
    refine ⟨by have := HVW.out.kept hgx; rwa [hz0] at this, heap_alloc2_old wc _ _, heap_alloc2_new wc _ _, ?_, by omega, fun k h1 _ hk => by have := HF0.out k hk; omega⟩
    exact (hgx.block _ (by omega) (by simp)).trans ((HG1.out.block _ (by omega) (by simp)).trans (heap_alloc_new W _)))
  have HGx : Hid (W.grownBy ((wc.alloc (.cells #[.pointer p2] 23)).alloc (.cells #[.pointer p2] 23)) none) := Lib.hid (grown_trans (grown_trans (World.grownBy_alloc _ _ none) HG1.out) (grown_trans (World.grownBy_alloc _ _ none) (World.grownBy_alloc _ _ none)))
  have hzx : ((wc.alloc (.cells #[.pointer p2] 23)).alloc (.cells #[.pointer p2] 23)).heap.size = wc.heap.size + 2 := by simp
  generalize (wc.alloc (.cells #[.pointer p2] 23)).alloc (.cells #[.pointer p2] 23) = wx at HP HGx hzx ⊢
  have HJx : Hid (J [] F0 wx) := Lib.hid (HF.out _ _ _ _ H0.out (Stay.of_grown HGx.out (by simp)))
  have hXn : ∀ k, W.heap.size ≤ k → ¬ X k := fun k hk h => by have := (HX.out k h).2.1; omega
  have HXn := Lib.hid hXn
  clear hXn HG1 HVW HC hcW
  refine range_own (P := Try.prog) (α := Fin L.length) (gf := 54) (lb := #[.pointer (some ⟨wc.heap.size + 1, 0, none⟩)]) rfl (enters_of Try.func54 (by kernel_rfl) rfl) (Prot := PProt (W.heap.size + 1) wc.heap.size (wc.heap.size + 1)) (by rintro k (⟨h1, h2⟩ | h1) <;> omega)
    (inner_seq HP.out.vw HP.out.box2) (World.grownBy.refl _ _) (by omega) (fun _ => rfl) X (fun k hk => ⟨(HX.out k hk).1, by have := (HX.out k hk).2.1; omega, fun hp => HXn.out k (by rcases hp with ⟨h1, h2⟩ | h1 <;> omega) hk⟩)
    (fun pre Ft' W' => J pre Ft' W' ∧ Priv l W.heap.size L p2 wc.heap.size Ft' W')
    (fun c pre Ft' W' => c = .ret ∧ Jx pre Ft' W')
    ?_ ?_ ?_ ?_ (fun pre Ft' W' h k hk => h.2.nf k (by rcases hk with ⟨h1, h2⟩ | h1 <;> omega) (by rcases hk with ⟨h1, h2⟩ | h1 <;> omega)) F0 ⟨HJx.out, HP.out⟩ (fun k hk => by have := HF0.out k hk; omega) ?a1 ?assign ?body ?done ?stop
  case assign =>
    intro l2 m2 x W2 K hK
    gi_wp2
    exact hK
  · rintro pre Ft' W2 W3 ⟨hJ, hP⟩ hst
    refine ⟨HF.out.mono (show W.heap.size ≤ wx.heap.size by omega) _ _ _ _ hJ hst, hP.keep hst.size (fun k h1 h2 => hst.block k (by have := hP.size; omega) (.inl (by omega))) hP.nf⟩
  · rintro c pre Ft' W2 W3 ⟨hc, hJ⟩ hst
    exact ⟨hc, HFx.out.mono (show W.heap.size ≤ wx.heap.size by omega) _ _ _ _ hJ hst⟩
  · rintro pre Ft' W2 k ⟨hJ, _⟩ hk; exact HO.out _ _ _ _ hJ hk
  · rintro c pre Ft' W2 k ⟨_, hJ⟩ hk; exact HOx.out _ _ _ _ hJ hk
  case body =>
    rintro l2 m2 pre x Ft' W2 ⟨hJ, hP⟩ hlen2 hsp
    have HSP := Lib.hid hsp
    clear hsp
    obtain ⟨b, c, hp2, hv⟩ : ∃ b c, p2 = some ⟨b, 0, none⟩ ∧ View Ki W2 (W.heap.size + 1) wc.heap.size b c (lrows L) := by
      rcases hP.vw with ⟨_, h2, _⟩ | h
      · have := x.isLt; simp [h2] at this
      · exact h
    have hs : L[(x : Nat)]? = some L[x] := List.getElem?_eq_getElem x.isLt
    obtain ⟨dj, hd, hcell, hcall⟩ := spot_view hv (p := x.val) (by unfold lrows; rw [List.length_map]; exact x.isLt)
    rw [lrows_get hs] at hcell
    have hc0 := hcell 0 (by decide)
    have hc2 := hcell 2 (by decide)
    simp only [Spot.cells, enci, List.getElem?_cons_zero, List.getElem?_cons_succ, Nat.add_zero] at hc0 hc2
    have hbx := cell_of_head hP.box 0
    have hyb := cell_of_head hP.yb 0
    simp only [List.getElem?_toArray, List.getElem?_cons_zero] at hbx hyb
    rw [hp2] at hbx
    have HCL := Lib.hid hcall
    have HP2 := Lib.hid hP
    have HJ2 := Lib.hid hJ
    have HE : Hid (nodeEnc L x = #[.agg #[.int .i32 ((x.val : Nat) : Int), .int .u32 ((L[x].turn : Nat) : Int)], .int .i64 L[x].has]) := Lib.hid rfl
    have Hhs := Lib.hid hs
    clear hs hcell
    generalize L[x].turn = tn at hc0 HE
    generalize L[x].has = hv' at hc2 HE
    obtain ⟨xv, Hxv⟩ : ∃ xv, Hid (x.val = xv) := ⟨_, Lib.hid rfl⟩
    rw [Hxv.out] at hc0 hc2 HCL HE
    generalize xv % c * 3 = o at hc0 hc2 HCL
    clear hcall hP hJ hv hp2 hd
    rw [Hxv.out]
    gi_wp2_with (gi_at_call 37; refine (callsIn_wide.2 HCL.out).mono ?_; rintro e w' ⟨rfl, q, rfl⟩)
    refine region_tail_in (fun _ => trivial) rfl (fun _ _ _ _ h => callsIn_wide.2 h) 11 (by kernel_rfl) (by kernel_rfl) (by kernel_rfl) ?_
    intro w4 hw4
    rw [World.drewN_drewN] at hw4
    have g0 : w4.cell? ⟨dj, o, none⟩ = some (.int .u32 (tn : Int)) := by rw [hw4]; exact hc0
    have g2 : w4.cell? ⟨dj, o + 2, none⟩ = some (.int .i64 hv') := by rw [hw4]; exact hc2
    have gy : w4.cell? ⟨W.heap.size, 0, none⟩ = some (.func (.yield l) #[] #[]) := by rw [hw4]; exact hyb
    have HP4 : Hid (Priv l W.heap.size L p2 wc.heap.size Ft' w4) := Lib.hid (by rw [hw4]; exact HP2.out.keep (Nat.le_refl _) (fun _ _ _ => rfl) HP2.out.nf)
    have HJ4 : Hid (J pre Ft' w4) := Lib.hid (by rw [hw4]; exact HF.out _ _ _ _ HJ2.out (Stay.of_grown (grown_drewN W2 (q + 1) none) (by simp)))
    have Hst4 : Hid (Stay (fun _ => True) W2 w4) := Lib.hid (by rw [hw4]; exact Stay.of_grown (grown_drewN W2 (q + 1) none) (by simp))
    obtain ⟨fn, tmps, assign, body, hy, hR⟩ := HY.out 0 _ x Ft' w4 HJ4.out hlen2 HSP.out
    rw [HE.out] at hy
    have HR := Lib.hid hR
    clear hR hw4 hc0 hc2 hyb hbx HCL
    simp only [List.take_succ_cons, List.take_zero, List.drop_succ_cons, List.drop_zero]
    repeat still_step
    refine wpStill_nil ?_
    gi_wp2
    refine (round_in HR.out).mono ?_
    rintro e W3 (⟨rfl, Ft3, hJ3, hst⟩ | ⟨rfl, Ft3, hx3, hst⟩)
    · have HJ3 := Lib.hid hJ3
      have HP3 := Lib.hid (HP4.out.step hst HXn.out)
      have Hstp : Hid (Step X Ft' Ft3 W2 W3) := Lib.hid ⟨(Hst4.out.weaken fun _ _ _ => trivial).trans hst.stay, fun k hk => (hst.foot k hk).imp_right fun h => Nat.le_trans Hst4.out.size h⟩
      clear hJ3 hst hy
      gi_wp2
      exact ⟨Ft3, ⟨HJ3.out, HP3.out⟩, Hstp.out⟩
    · have HX3 := Lib.hid hx3
      have Hstp : Hid (Step X Ft' Ft3 W2 W3) := Lib.hid ⟨(Hst4.out.weaken fun _ _ _ => trivial).trans hst.stay, fun k hk => (hst.foot k hk).imp_right fun h => Nat.le_trans Hst4.out.size h⟩
      clear hx3 hst hy
      gi_wp2
      exact ⟨Ft3, ⟨rfl, HX3.out⟩, Hstp.out⟩
  case done =>
    rintro xs Ft3 W3 hS ⟨hJ, hP⟩ hD
    have HJ3 := Lib.hid hJ
    have HD := Lib.hid hD
    have HS := Lib.hid hS
    clear hJ hP hD hS
    gi_wp2
    refine ⟨by simp, .inl ⟨_, _, rfl, run_takeDeferred HD.out, ?_⟩⟩
    refine ⟨_, results_none rfl _ _ _, ⟨_, rfl⟩, .inl ⟨xs, Ft3, HS.out, HF.out _ _ _ _ HJ3.out (Stay.putObj _ _ _ _ fun h => ?_)⟩⟩
    rcases h with h | h
    · omega
    · obtain ⟨_, o, ho, hco⟩ := HO.out _ _ _ _ HJ3.out h
      rw [HD.out] at ho; cases ho; cases hco
  case stop =>
    rintro c pre Ft3 W3 hpre ⟨rfl, hJ⟩ hD
    have HJ3 := Lib.hid hJ
    have HD := Lib.hid hD
    have HS := Lib.hid hpre
    clear hJ hD hpre
    gi_wp2
    refine ⟨by simp, .inl ⟨_, _, rfl, run_takeDeferred HD.out, ?_⟩⟩
    refine ⟨_, results_none rfl _ _ _, ⟨_, rfl⟩, .inr ⟨pre, Ft3, HS.out, HFx.out _ _ _ _ HJ3.out (Stay.putObj _ _ _ _ fun h => ?_)⟩⟩
    rcases h with h | h
    · omega
    · obtain ⟨_, o, ho, hco⟩ := HOx.out _ _ _ _ HJ3.out h
      rw [HD.out] at ho; cases ho; cases hco
end Go.Proofs.Ytoopfoapkbjdkaa
