/-
  All and Back: the nodes of a list, one by one.
-/
import Derived.Test.YtmjccpgkgkindaaWalkB
namespace Go.Proofs.Ytmjccpgkgkindaa
open Go.RowKit Go.Shelf
set_option linter.unusedVariables false
attribute [local go_sem] Oper.semAt_some

theorem round_in {m m' l2 : Nat} {P : Program} {l : Nat} {f : FuncId} {tmps : Array Value} {assign body : Code} {w : World} {R : Ending → World → Prop}
    (h : RoundIn WF m P l f tmps assign body w R) : RoundIn (WF.inRound l2) m' P l f tmps assign body w R := ⟨h.1, fun c cs _ => h.2 c cs (fun d hd => by simp [Fence.wide] at hd)⟩
theorem walk_any (list : Int) (f g : FuncId) (a b : Array Value) (w : World) : Calls Try.prog 43 #[.int .i64 list, .func (.func f) a #[], .func (.func g) b #[]] w fun e w' => e = .returned (.func (.func 48) #[] #[.pointer (some ⟨w.heap.size + 1, 0, none⟩), .pointer (some ⟨w.heap.size, 0, none⟩), .pointer (some ⟨w.heap.size + 2, 0, none⟩)]) ∧ w' = ((w.alloc (.cells #[.int .i64 list] 3)).alloc (.cells #[.func (.func f) a #[]] 58)).alloc (.cells #[.func (.func g) b #[]] 59) := by
  go_enter Try.func43, Try.ntmps43
  go_wp2
  go_ret
  exact ⟨rfl, rfl⟩
theorem alloc4 (w : World) (o0 o1 o2 o3 : Obj) : w.grownBy ((((w.alloc o0).alloc o1).alloc o2).alloc o3) none ∧ ((((w.alloc o0).alloc o1).alloc o2).alloc o3).heap.size = w.heap.size + 4 ∧
    ((((w.alloc o0).alloc o1).alloc o2).alloc o3).heap[w.heap.size]? = some o0 ∧ ((((w.alloc o0).alloc o1).alloc o2).alloc o3).heap[w.heap.size + 1]? = some o1 ∧ ((((w.alloc o0).alloc o1).alloc o2).alloc o3).heap[w.heap.size + 2]? = some o2 ∧ ((((w.alloc o0).alloc o1).alloc o2).alloc o3).heap[w.heap.size + 3]? = some o3 := by
  have e : ((((w.alloc o0).alloc o1).alloc o2).alloc o3).heap.toList = w.heap.toList ++ [o0, o1, o2, o3] := by simp only [World.alloc, Array.toList_push, List.append_assoc, List.cons_append, List.nil_append]
  have g : ∀ (i : Nat) (o : Obj), [o0, o1, o2, o3][i]? = some o → ((((w.alloc o0).alloc o1).alloc o2).alloc o3).heap[w.heap.size + i]? = some o := fun i o h => by
    rw [← Array.getElem?_toList, e, List.getElem?_append_right (by rw [Array.length_toList]; omega), Array.length_toList, Nat.add_sub_cancel_left]; exact h
  exact ⟨grown_trans (grown_trans (grown_trans (World.grownBy_alloc _ _ none) (World.grownBy_alloc _ _ none)) (World.grownBy_alloc _ _ none)) (World.grownBy_alloc _ _ none), by simp only [World.size_alloc], g 0 _ rfl, g 1 _ rfl, g 2 _ rfl, g 3 _ rfl⟩

theorem all_any (p : Option Addr) (list : Int) (w : World) : Calls Try.prog 24 #[.pointer p, .int .i64 list] w fun e w' => e = .returned (.func (.func 42) #[] #[.pointer (some ⟨w.heap.size + 1, 0, none⟩), .pointer (some ⟨w.heap.size, 0, none⟩)]) ∧ w' = (w.alloc (.cells #[.pointer p] 23)).alloc (.cells #[.int .i64 list] 3) := by
  go_enter Try.func24, Try.ntmps24
  go_wp2
  go_ret
  exact ⟨rfl, rfl⟩
set_option maxRecDepth 100000 in
set_option maxHeartbeats 2000000 in
theorem all_seq (lo Bl Bc : Nat) (p : Option Addr) (list : Int) (xs : List Nat) (w : World) (hlen : xs.length ≤ 65536) (hcl : w.cell? ⟨Bl, 0, none⟩ = some (.int .i64 list)) (hcc : w.cell? ⟨Bc, 0, none⟩ = some (.pointer p))
    (hb : ∀ W, w.grownBy W none → Calls Try.prog 25 #[.pointer p, .int .i64 list] W fun e w' => e = .returned (tupO xs[0]?) ∧ ∃ q, w' = W.drewN q)
    (hs : ∀ (k x : Nat) W, xs[k]? = some x → w.grownBy W none → Calls Try.prog 27 #[.pointer p, .int .i32 (x : Int)] W fun e w' => e = .returned (tupO xs[k + 1]?) ∧ W = w') :
    Seq Try.prog (fun _ => False) lo 42 #[.pointer (some ⟨Bl, 0, none⟩), .pointer (some ⟨Bc, 0, none⟩)] (fun i : Nat => #[.int .i32 (i : Int)]) (fun ys => ys = xs) (fun pre => pre <+: xs) 65536 w := by
  intro n l X J Jx W F0 hgw hloW hX fJ fJx oJ oJx hpr hY h0 hF0
  have hclW := hgw.cell hcl (by simp)
  have hccW := hgw.cell hcc (by simp)
  have hBl : Bl < W.heap.size := World.block_lt_of_cell? W _ hclW
  have hBc : Bc < W.heap.size := World.block_lt_of_cell? W _ hccW
  have HB := Lib.hid hb
  have HS := Lib.hid hs
  have HGW := Lib.hid hgw
  have HY := Lib.hid hY
  have HF := Lib.hid fJ
  have HFx := Lib.hid fJx
  have HO := Lib.hid oJ
  have HOx := Lib.hid oJx
  have H0 := Lib.hid h0
  have HF0 := Lib.hid hF0
  have HX := Lib.hid hX
  clear hY fJ fJx oJ oJx h0 hF0 hcl hcc hgw hX hpr hb hs
  have hF : ∀ k, WF.fn k := fun _ => trivial
  have hDp : WF.depth.isSome = false := rfl
  refine callsIn_of_wp_marks Try.func42 rfl trivial ?_ rfl
  simp only [Try.ntmps42, List.size_toArray, List.length_cons, List.length_nil, Nat.reduceAdd, Nat.reduceSub, Array.replicate_succ, Array.replicate_zero, List.push_toArray, List.append_toArray, List.nil_append, List.cons_append]
  gi_wp2_with (gi_at_call 43; refine (callsIn_wide.2 (walk_any _ _ _ _ _ _)).mono ?_; rintro e w' ⟨rfl, rfl⟩)
  obtain ⟨hgx, hzx, b0, b1, b2, b3⟩ := alloc4 W (.cells #[.func (.yield l) #[] #[]] 46) (.cells #[.int .i64 list] 3) (.cells #[.func (.func 25) #[.pointer p] #[]] 58) (.cells #[.func (.func 27) #[.pointer p] #[]] 59)
  generalize (((W.alloc (.cells #[.func (.yield l) #[] #[]] 46)).alloc (.cells #[.int .i64 list] 3)).alloc (.cells #[.func (.func 25) #[.pointer p] #[]] 58)).alloc (.cells #[.func (.func 27) #[.pointer p] #[]] 59) = wx at hgx hzx b0 b1 b2 b3 ⊢
  have HSq := Lib.hid (walk_seq lo (W.heap.size + 2) (W.heap.size + 1) (W.heap.size + 3) p list xs wx hlen (cell_of_head b2 0) (cell_of_head b1 0) (cell_of_head b3 0) (fun W' hW' => HB.out W' (grown_trans (grown_trans HGW.out hgx) hW')) (fun k x W' hx hW' => HS.out k x W' hx (grown_trans (grown_trans HGW.out hgx) hW')))
  have HJx : Hid (J [] F0 wx) := Lib.hid (HF.out _ _ _ _ H0.out (Stay.of_grown hgx (by simp)))
  have HYB : Hid (wx.heap[W.heap.size]? = some (.cells #[.func (.yield l) #[] #[]] 46 (0, 0))) := Lib.hid b0
  have HXn : Hid (∀ k, W.heap.size ≤ k → ¬ X k) := Lib.hid fun k hk h => by have := (HX.out k h).2.1; omega
  clear b0 b1 b2 b3 HB HS HGW hclW hccW
  refine range_own (P := Try.prog) (α := Nat) (gf := 48) (lb := #[.pointer (some ⟨W.heap.size + 2, 0, none⟩), .pointer (some ⟨W.heap.size + 1, 0, none⟩), .pointer (some ⟨W.heap.size + 3, 0, none⟩)]) rfl (enters_of Try.func48 (by kernel_rfl) rfl) (Prot := fun _ => False) (fun _ h => h.elim)
    HSq.out (World.grownBy.refl _ _) (by omega) (fun _ => rfl) X (fun k hk => ⟨(HX.out k hk).1, by have := (HX.out k hk).2.1; omega, fun h => h⟩)
    (fun pre Ft' W' => J pre Ft' W' ∧ W'.heap[W.heap.size]? = some (.cells #[.func (.yield l) #[] #[]] 46 (0, 0)) ∧ ¬ Ft' W.heap.size)
    (fun c pre Ft' W' => c = .ret ∧ Jx pre Ft' W')
    ?_ ?_ ?_ ?_ (fun _ _ _ _ _ h => h.elim) F0 ⟨HJx.out, HYB.out, fun h => by have := HF0.out _ h; omega⟩ (fun k hk => by have := HF0.out k hk; omega) ?a1 ?assign ?body ?done ?stop
  case assign =>
    intro l2 m2 x W2 K hK
    gi_wp2
    exact hK
  · rintro pre Ft' W2 W3 ⟨hJ, hP, hN⟩ hst
    exact ⟨HF.out.mono (show W.heap.size ≤ wx.heap.size by omega) _ _ _ _ hJ hst, (hst.block _ (Array.getElem?_eq_some_iff.1 hP).1 (.inl (by omega))).trans hP, hN⟩
  · rintro c pre Ft' W2 W3 ⟨hc, hJ⟩ hst
    exact ⟨hc, HFx.out.mono (show W.heap.size ≤ wx.heap.size by omega) _ _ _ _ hJ hst⟩
  · rintro pre Ft' W2 k ⟨hJ, _⟩ hk; exact HO.out _ _ _ _ hJ hk
  · rintro c pre Ft' W2 k ⟨_, hJ⟩ hk; exact HOx.out _ _ _ _ hJ hk
  case body =>
    rintro l2 m2 pre x Ft' W2 ⟨hJ, hP, hN⟩ hlen2 hsp2
    have hyb := cell_of_head hP 0
    simp only [List.getElem?_toArray, List.getElem?_cons_zero] at hyb
    obtain ⟨fn, tmps, assign, body, hy, hR⟩ := HY.out 0 _ x Ft' W2 hJ hlen2 hsp2
    have HR := Lib.hid hR
    have HP := Lib.hid hP
    have HN := Lib.hid hN
    clear hR hP hN hJ
    gi_wp2
    refine (round_in HR.out).mono ?_
    rintro e W3 (⟨rfl, Ft3, hJ3, hst⟩ | ⟨rfl, Ft3, hx3, hst⟩)
    · have HJ3 := Lib.hid hJ3
      have hlt := (Array.getElem?_eq_some_iff.1 HP.out).1
      have HP3 := Lib.hid ((hst.stay.block _ hlt ⟨HN.out, HXn.out _ (Nat.le_refl _)⟩).trans HP.out)
      have HN3 : Hid (¬ Ft3 W.heap.size) := Lib.hid fun h => by
        rcases hst.foot _ h with h | h
        · exact HN.out h
        · omega
      have Hst := Lib.hid hst
      clear hJ3 hst hy hyb hlt
      gi_wp2
      exact ⟨Ft3, ⟨HJ3.out, HP3.out, HN3.out⟩, Hst.out⟩
    · have HX3 := Lib.hid hx3
      have Hst := Lib.hid hst
      clear hx3 hst hy hyb
      gi_wp2
      exact ⟨Ft3, ⟨rfl, HX3.out⟩, Hst.out⟩
  case done =>
    rintro ys Ft3 W3 hS ⟨hJ, hP, hN⟩ hD
    have HJ3 := Lib.hid hJ
    have HD := Lib.hid hD
    have HS := Lib.hid hS
    clear hJ hP hN hD hS
    gi_wp2
    refine ⟨by simp, .inl ⟨_, _, rfl, run_takeDeferred HD.out, ?_⟩⟩
    refine ⟨_, results_none rfl _ _ _, ⟨_, rfl⟩, .inl ⟨ys, Ft3, HS.out, HF.out _ _ _ _ HJ3.out (Stay.putObj _ _ _ _ fun h => ?_)⟩⟩
    rcases h with h | h
    · omega
    · obtain ⟨_, o, ho, hco⟩ := HO.out _ _ _ _ HJ3.out h
      rw [HD.out] at ho; cases ho; cases hco
  case stop =>
    rintro c pre Ft3 W3 hpre ⟨rfl, hJ⟩ hD
    have HJ3 := Lib.hid hJ
    have HD := Lib.hid hD
    have HS := Lib.hid hpre
    clear hJ hD hpre
    gi_wp2
    refine ⟨by simp, .inl ⟨_, _, rfl, run_takeDeferred HD.out, ?_⟩⟩
    refine ⟨_, results_none rfl _ _ _, ⟨_, rfl⟩, .inr ⟨pre, Ft3, HS.out, HFx.out _ _ _ _ HJ3.out (Stay.putObj _ _ _ _ fun h => ?_)⟩⟩
    rcases h with h | h
    · omega
    · obtain ⟨_, o, ho, hco⟩ := HOx.out _ _ _ _ HJ3.out h
      rw [HD.out] at ho; cases ho; cases hco

theorem back_any (p : Option Addr) (list : Int) (w : World) : Calls Try.prog 40 #[.pointer p, .int .i64 list] w fun e w' => e = .returned (.func (.func 47) #[] #[.pointer (some ⟨w.heap.size + 1, 0, none⟩), .pointer (some ⟨w.heap.size, 0, none⟩)]) ∧ w' = (w.alloc (.cells #[.pointer p] 23)).alloc (.cells #[.int .i64 list] 3) := by
  go_enter Try.func40, Try.ntmps40
  go_wp2
  go_ret
  exact ⟨rfl, rfl⟩
set_option maxRecDepth 100000 in
set_option maxHeartbeats 2000000 in
theorem back_seq (lo Bl Bc : Nat) (p : Option Addr) (list : Int) (xs : List Nat) (w : World) (hlen : xs.length ≤ 65536) (hcl : w.cell? ⟨Bl, 0, none⟩ = some (.int .i64 list)) (hcc : w.cell? ⟨Bc, 0, none⟩ = some (.pointer p))
    (hb : ∀ W, w.grownBy W none → Calls Try.prog 26 #[.pointer p, .int .i64 list] W fun e w' => e = .returned (tupO xs[0]?) ∧ ∃ q, w' = W.drewN q)
    (hs : ∀ (k x : Nat) W, xs[k]? = some x → w.grownBy W none → Calls Try.prog 28 #[.pointer p, .int .i32 (x : Int)] W fun e w' => e = .returned (tupO xs[k + 1]?) ∧ W = w') :
    Seq Try.prog (fun _ => False) lo 47 #[.pointer (some ⟨Bl, 0, none⟩), .pointer (some ⟨Bc, 0, none⟩)] (fun i : Nat => #[.int .i32 (i : Int)]) (fun ys => ys = xs) (fun pre => pre <+: xs) 65536 w := by
  intro n l X J Jx W F0 hgw hloW hX fJ fJx oJ oJx hpr hY h0 hF0
  have hclW := hgw.cell hcl (by simp)
  have hccW := hgw.cell hcc (by simp)
  have hBl : Bl < W.heap.size := World.block_lt_of_cell? W _ hclW
  have hBc : Bc < W.heap.size := World.block_lt_of_cell? W _ hccW
  have HB := Lib.hid hb
  have HS := Lib.hid hs
  have HGW := Lib.hid hgw
  have HY := Lib.hid hY
  have HF := Lib.hid fJ
  have HFx := Lib.hid fJx
  have HO := Lib.hid oJ
  have HOx := Lib.hid oJx
  have H0 := Lib.hid h0
  have HF0 := Lib.hid hF0
  have HX := Lib.hid hX
  clear hY fJ fJx oJ oJx h0 hF0 hcl hcc hgw hX hpr hb hs
  have hF : ∀ k, WF.fn k := fun _ => trivial
  have hDp : WF.depth.isSome = false := rfl
  refine callsIn_of_wp_marks Try.func47 rfl trivial ?_ rfl
  simp only [Try.ntmps47, List.size_toArray, List.length_cons, List.length_nil, Nat.reduceAdd, Nat.reduceSub, Array.replicate_succ, Array.replicate_zero, List.push_toArray, List.append_toArray, List.nil_append, List.cons_append]
  gi_wp2_with (gi_at_call 43; refine (callsIn_wide.2 (walk_any _ _ _ _ _ _)).mono ?_; rintro e w' ⟨rfl, rfl⟩)
  obtain ⟨hgx, hzx, b0, b1, b2, b3⟩ := alloc4 W (.cells #[.func (.yield l) #[] #[]] 46) (.cells #[.int .i64 list] 3) (.cells #[.func (.func 26) #[.pointer p] #[]] 58) (.cells #[.func (.func 28) #[.pointer p] #[]] 59)
  generalize (((W.alloc (.cells #[.func (.yield l) #[] #[]] 46)).alloc (.cells #[.int .i64 list] 3)).alloc (.cells #[.func (.func 26) #[.pointer p] #[]] 58)).alloc (.cells #[.func (.func 28) #[.pointer p] #[]] 59) = wx at hgx hzx b0 b1 b2 b3 ⊢
  have HSq := Lib.hid (walkb_seq lo (W.heap.size + 2) (W.heap.size + 1) (W.heap.size + 3) p list xs wx hlen (cell_of_head b2 0) (cell_of_head b1 0) (cell_of_head b3 0) (fun W' hW' => HB.out W' (grown_trans (grown_trans HGW.out hgx) hW')) (fun k x W' hx hW' => HS.out k x W' hx (grown_trans (grown_trans HGW.out hgx) hW')))
  have HJx : Hid (J [] F0 wx) := Lib.hid (HF.out _ _ _ _ H0.out (Stay.of_grown hgx (by simp)))
  have HYB : Hid (wx.heap[W.heap.size]? = some (.cells #[.func (.yield l) #[] #[]] 46 (0, 0))) := Lib.hid b0
  have HXn : Hid (∀ k, W.heap.size ≤ k → ¬ X k) := Lib.hid fun k hk h => by have := (HX.out k h).2.1; omega
  clear b0 b1 b2 b3 HB HS HGW hclW hccW
  refine range_own (P := Try.prog) (α := Nat) (gf := 48) (lb := #[.pointer (some ⟨W.heap.size + 2, 0, none⟩), .pointer (some ⟨W.heap.size + 1, 0, none⟩), .pointer (some ⟨W.heap.size + 3, 0, none⟩)]) rfl (enters_of Try.func48 (by kernel_rfl) rfl) (Prot := fun _ => False) (fun _ h => h.elim)
    HSq.out (World.grownBy.refl _ _) (by omega) (fun _ => rfl) X (fun k hk => ⟨(HX.out k hk).1, by have := (HX.out k hk).2.1; omega, fun h => h⟩)
    (fun pre Ft' W' => J pre Ft' W' ∧ W'.heap[W.heap.size]? = some (.cells #[.func (.yield l) #[] #[]] 46 (0, 0)) ∧ ¬ Ft' W.heap.size)
    (fun c pre Ft' W' => c = .ret ∧ Jx pre Ft' W')
    ?_ ?_ ?_ ?_ (fun _ _ _ _ _ h => h.elim) F0 ⟨HJx.out, HYB.out, fun h => by have := HF0.out _ h; omega⟩ (fun k hk => by have := HF0.out k hk; omega) ?a1 ?assign ?body ?done ?stop
  case assign =>
    intro l2 m2 x W2 K hK
    gi_wp2
    exact hK
  · rintro pre Ft' W2 W3 ⟨hJ, hP, hN⟩ hst
    exact ⟨HF.out.mono (show W.heap.size ≤ wx.heap.size by omega) _ _ _ _ hJ hst, (hst.block _ (Array.getElem?_eq_some_iff.1 hP).1 (.inl (by omega))).trans hP, hN⟩
  · rintro c pre Ft' W2 W3 ⟨hc, hJ⟩ hst
    exact ⟨hc, HFx.out.mono (show W.heap.size ≤ wx.heap.size by omega) _ _ _ _ hJ hst⟩
  · rintro pre Ft' W2 k ⟨hJ, _⟩ hk; exact HO.out _ _ _ _ hJ hk
  · rintro c pre Ft' W2 k ⟨_, hJ⟩ hk; exact HOx.out _ _ _ _ hJ hk
  case body =>
    rintro l2 m2 pre x Ft' W2 ⟨hJ, hP, hN⟩ hlen2 hsp2
    have hyb := cell_of_head hP 0
    simp only [List.getElem?_toArray, List.getElem?_cons_zero] at hyb
    obtain ⟨fn, tmps, assign, body, hy, hR⟩ := HY.out 0 _ x Ft' W2 hJ hlen2 hsp2
    have HR := Lib.hid hR
    have HP := Lib.hid hP
    have HN := Lib.hid hN
    clear hR hP hN hJ
    gi_wp2
    refine (round_in HR.out).mono ?_
    rintro e W3 (⟨rfl, Ft3, hJ3, hst⟩ | ⟨rfl, Ft3, hx3, hst⟩)
    · have HJ3 := Lib.hid hJ3
      have hlt := (Array.getElem?_eq_some_iff.1 HP.out).1
      have HP3 := Lib.hid ((hst.stay.block _ hlt ⟨HN.out, HXn.out _ (Nat.le_refl _)⟩).trans HP.out)
      have HN3 : Hid (¬ Ft3 W.heap.size) := Lib.hid fun h => by
        rcases hst.foot _ h with h | h
        · exact HN.out h
        · omega
      have Hst := Lib.hid hst
      clear hJ3 hst hy hyb hlt
      gi_wp2
      exact ⟨Ft3, ⟨HJ3.out, HP3.out, HN3.out⟩, Hst.out⟩
    · have HX3 := Lib.hid hx3
      have Hst := Lib.hid hst
      clear hx3 hst hy hyb
      gi_wp2
      exact ⟨Ft3, ⟨rfl, HX3.out⟩, Hst.out⟩
  case done =>
    rintro ys Ft3 W3 hS ⟨hJ, hP, hN⟩ hD
    have HJ3 := Lib.hid hJ
    have HD := Lib.hid hD
    have HS := Lib.hid hS
    clear hJ hP hN hD hS
    gi_wp2
    refine ⟨by simp, .inl ⟨_, _, rfl, run_takeDeferred HD.out, ?_⟩⟩
    refine ⟨_, results_none rfl _ _ _, ⟨_, rfl⟩, .inl ⟨ys, Ft3, HS.out, HF.out _ _ _ _ HJ3.out (Stay.putObj _ _ _ _ fun h => ?_)⟩⟩
    rcases h with h | h
    · omega
    · obtain ⟨_, o, ho, hco⟩ := HO.out _ _ _ _ HJ3.out h
      rw [HD.out] at ho; cases ho; cases hco
  case stop =>
    rintro c pre Ft3 W3 hpre ⟨rfl, hJ⟩ hD
    have HJ3 := Lib.hid hJ
    have HD := Lib.hid hD
    have HS := Lib.hid hpre
    clear hJ hD hpre
    gi_wp2
    refine ⟨by simp, .inl ⟨_, _, rfl, run_takeDeferred HD.out, ?_⟩⟩
    refine ⟨_, results_none rfl _ _ _, ⟨_, rfl⟩, .inr ⟨pre, Ft3, HS.out, HFx.out _ _ _ _ HJ3.out (Stay.putObj _ _ _ _ fun h => ?_)⟩⟩
    rcases h with h | h
    · omega
    · obtain ⟨_, o, ho, hco⟩ := HOx.out _ _ _ _ HJ3.out h
      rw [HD.out] at ho; cases ho; cases hco
end Go.Proofs.Ytmjccpgkgkindaa
