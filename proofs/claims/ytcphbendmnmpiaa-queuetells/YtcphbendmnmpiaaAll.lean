/-
  All: each place and what is there, as they were when the going through began.
-/
import Derived.Test.YtcphbendmnmpiaaThings
namespace Go.Proofs.Ytcphbendmnmpiaa
open Go.RowKit Go.Shelf
set_option linter.unusedVariables false
attribute [local go_sem] Oper.semAt_some

theorem all_any (p : Option Addr) (w : World) : Calls Try.prog 17 #[.pointer p] w fun e w' => e = .returned (.func (.func 23) #[] #[.pointer (some ⟨w.heap.size, 0, none⟩)]) ∧ w' = w.alloc (.cells #[.pointer p] 23) := by
  go_enter Try.func17, Try.ntmps17
  go_wp2
  go_ret
  exact ⟨rfl, rfl⟩
theorem round_in {m m' l2 : Nat} {P : Program} {l : Nat} {f : FuncId} {tmps : Array Value} {assign body : Code} {w : World} {R : Ending → World → Prop}
    (h : RoundIn WF m P l f tmps assign body w R) : RoundIn (WF.inRound l2) m' P l f tmps assign body w R := ⟨h.1, fun c cs _ => h.2 c cs (fun d hd => by simp [Fence.wide] at hd)⟩
/-- places and things -/
def enum (xs : List Int) : List (Nat × Int) := (List.range xs.length).zip xs
theorem enum_snoc (xs : List Int) (x : Int) : enum (xs ++ [x]) = enum xs ++ [(xs.length, x)] := by
  unfold enum
  rw [List.length_append, List.length_singleton, List.range_succ, List.zip_append (by simp)]
  rfl
theorem enum_length (xs : List Int) : (enum xs).length = xs.length := by simp [enum]
theorem enum_append : ∀ (t a : List Int), enum a <+: enum (a ++ t)
  | [], a => by rw [List.append_nil]; exact List.prefix_refl _
  | x :: t, a => by
    have h := enum_append t (a ++ [x])
    rw [enum_snoc, List.append_assoc] at h
    exact (List.prefix_append _ _).trans h
theorem enum_prefix {a b : List Int} (h : a <+: b) : enum a <+: enum b := by
  obtain ⟨t, rfl⟩ := h
  exact enum_append t a
theorem alloc3 (w : World) (o0 o1 o2 : Obj) : w.grownBy (((w.alloc o0).alloc o1).alloc o2) none ∧ (((w.alloc o0).alloc o1).alloc o2).heap.size = w.heap.size + 3 ∧
    (((w.alloc o0).alloc o1).alloc o2).heap[w.heap.size]? = some o0 ∧ (((w.alloc o0).alloc o1).alloc o2).heap[w.heap.size + 1]? = some o1 ∧ (((w.alloc o0).alloc o1).alloc o2).heap[w.heap.size + 2]? = some o2 := by
  have e : (((w.alloc o0).alloc o1).alloc o2).heap.toList = w.heap.toList ++ [o0, o1, o2] := by simp only [World.alloc, Array.toList_push, List.append_assoc, List.cons_append, List.nil_append]
  have g : ∀ (i : Nat) (o : Obj), [o0, o1, o2][i]? = some o → (((w.alloc o0).alloc o1).alloc o2).heap[w.heap.size + i]? = some o := fun i o h => by
    rw [← Array.getElem?_toList, e, List.getElem?_append_right (by rw [Array.length_toList]; omega), Array.length_toList, Nat.add_sub_cancel_left]; exact h
  exact ⟨grown_trans (grown_trans (World.grownBy_alloc _ _ none) (World.grownBy_alloc _ _ none)) (World.grownBy_alloc _ _ none), by simp only [World.size_alloc], g 0 _ rfl, g 1 _ rfl, g 2 _ rfl⟩
/-- a cell in a box of its own -/
def Boxed (w : World) (b : Nat) (t : TypeId) (v : Value) : Prop := w.heap[b]? = some (.cells #[v] t (0, 0))
section
variable {w w' : World} {b : Nat} {t : TypeId} {v : Value}
theorem Boxed.new (w : World) (t : TypeId) (v : Value) : Boxed (w.alloc (.cells #[v] t)) w.heap.size t v := heap_alloc_new w _
theorem Boxed.cell (h : Boxed w b t v) : w.cell? ⟨b, 0, none⟩ = some v := by rw [cell_of_head h]; rfl
theorem Boxed.frozen (h : Boxed w b t v) : w.frozen? ⟨b, 0, none⟩ = false := frozen_of_head h 0
theorem Boxed.lt (h : Boxed w b t v) : b < w.heap.size := (Array.getElem?_eq_some_iff.1 h).1
theorem Boxed.kept (h : Boxed w b t v) {row : Option Nat} (hg : w.grownBy w' row) (hr : some b ≠ row) : Boxed w' b t v := (hg.block b h.lt hr).trans h
theorem Boxed.alloc (h : Boxed w b t v) (o : Obj) : Boxed (w.alloc o) b t v := h.kept (World.grownBy_alloc w o none) (by simp)
theorem Boxed.set (h : Boxed w b t v) (v' : Value) : Boxed (w.setCell ⟨b, 0, none⟩ v') b t v' := by
  have := head_set h 0 v'
  simpa [Boxed] using this
theorem Boxed.setOther (h : Boxed w b t v) {g i : Nat} (hg : g ≠ b) (v' : Value) : Boxed (w.setCell ⟨g, i, none⟩ v') b t v := (heap_setCell_other w ⟨g, i, none⟩ b v' (fun e => hg e.symm)).trans h
end
/-- what holds between two rounds -/
structure Priv (l By : Nat) (n : Nat) (Ft : Nat → Prop) (W : World) : Prop where
  yb : Boxed W By 57 (.func (.yield l) #[] #[])
  pb : Boxed W (By + 1) 3 (.int .i64 (n : Int))
  nf : ¬ Ft By ∧ ¬ Ft (By + 1)
def AInv (J : List (Nat × Int) → (Nat → Prop) → World → Prop) (l By : Nat) (pre : List Int) (Fi : Nat → Prop) (W : World) : Prop :=
  ∃ Ft, Fi = (fun k => Ft k ∨ k = By + 1) ∧ J (enum pre) Ft W ∧ Priv l By pre.length Ft W

set_option maxRecDepth 100000 in
set_option maxHeartbeats 2000000 in
theorem all_seq (lo Bn : Nat) (p : Option Addr) (xs : List Int) (w : World) (hlen : xs.length ≤ 65536) (hc : w.cell? ⟨Bn, 0, none⟩ = some (.pointer p)) (ht : Tells w p xs) :
    Seq Try.prog (fun _ => False) lo 23 #[.pointer (some ⟨Bn, 0, none⟩)] (fun x : Nat × Int => #[.int .i64 (x.1 : Int), .int .i64 x.2]) (fun ys => ys = enum xs) (fun pre => pre <+: enum xs) 65536 w := by
  intro n l X J Jx W F0 hgw hloW hX fJ fJx oJ oJx hpr hY h0 hF0
  have hcW := hgw.cell hc (by simp)
  have hBn : Bn < W.heap.size := World.block_lt_of_cell? W _ hcW
  have HT := Lib.hid (ht.grow hgw)
  have HY := Lib.hid hY
  have HF := Lib.hid fJ
  have HFx := Lib.hid fJx
  have HO := Lib.hid oJ
  have HOx := Lib.hid oJx
  have H0 := Lib.hid h0
  have HF0 := Lib.hid hF0
  have HX := Lib.hid hX
  clear hY fJ fJx oJ oJx h0 hF0 hc hgw hX ht hpr
  have hF : ∀ k, WF.fn k := fun _ => trivial
  have hDp : WF.depth.isSome = false := rfl
  refine callsIn_of_wp_marks Try.func23 rfl trivial ?_ rfl
  simp only [Try.ntmps23, List.size_toArray, List.length_cons, List.length_nil, Nat.reduceAdd, Nat.reduceSub, Array.replicate_succ, Array.replicate_zero, List.push_toArray, List.append_toArray, List.nil_append, List.cons_append]
  gi_wp2_with (first | (gi_at_call 24; refine (callsIn_wide.2 (things_any _ _)).mono ?_; rintro e w' ⟨rfl, rfl⟩))
  obtain ⟨hgx, hzx, b0, b1, b2⟩ := alloc3 W (.cells #[.func (.yield l) #[] #[]] 57) (.cells #[.int .i64 0] 3) (.cells #[.pointer p] 23)
  generalize ((W.alloc (.cells #[.func (.yield l) #[] #[]] 57)).alloc (.cells #[.int .i64 0] 3)).alloc (.cells #[.pointer p] 23) = wx at hgx hzx b0 b1 b2 ⊢
  have HSq := Lib.hid (things_seq lo (W.heap.size + 2) p xs wx hlen (cell_of_head b2 0) (HT.out.grow hgx))
  have HJx : Hid (J (enum []) F0 wx) := Lib.hid (HF.out _ _ _ _ H0.out (Stay.of_grown hgx (by simp)))
  have HP0 : Hid (Priv l W.heap.size 0 F0 wx) := Lib.hid ⟨b0, b1, fun h => by have := HF0.out _ h; omega, fun h => by have := HF0.out _ h; omega⟩
  have HXn : Hid (∀ k, W.heap.size ≤ k → ¬ X k) := Lib.hid fun k hk h => by have := (HX.out k h).2.1; omega
  clear b0 b1 b2 hcW HT
  refine range_own (P := Try.prog) (α := Int) (gf := 29) (lb := #[.pointer (some ⟨W.heap.size + 2, 0, none⟩)]) rfl (enters_of Try.func29 (by kernel_rfl) rfl) (Prot := fun _ => False) (fun _ h => h.elim)
    HSq.out (World.grownBy.refl _ _) (by omega) (fun _ => rfl) X (fun k hk => ⟨(HX.out k hk).1, by have := (HX.out k hk).2.1; omega, fun h => h⟩)
    (AInv J l W.heap.size) (fun c pre Ft' W' => c = .ret ∧ Jx (enum pre) Ft' W')
    ?_ ?_ ?_ ?_ (fun _ _ _ _ _ h => h.elim) (fun k => F0 k ∨ k = W.heap.size + 1) ⟨F0, rfl, HJx.out, HP0.out⟩ (fun k hk => by rcases hk with hk | hk; have := HF0.out k hk; omega; omega) ?a1 ?assign ?body ?done ?stop
  case assign =>
    intro l2 m2 x W2 K hK
    gi_wp2
    exact hK
  · rintro pre Fi W2 W3 ⟨Ft, rfl, hJ, hP⟩ hst
    refine ⟨Ft, rfl, HF.out.mono (show W.heap.size ≤ wx.heap.size by omega) _ _ _ _ hJ (hst.weaken fun k _ hk => hk.imp_right .inl), ?_, ?_, hP.nf⟩
    · exact (hst.block _ hP.yb.lt (.inl (by omega))).trans hP.yb
    · exact (hst.block _ hP.pb.lt (.inl (by omega))).trans hP.pb
  · rintro c pre Ft W2 W3 ⟨hc, hJ⟩ hst
    exact ⟨hc, HFx.out.mono (show W.heap.size ≤ wx.heap.size by omega) _ _ _ _ hJ hst⟩
  · rintro pre Fi W2 k ⟨Ft, rfl, hJ, hP⟩ hk
    rcases hk with hk | rfl
    · exact HO.out _ _ _ _ hJ hk
    · exact ⟨by omega, _, hP.pb, rfl⟩
  · rintro c pre Ft W2 k ⟨_, hJ⟩ hk; exact HOx.out _ _ _ _ hJ hk
  case body =>
    rintro l2 m2 pre x Fi W2 ⟨Ft, rfl, hJ, hP⟩ hlen2 hsp
    have hcy := hP.yb.cell
    have hcp := hP.pb.cell
    obtain ⟨fn, tmps, assign, body, hy, hR⟩ := HY.out 0 (enum pre) (pre.length, x) Ft W2 hJ (by rw [enum_length]; exact hlen2) (by rw [← enum_snoc]; exact enum_prefix hsp)
    have HR := Lib.hid hR
    have HP := Lib.hid hP
    obtain ⟨np, Hnp⟩ : ∃ np, Hid (pre.length = np) := ⟨_, Lib.hid rfl⟩
    rw [Hnp.out] at hcp hy HP hlen2
    clear hR hJ hP hsp
    dsimp only at hy
    gi_wp2
    refine (round_in HR.out).mono ?_
    rintro e W3 (⟨rfl, Ft3, hJ3, hst⟩ | ⟨rfl, Ft3, hx3, hst⟩)
    · rw [← enum_snoc] at hJ3
      have hz := HP.out.pb.lt
      have hby := HP.out.yb.lt
      have hyb : Boxed W3 W.heap.size 57 (.func (.yield l) #[] #[]) := (hst.stay.block _ hby ⟨HP.out.nf.1, HXn.out _ (Nat.le_refl _)⟩).trans HP.out.yb
      have hpb : Boxed W3 (W.heap.size + 1) 3 (.int .i64 (np : Int)) := (hst.stay.block _ hz ⟨HP.out.nf.2, HXn.out _ (by omega)⟩).trans HP.out.pb
      have hnf : ¬ Ft3 W.heap.size ∧ ¬ Ft3 (W.heap.size + 1) := ⟨fun h => (hst.foot _ h).elim HP.out.nf.1 (by omega), fun h => (hst.foot _ h).elim HP.out.nf.2 (by omega)⟩
      have hcp3 := hpb.cell
      have hfp3 := hpb.frozen
      have HFin : Hid (∀ W4, W4 = W3.setCell ⟨W.heap.size + 1, 0, none⟩ (.int .i64 ((np : Int) + 1)) → ∃ Ft', AInv J l W.heap.size (pre ++ [x]) Ft' W4 ∧ Step X (fun k => Ft k ∨ k = W.heap.size + 1) Ft' W2 W4) := Lib.hid (by
        rintro W4 rfl
        refine ⟨fun k => Ft3 k ∨ k = W.heap.size + 1, ⟨Ft3, rfl, HF.out _ _ _ _ hJ3 (Stay.of_grown (grown_setCell W3 _ 0 _) fun r e _ hs => ?_), ?_, ?_, hnf⟩, ⟨?_, fun k hk => ?_⟩⟩
        · injection e with e
          subst e
          exact hs.elim (fun h => by omega) hnf.2
        · exact hyb.setOther (by omega) _
        · have := hpb.set (.int .i64 ((np : Int) + 1))
          rw [List.length_append, List.length_singleton, Hnp.out]
          exact this
        · refine (hst.stay.weaken fun k _ hk => ⟨fun h => hk.1 (.inl h), hk.2⟩).trans (Stay.of_grown (grown_setCell W3 _ 0 _) fun r e _ hs => ?_)
          injection e with e
          exact hs.1 (.inr e.symm)
        · rcases hk with hk | hk
          · rcases hst.foot k hk with h | h
            · exact .inl (.inl h)
            · exact .inr h
          · exact .inl (.inr hk))
      clear hJ3 hst hy hz hby hyb hpb hnf
      gi_wp2
      exact HFin.out _ rfl
    · rw [← enum_snoc] at hx3
      have HX3 := Lib.hid hx3
      have Hstp : Hid (Step X (fun k => Ft k ∨ k = W.heap.size + 1) Ft3 W2 W3) := Lib.hid ⟨hst.stay.weaken fun k _ hk => ⟨fun h => hk.1 (.inl h), hk.2⟩, fun k hk => (hst.foot k hk).imp_left .inl⟩
      clear hx3 hst hy
      gi_wp2
      exact ⟨Ft3, ⟨rfl, HX3.out⟩, Hstp.out⟩
  case done =>
    rintro ys Fi W3 rfl ⟨Ft, rfl, hJ, hP⟩ hD
    have HJ3 := Lib.hid hJ
    have HD := Lib.hid hD
    clear hJ hP hD
    gi_wp2
    refine ⟨by simp, .inl ⟨_, _, rfl, run_takeDeferred HD.out, ?_⟩⟩
    refine ⟨_, results_none rfl _ _ _, ⟨_, rfl⟩, .inl ⟨_, Ft, rfl, HF.out _ _ _ _ HJ3.out (Stay.putObj _ _ _ _ fun h => ?_)⟩⟩
    rcases h with h | h
    · omega
    · obtain ⟨_, o, ho, hco⟩ := HO.out _ _ _ _ HJ3.out h
      rw [HD.out] at ho; cases ho; cases hco
  case stop =>
    rintro c pre Ft3 W3 hpre ⟨rfl, hJ⟩ hD
    have HJ3 := Lib.hid hJ
    have HD := Lib.hid hD
    have HS := Lib.hid (enum_prefix hpre)
    clear hJ hD hpre
    gi_wp2
    refine ⟨by simp, .inl ⟨_, _, rfl, run_takeDeferred HD.out, ?_⟩⟩
    refine ⟨_, results_none rfl _ _ _, ⟨_, rfl⟩, .inr ⟨_, Ft3, HS.out, HFx.out _ _ _ _ HJ3.out (Stay.putObj _ _ _ _ fun h => ?_)⟩⟩
    rcases h with h | h
    · omega
    · obtain ⟨_, o, ho, hco⟩ := HOx.out _ _ _ _ HJ3.out h
      rw [HD.out] at ho; cases ho; cases hco
end Go.Proofs.Ytcphbendmnmpiaa
