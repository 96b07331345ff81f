/-
  The first nodes of a list, at most so many, from its beginning and from its end.
-/
import Derived.Test.YtmjccpgkgkindaaAll
namespace Go.Proofs.Ytmjccpgkgkindaa
open Go.RowKit Go.Shelf
set_option linter.unusedVariables false
attribute [local go_sem] Oper.semAt_some

theorem run_eql_func_nil {P : Program} (w : World) {t : TypeId} {ps rs : Array TypeId} {vr : Bool} (f : Fn) (a b : Array Value) (ht : P.underlying t = some (.func ps rs vr)) :
    (binOp .eql t (.func f a b) .nilFunc).run P w = .ok (.bool false) w := by
  have h : ∀ d : Nat, (Op.equalIn (d + 1) t (.func f a b) .nilFunc).run P w = .ok false w := fun d => by
    simp [Op.equalIn, run_underlying ht]
  simp only [binOp]
  simp [Op.equal, Op.maxDepth, h 9999]
/-- the blocks that a slice in a box owns: the box, and its row -/
def foot (Bl : Nat) (v : Value) : Nat → Prop := fun k => k = Bl ∨ v.ownBlock = some k
/-- what a box and its row hold stays where they lie as they lay -/
theorem coll_stay {n0 Bl : Nat} {xs : List Nat} {v : Value} {S : Nat → Prop} {W W' : World} (hb : Boxed W Bl 43 v) (hr : W.ownsRow n0 21 1 v xs.length (nvals xs)) (hs : Stay S W W') (hS : ∀ k, foot Bl v k → S k) :
    Boxed W' Bl 43 v ∧ W'.ownsRow n0 21 1 v xs.length (nvals xs) := by
  refine ⟨(hs.block _ hb.lt (hS _ (.inl rfl))).trans hb, hr.1, ?_⟩
  rcases hr.2 with h | ⟨g, cap, cur, rfl, hbg, hgb, r⟩
  · exact .inl h
  · exact .inr ⟨g, cap, cur, rfl, hbg, (hs.block g (Array.getElem?_eq_some_iff.1 hgb).1 (hS _ (.inr rfl))).trans hgb, r⟩
theorem coll_owned {n0 Bl lo : Nat} {xs : List Nat} {v : Value} {W : World} (hb : Boxed W Bl 43 v) (hr : W.ownsRow n0 21 1 v xs.length (nvals xs)) (hB : lo ≤ Bl) (hn : lo ≤ n0) {k : Nat} (hk : foot Bl v k) : lo ≤ k ∧ ∃ o : Obj, W.heap[k]? = some o ∧ o.isCells = true := by
  rcases hk with rfl | hk
  · exact ⟨hB, _, hb, rfl⟩
  · rcases hr.2 with ⟨rfl, _⟩ | ⟨g, cap, cur, rfl, hbg, hgb, r⟩
    · cases hk
    · injection hk with hk
      have hk : g = k := hk
      subst hk
      exact ⟨Nat.le_trans hn hbg, _, hgb, rfl⟩
/-- one more is collected -/
theorem coll_push {n0 Bl : Nat} {xs : List Nat} {v : Value} {W w1 : World} {x g' cap' : Nat} {o : Obj} (hb : Boxed W Bl 43 v) (hr : W.ownsRow n0 21 1 v xs.length (nvals xs))
    (ho : w1.ownsRow n0 21 1 (.slice (some ⟨g', 0, none⟩) (xs.length + 1) cap') (xs.length + 1) (nvals xs ++ [.int .i32 (x : Int)])) (hg : (W.alloc o).grownBy w1 v.ownBlock) (hf : v.ownBlock = some g' ∨ (W.alloc o).heap.size ≤ g') :
    Boxed w1 Bl 43 v ∧ Boxed (w1.setCell ⟨Bl, 0, none⟩ (.slice (some ⟨g', 0, none⟩) (xs.length + 1) cap')) Bl 43 (.slice (some ⟨g', 0, none⟩) (xs.length + 1) cap') ∧
    (w1.setCell ⟨Bl, 0, none⟩ (.slice (some ⟨g', 0, none⟩) (xs.length + 1) cap')).ownsRow n0 21 1 (.slice (some ⟨g', 0, none⟩) (xs.length + 1) cap') (xs ++ [x]).length (nvals (xs ++ [x])) ∧
    ∀ X : Nat → Prop, Step X (foot Bl v) (foot Bl (.slice (some ⟨g', 0, none⟩) (xs.length + 1) cap')) W (w1.setCell ⟨Bl, 0, none⟩ (.slice (some ⟨g', 0, none⟩) (xs.length + 1) cap')) := by
  have hbv : some Bl ≠ v.ownBlock := hb.not_row (by decide) hr
  have hb1 : Boxed w1 Bl 43 v := (hb.alloc o).kept hg hbv
  have hne : g' ≠ Bl := by
    rintro rfl
    have := hb1.not_row (by decide) ho
    exact this rfl
  have hz : (W.alloc o).heap.size = W.heap.size + 1 := by simp
  refine ⟨hb1, hb1.set _, ?_, fun X => ⟨⟨?_, ?_, ?_, ?_, fun k hk hs => ?_⟩, fun k hk => ?_⟩⟩
  · rw [List.length_append, nvals_snoc]
    exact ho.kept (grownBy_setCell' w1 Bl _) (.inr (fun e => hne (by injection e)))
  · exact hg.os
  · exact hg.tape
  · exact hg.output
  · have := hg.size; simp; omega
  · have hk1 : k ≠ Bl := fun e => hs.1 (.inl e)
    have hk2 : some k ≠ v.ownBlock := fun e => hs.1 (.inr e.symm)
    refine (Below.heap_setCell _ _ _ k hk1).trans ((hg.block k (by omega) hk2).trans (Below.heap_alloc _ _ _ hk))
  · rcases hk with rfl | hk
    · exact .inl (.inl rfl)
    · have hk : g' = k := by injection hk
      subst hk
      rcases hf with h | h
      · exact .inl (.inr h)
      · exact .inr (by omega)

theorem owns_base {W : World} {a b : Nat} {e : TypeId} {size : Nat} {v : Value} {n : Nat} {xs : List Value} (h : W.ownsRow a e size v n xs) (hb : b ≤ a) : W.ownsRow b e size v n xs := by
  refine ⟨h.1, ?_⟩
  rcases h.2 with h | ⟨g, cap, cur, hv, hg, r⟩
  · exact .inl h
  · exact .inr ⟨g, cap, cur, hv, Nat.le_trans hb hg, r⟩

/-- what told hands back: the first 'most' of xs -/
def ToldPost (w : World) (xs : List Nat) (most : Nat) (e : Ending) (w' : World) : Prop :=
  ∃ v, e = .returned (.tuple #[v, .bool true]) ∧ w'.ownsRow w.heap.size 21 1 v (xs.take most).length (nvals (xs.take most)) ∧ w.grownBy w' none
/-- what holds between two rounds -/
def TInv (w : World) (most : Nat) (pre : List Nat) (Ft : Nat → Prop) (W : World) : Prop :=
  ∃ v, Boxed W (w.heap.size + 3) 43 v ∧ W.ownsRow (w.heap.size + 4) 21 1 v pre.length (nvals pre) ∧ Ft = foot (w.heap.size + 3) v ∧ Boxed W w.heap.size 3 (.int .i64 (most : Int)) ∧ w.grownBy W none ∧ pre.length ≤ most
theorem tinv_firm (w : World) (most B : Nat) (hB : w.heap.size + 2 ≤ B) : Firm B (TInv w most) := by
  rintro pre Ft W W' ⟨v, hb, hr, rfl, hm, hg, hl⟩ hs
  obtain ⟨hb', hr'⟩ := coll_stay hb hr hs fun k hk => .inr hk
  refine ⟨v, hb', hr', rfl, (hs.block _ hm.lt (.inl (by omega))).trans hm, ?_, hl⟩
  exact ⟨hs.os.trans hg.os, hs.tape.trans hg.tape, hs.output.trans hg.output, Nat.le_trans hg.size hs.size, fun k hk hr => (hs.block k (Nat.lt_of_lt_of_le hk hg.size) (.inl (by omega))).trans (hg.block k hk hr)⟩
theorem tinv_owned (w : World) (most : Nat) : Owned w.heap.size (TInv w most) := by
  rintro pre Ft W k ⟨v, hb, hr, rfl, _⟩ hk
  exact coll_owned hb hr (show w.heap.size ≤ w.heap.size + 3 by omega) (by omega) hk
theorem grown_step {w W W' : World} {X Ft Ft' : Nat → Prop} (hg : w.grownBy W none) (hs : Step X Ft Ft' W W') (hF : ∀ k, Ft k → w.heap.size ≤ k) (hX : ∀ k, ¬ X k) : w.grownBy W' none :=
  ⟨hs.stay.os.trans hg.os, hs.stay.tape.trans hg.tape, hs.stay.output.trans hg.output, Nat.le_trans hg.size hs.stay.size,
    fun k hk hr => (hs.stay.block k (Nat.lt_of_lt_of_le hk hg.size) ⟨fun h => by have := hF k h; omega, hX k⟩).trans (hg.block k hk hr)⟩

set_option maxRecDepth 100000 in
set_option maxHeartbeats 1000000 in
theorem told_at (w : World) (p : Option Addr) (list : Int) (most : Nat) (xs : List Nat) (hm : most ≤ 1000000) (hlen : xs.length ≤ 65536)
    (hb : ∀ W, w.grownBy W none → Calls Try.prog 25 #[.pointer p, .int .i64 list] W fun e w' => e = .returned (tupO xs[0]?) ∧ ∃ q, w' = W.drewN q)
    (hs : ∀ (k x : Nat) W, xs[k]? = some x → w.grownBy W none → Calls Try.prog 27 #[.pointer p, .int .i32 (x : Int)] W fun e w' => e = .returned (tupO xs[k + 1]?) ∧ W = w') :
    Calls Try.prog 15 #[.pointer p, .int .i64 list, .int .i64 (most : Int)] w (ToldPost w xs most) := by
  refine (callsIn_wide (n := 3)).1 ?_
  have hF : ∀ k, WF.fn k := fun _ => trivial
  have hDp : WF.depth.isSome = false := rfl
  have HB := Lib.hid hb
  have HS := Lib.hid hs
  clear hb hs
  refine callsIn_of_wp_marks Try.func15 rfl trivial ?_ rfl
  simp only [Try.ntmps15, List.size_toArray, List.length_cons, List.length_nil, Nat.reduceAdd, Nat.reduceSub, Array.replicate_succ, Array.replicate_zero, List.push_toArray, List.append_toArray, List.nil_append, List.cons_append]
  have hfn := fun w' => run_eql_func_nil (P := Try.prog) w' (.func 42) #[] #[.pointer (some ⟨w.heap.size + 1 + 1, 0, none⟩), .pointer (some ⟨w.heap.size + 1, 0, none⟩)] Try.underlying54
  gi_wp2_with (gi_at_call 24; refine (callsIn_wide.2 (all_any _ _ _)).mono ?_; rintro e w' ⟨rfl, rfl⟩)
  obtain ⟨hgB, hzB, b0, b1, b2, b3⟩ := alloc4 w (.cells #[.int .i64 (most : Int)] 3) (.cells #[.pointer p] 23) (.cells #[.int .i64 list] 3) (.cells #[.slice none 0 0] 43)
  generalize (((w.alloc (.cells #[.int .i64 (most : Int)] 3)).alloc (.cells #[.pointer p] 23)).alloc (.cells #[.int .i64 list] 3)).alloc (.cells #[.slice none 0 0] 43) = wB at *
  have HSq := Lib.hid (all_seq w.heap.size (w.heap.size + 2) (w.heap.size + 1) p list xs wB hlen (cell_of_head b2 0) (cell_of_head b1 0) (fun W' hW' => HB.out W' (grown_trans hgB hW')) (fun k x W' hx hW' => HS.out k x W' hx (grown_trans hgB hW')))
  have bM : Boxed wB w.heap.size 3 (.int .i64 (most : Int)) := b0
  have bL : Boxed wB (w.heap.size + 3) 43 (.slice none 0 0) := b3
  clear b0 b1 b2 b3 HB HS
  obtain ⟨i0, hi, hz0, hz1, hz2⟩ := info_parts info21
  have hF0 : ∀ k, foot (w.heap.size + 3) (.slice none 0 0) k → k < wB.heap.size := by
    intro k hk
    rcases hk with rfl | hk
    · omega
    · cases hk
  refine range_own (P := Try.prog) (α := Nat) (gf := 42) (lb := #[.pointer (some ⟨w.heap.size + 2, 0, none⟩), .pointer (some ⟨w.heap.size + 1, 0, none⟩)]) rfl (enters_of Try.func42 (by kernel_rfl) rfl) (Prot := fun _ => False) (fun _ h => h.elim)
    HSq.out (World.grownBy.refl _ _) (by omega) (fun _ => rfl) (fun _ => False) (fun _ h => h.elim)
    (TInv w most) (fun c ys Ft W => c = .exit 0 ∧ ∃ pre x, ys = pre ++ [x] ∧ pre.length = most ∧ TInv w most pre Ft W)
    (tinv_firm w most _ (by omega)) ?_ (tinv_owned w most) ?_ (fun _ _ _ _ _ h => h.elim)
    (foot (w.heap.size + 3) (.slice none 0 0)) ⟨_, bL, World.ownsRow_nil _ _ _ _, rfl, bM, hgB, Nat.zero_le _⟩ hF0
    ?a1 ?assign ?body ?done ?stop
  case assign =>
    intro l m x W K hK
    gi_wp2
    exact hK
  · rintro c ys Ft W W' ⟨hc, pre, x, hy, hl, hT⟩ hs
    exact ⟨hc, pre, x, hy, hl, tinv_firm w most _ (by omega) _ _ _ _ hT hs⟩
  · rintro c ys Ft W k ⟨hc, pre, x, hy, hl, hT⟩ hk
    exact tinv_owned w most _ _ _ _ hT hk
  case body =>
    rintro l m pre x Ft W ⟨v, hb, hr, rfl, hM, hg, hle⟩ hlen _
    obtain ⟨A, cap, rfl⟩ := owns_slice hr
    have hcb := hb.cell
    have hcm := hM.cell
    by_cases hlt : pre.length < most
    · have hd : decide ((most : Int) ≤ (pre.length : Int)) = false := by simp; omega
      have hd' : decide (most ≤ pre.length) = false := by simp; omega
      have hzz := hb.lt
      obtain ⟨g', cap', w1, hrun, ho, hgr, hft⟩ := run_append_foot (P := Try.prog) (W.alloc (.cells #[.int .i32 (x : Int)] 21)) (w.heap.size + 4) 43 43 21 i0 (.int .i32 0) 1 4 Try.underlying43 hi hz0 hz1 hz2 rfl (by decide) (.slice A pre.length cap) pre.length (nvals pre) (hr.alloc _) ⟨W.heap.size, 0, none⟩ 1 [.int .i32 (x : Int)] rfl (cell_new1 W 21 _) (by simp [Value.oneCell']) (by unfold maxLen; omega) (by omega) (by simp; omega)
      obtain ⟨hb1, hb2, hr2, hst⟩ := coll_push hb hr ho hgr hft
      have hc1 := hb1.cell
      have hf1 := hb1.frozen
      have HR := Lib.hid hrun
      have HB2 := Lib.hid hb2
      have HR2 := Lib.hid hr2
      have HST := Lib.hid hst
      have HM2 : Hid (Boxed (w1.setCell ⟨w.heap.size + 3, 0, none⟩ (.slice (some ⟨g', 0, none⟩) (pre.length + 1) cap')) w.heap.size 3 (.int .i64 (most : Int))) := Lib.hid (by
        refine ((hst (fun _ => False)).stay.block _ hM.lt ⟨fun h => ?_, fun h => h⟩).trans hM
        rcases h with h | h
        · omega
        · have := (hr.lt _ h).1; omega)
      have HG := Lib.hid hg
      have HFO : Hid (∀ k, foot (w.heap.size + 3) (.slice A pre.length cap) k → w.heap.size ≤ k) := Lib.hid (fun k hk => (coll_owned hb hr (show w.heap.size ≤ w.heap.size + 3 by omega) (by omega) hk).1)
      clear hrun ho hgr hft hb1 hb2 hr2 hst hM hg hb hr
      gi_wp2_with (gi_at_builtin; refine append_in rfl (.tmp 22) (.tmp 24) 43 rfl rfl rfl HR.out ?_)
      exact ⟨_, ⟨_, HB2.out, HR2.out, rfl, HM2.out, grown_step HG.out (HST.out (fun _ => False)) HFO.out (fun _ h => h), by simp; omega⟩, HST.out _⟩
    · have hd : decide ((most : Int) ≤ (pre.length : Int)) = true := by simp; omega
      have hd' : decide (most ≤ pre.length) = true := by simp; omega
      have HT : Hid (TInv w most pre (foot (w.heap.size + 3) (.slice A pre.length cap)) W) := Lib.hid ⟨_, hb, hr, rfl, hM, hg, hle⟩
      clear hb hr hM hg
      gi_wp2
      exact ⟨_, ⟨rfl, pre, x, rfl, by omega, HT.out⟩, Step.refl _ _ _⟩
  case done =>
    rintro ys Ft W rfl ⟨v, hb, hr, rfl, hM, hg, hle⟩ hD
    have hcb := hb.cell
    have HR := Lib.hid hr
    have HG := Lib.hid hg
    have HD := Lib.hid hD
    clear hr hg hD hM hb
    gi_wp2
    refine ⟨by simp, .inl ⟨_, _, rfl, run_takeDeferred HD.out, ?_⟩⟩
    refine ⟨_, results_tmp2 rfl _ _ _, v, rfl, ?_, ?_⟩
    · rw [List.take_of_length_le hle]
      exact owns_base (ownsRow_putObj HR.out _ HD.out rfl) (by omega)
    · exact grown_new HG.out (grownBy_putObj' _ _ _) (by omega)
  case stop =>
    rintro c ys Ft W hpre ⟨rfl, pre, x, rfl, hl, v, hb, hr, rfl, hM, hg, hle⟩ hD
    have hcb := hb.cell
    have HR := Lib.hid hr
    have HG := Lib.hid hg
    have HD := Lib.hid hD
    clear hr hg hD hM hb
    gi_wp2
    refine ⟨by simp, .inl ⟨_, _, rfl, run_takeDeferred HD.out, ?_⟩⟩
    refine ⟨_, results_tmp2 rfl _ _ _, v, rfl, ?_, ?_⟩
    · have e : xs.take most = pre := by
        obtain ⟨r, hr⟩ := hpre
        rw [← hr, List.append_assoc, ← hl, List.take_left']
        rfl
      rw [e]
      exact owns_base (ownsRow_putObj HR.out _ HD.out rfl) (by omega)
    · exact grown_new HG.out (grownBy_putObj' _ _ _) (by omega)

set_option maxRecDepth 100000 in
set_option maxHeartbeats 1000000 in
theorem back_at (w : World) (p : Option Addr) (list : Int) (most : Nat) (xs : List Nat) (hm : most ≤ 1000000) (hlen : xs.length ≤ 65536)
    (hb : ∀ W, w.grownBy W none → Calls Try.prog 26 #[.pointer p, .int .i64 list] W fun e w' => e = .returned (tupO xs[0]?) ∧ ∃ q, w' = W.drewN q)
    (hs : ∀ (k x : Nat) W, xs[k]? = some x → w.grownBy W none → Calls Try.prog 28 #[.pointer p, .int .i32 (x : Int)] W fun e w' => e = .returned (tupO xs[k + 1]?) ∧ W = w') :
    Calls Try.prog 21 #[.pointer p, .int .i64 list, .int .i64 (most : Int)] w (ToldPost w xs most) := by
  refine (callsIn_wide (n := 3)).1 ?_
  have hF : ∀ k, WF.fn k := fun _ => trivial
  have hDp : WF.depth.isSome = false := rfl
  have HB := Lib.hid hb
  have HS := Lib.hid hs
  clear hb hs
  refine callsIn_of_wp_marks Try.func21 rfl trivial ?_ rfl
  simp only [Try.ntmps21, List.size_toArray, List.length_cons, List.length_nil, Nat.reduceAdd, Nat.reduceSub, Array.replicate_succ, Array.replicate_zero, List.push_toArray, List.append_toArray, List.nil_append, List.cons_append]
  have hfn := fun w' => run_eql_func_nil (P := Try.prog) w' (.func 47) #[] #[.pointer (some ⟨w.heap.size + 1 + 1, 0, none⟩), .pointer (some ⟨w.heap.size + 1, 0, none⟩)] Try.underlying54
  gi_wp2_with (gi_at_call 40; refine (callsIn_wide.2 (back_any _ _ _)).mono ?_; rintro e w' ⟨rfl, rfl⟩)
  obtain ⟨hgB, hzB, b0, b1, b2, b3⟩ := alloc4 w (.cells #[.int .i64 (most : Int)] 3) (.cells #[.pointer p] 23) (.cells #[.int .i64 list] 3) (.cells #[.slice none 0 0] 43)
  generalize (((w.alloc (.cells #[.int .i64 (most : Int)] 3)).alloc (.cells #[.pointer p] 23)).alloc (.cells #[.int .i64 list] 3)).alloc (.cells #[.slice none 0 0] 43) = wB at *
  have HSq := Lib.hid (back_seq w.heap.size (w.heap.size + 2) (w.heap.size + 1) p list xs wB hlen (cell_of_head b2 0) (cell_of_head b1 0) (fun W' hW' => HB.out W' (grown_trans hgB hW')) (fun k x W' hx hW' => HS.out k x W' hx (grown_trans hgB hW')))
  have bM : Boxed wB w.heap.size 3 (.int .i64 (most : Int)) := b0
  have bL : Boxed wB (w.heap.size + 3) 43 (.slice none 0 0) := b3
  clear b0 b1 b2 b3 HB HS
  obtain ⟨i0, hi, hz0, hz1, hz2⟩ := info_parts info21
  have hF0 : ∀ k, foot (w.heap.size + 3) (.slice none 0 0) k → k < wB.heap.size := by
    intro k hk
    rcases hk with rfl | hk
    · omega
    · cases hk
  refine range_own (P := Try.prog) (α := Nat) (gf := 47) (lb := #[.pointer (some ⟨w.heap.size + 2, 0, none⟩), .pointer (some ⟨w.heap.size + 1, 0, none⟩)]) rfl (enters_of Try.func47 (by kernel_rfl) rfl) (Prot := fun _ => False) (fun _ h => h.elim)
    HSq.out (World.grownBy.refl _ _) (by omega) (fun _ => rfl) (fun _ => False) (fun _ h => h.elim)
    (TInv w most) (fun c ys Ft W => c = .exit 0 ∧ ∃ pre x, ys = pre ++ [x] ∧ pre.length = most ∧ TInv w most pre Ft W)
    (tinv_firm w most _ (by omega)) ?_ (tinv_owned w most) ?_ (fun _ _ _ _ _ h => h.elim)
    (foot (w.heap.size + 3) (.slice none 0 0)) ⟨_, bL, World.ownsRow_nil _ _ _ _, rfl, bM, hgB, Nat.zero_le _⟩ hF0
    ?a1 ?assign ?body ?done ?stop
  case assign =>
    intro l m x W K hK
    gi_wp2
    exact hK
  · rintro c ys Ft W W' ⟨hc, pre, x, hy, hl, hT⟩ hs
    exact ⟨hc, pre, x, hy, hl, tinv_firm w most _ (by omega) _ _ _ _ hT hs⟩
  · rintro c ys Ft W k ⟨hc, pre, x, hy, hl, hT⟩ hk
    exact tinv_owned w most _ _ _ _ hT hk
  case body =>
    rintro l m pre x Ft W ⟨v, hb, hr, rfl, hM, hg, hle⟩ hlen _
    obtain ⟨A, cap, rfl⟩ := owns_slice hr
    have hcb := hb.cell
    have hcm := hM.cell
    by_cases hlt : pre.length < most
    · have hd : decide ((most : Int) ≤ (pre.length : Int)) = false := by simp; omega
      have hd' : decide (most ≤ pre.length) = false := by simp; omega
      have hzz := hb.lt
      obtain ⟨g', cap', w1, hrun, ho, hgr, hft⟩ := run_append_foot (P := Try.prog) (W.alloc (.cells #[.int .i32 (x : Int)] 21)) (w.heap.size + 4) 43 43 21 i0 (.int .i32 0) 1 4 Try.underlying43 hi hz0 hz1 hz2 rfl (by decide) (.slice A pre.length cap) pre.length (nvals pre) (hr.alloc _) ⟨W.heap.size, 0, none⟩ 1 [.int .i32 (x : Int)] rfl (cell_new1 W 21 _) (by simp [Value.oneCell']) (by unfold maxLen; omega) (by omega) (by simp; omega)
      obtain ⟨hb1, hb2, hr2, hst⟩ := coll_push hb hr ho hgr hft
      have hc1 := hb1.cell
      have hf1 := hb1.frozen
      have HR := Lib.hid hrun
      have HB2 := Lib.hid hb2
      have HR2 := Lib.hid hr2
      have HST := Lib.hid hst
      have HM2 : Hid (Boxed (w1.setCell ⟨w.heap.size + 3, 0, none⟩ (.slice (some ⟨g', 0, none⟩) (pre.length + 1) cap')) w.heap.size 3 (.int .i64 (most : Int))) := Lib.hid (by
        refine ((hst (fun _ => False)).stay.block _ hM.lt ⟨fun h => ?_, fun h => h⟩).trans hM
        rcases h with h | h
        · omega
        · have := (hr.lt _ h).1; omega)
      have HG := Lib.hid hg
      have HFO : Hid (∀ k, foot (w.heap.size + 3) (.slice A pre.length cap) k → w.heap.size ≤ k) := Lib.hid (fun k hk => (coll_owned hb hr (show w.heap.size ≤ w.heap.size + 3 by omega) (by omega) hk).1)
      clear hrun ho hgr hft hb1 hb2 hr2 hst hM hg hb hr
      gi_wp2_with (gi_at_builtin; refine append_in rfl (.tmp 22) (.tmp 24) 43 rfl rfl rfl HR.out ?_)
      exact ⟨_, ⟨_, HB2.out, HR2.out, rfl, HM2.out, grown_step HG.out (HST.out (fun _ => False)) HFO.out (fun _ h => h), by simp; omega⟩, HST.out _⟩
    · have hd : decide ((most : Int) ≤ (pre.length : Int)) = true := by simp; omega
      have hd' : decide (most ≤ pre.length) = true := by simp; omega
      have HT : Hid (TInv w most pre (foot (w.heap.size + 3) (.slice A pre.length cap)) W) := Lib.hid ⟨_, hb, hr, rfl, hM, hg, hle⟩
      clear hb hr hM hg
      gi_wp2
      exact ⟨_, ⟨rfl, pre, x, rfl, by omega, HT.out⟩, Step.refl _ _ _⟩
  case done =>
    rintro ys Ft W rfl ⟨v, hb, hr, rfl, hM, hg, hle⟩ hD
    have hcb := hb.cell
    have HR := Lib.hid hr
    have HG := Lib.hid hg
    have HD := Lib.hid hD
    clear hr hg hD hM hb
    gi_wp2
    refine ⟨by simp, .inl ⟨_, _, rfl, run_takeDeferred HD.out, ?_⟩⟩
    refine ⟨_, results_tmp2 rfl _ _ _, v, rfl, ?_, ?_⟩
    · rw [List.take_of_length_le hle]
      exact owns_base (ownsRow_putObj HR.out _ HD.out rfl) (by omega)
    · exact grown_new HG.out (grownBy_putObj' _ _ _) (by omega)
  case stop =>
    rintro c ys Ft W hpre ⟨rfl, pre, x, rfl, hl, v, hb, hr, rfl, hM, hg, hle⟩ hD
    have hcb := hb.cell
    have HR := Lib.hid hr
    have HG := Lib.hid hg
    have HD := Lib.hid hD
    clear hr hg hD hM hb
    gi_wp2
    refine ⟨by simp, .inl ⟨_, _, rfl, run_takeDeferred HD.out, ?_⟩⟩
    refine ⟨_, results_tmp2 rfl _ _ _, v, rfl, ?_, ?_⟩
    · have e : xs.take most = pre := by
        obtain ⟨r, hr⟩ := hpre
        rw [← hr, List.append_assoc, ← hl, List.take_left']
        rfl
      rw [e]
      exact owns_base (ownsRow_putObj HR.out _ HD.out rfl) (by omega)
    · exact grown_new HG.out (grownBy_putObj' _ _ _) (by omega)
end Go.Proofs.Ytmjccpgkgkindaa
