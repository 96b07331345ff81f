/-
  The first nodes around from a hand, at most so many; how many steps it is from a hand to another one.
-/
import Derived.Test.YtjligfgaahcogaaFrom
namespace Go.Proofs.Ytjligfgaahcogaa
open Go.RowKit Go.Shelf
set_option linter.unusedVariables false
attribute [local go_sem] Oper.semAt_some

theorem round_in {m m' l2 : Nat} {P : Program} {l : Nat} {f : FuncId} {tmps : Array Value} {assign body : Code} {w : World} {R : Ending → World → Prop}
    (h : RoundIn WF m P l f tmps assign body w R) : RoundIn (WF.inRound l2) m' P l f tmps assign body w R := ⟨h.1, fun c cs _ => h.2 c cs (fun d hd => by simp [Fence.wide] at hd)⟩
theorem alloc4 (w : World) (o0 o1 o2 o3 : Obj) : w.grownBy ((((w.alloc o0).alloc o1).alloc o2).alloc o3) none ∧ ((((w.alloc o0).alloc o1).alloc o2).alloc o3).heap.size = w.heap.size + 4 ∧
    ((((w.alloc o0).alloc o1).alloc o2).alloc o3).heap[w.heap.size]? = some o0 ∧ ((((w.alloc o0).alloc o1).alloc o2).alloc o3).heap[w.heap.size + 1]? = some o1 ∧ ((((w.alloc o0).alloc o1).alloc o2).alloc o3).heap[w.heap.size + 2]? = some o2 ∧ ((((w.alloc o0).alloc o1).alloc o2).alloc o3).heap[w.heap.size + 3]? = some o3 := by
  have e : ((((w.alloc o0).alloc o1).alloc o2).alloc o3).heap.toList = w.heap.toList ++ [o0, o1, o2, o3] := by simp only [World.alloc, Array.toList_push, List.append_assoc, List.cons_append, List.nil_append]
  have g : ∀ (i : Nat) (o : Obj), [o0, o1, o2, o3][i]? = some o → ((((w.alloc o0).alloc o1).alloc o2).alloc o3).heap[w.heap.size + i]? = some o := fun i o h => by
    rw [← Array.getElem?_toList, e, List.getElem?_append_right (by rw [Array.length_toList]; omega), Array.length_toList, Nat.add_sub_cancel_left]; exact h
  exact ⟨grown_trans (grown_trans (grown_trans (World.grownBy_alloc _ _ none) (World.grownBy_alloc _ _ none)) (World.grownBy_alloc _ _ none)) (World.grownBy_alloc _ _ none), by simp only [World.size_alloc], g 0 _ rfl, g 1 _ rfl, g 2 _ rfl, g 3 _ rfl⟩

/-- what told hands back: the first 'most' of xs -/
def ToldPost (w : World) (xs : List Nat) (most : Nat) (e : Ending) (w' : World) : Prop :=
  ∃ v, e = .returned (.tuple #[v, .bool true]) ∧ w'.ownsRow w.heap.size 21 1 v (xs.take most).length (nvals (xs.take most)) ∧ w.grownBy w' none
/-- what holds between two rounds -/
def TInv (w : World) (most : Nat) (pre : List Nat) (Ft : Nat → Prop) (W : World) : Prop :=
  ∃ v, Boxed W (w.heap.size + 3) 29 v ∧ W.ownsRow (w.heap.size + 4) 21 1 v pre.length (nvals pre) ∧ Ft = foot (w.heap.size + 3) v ∧ Boxed W w.heap.size 3 (.int .i64 (most : Int)) ∧ w.grownBy W none ∧ pre.length ≤ most
theorem tinv_firm (w : World) (most B : Nat) (hB : w.heap.size + 2 ≤ B) : Firm B (TInv w most) := by
  rintro pre Ft W W' ⟨v, hb, hr, rfl, hm, hg, hl⟩ hs
  obtain ⟨hb', hr'⟩ := coll_stay hb hr hs fun k hk => .inr hk
  refine ⟨v, hb', hr', rfl, (hs.block _ hm.lt (.inl (by omega))).trans hm, ?_, hl⟩
  exact ⟨hs.os.trans hg.os, hs.tape.trans hg.tape, hs.output.trans hg.output, Nat.le_trans hg.size hs.size, fun k hk hr => (hs.block k (Nat.lt_of_lt_of_le hk hg.size) (.inl (by omega))).trans (hg.block k hk hr)⟩
theorem tinv_owned (w : World) (most : Nat) : Owned w.heap.size (TInv w most) := by
  rintro pre Ft W k ⟨v, hb, hr, rfl, _⟩ hk
  exact coll_owned hb hr (show w.heap.size ≤ w.heap.size + 3 by omega) (by omega) hk
set_option maxRecDepth 100000 in
set_option maxHeartbeats 1000000 in
theorem told_at (w : World) (p : Option Addr) (list : Int) (most : Nat) (xs : List Nat) (hm : most ≤ 1000000) (hlen : xs.length ≤ 65536)
    (PB : Nat → Prop) (hPB : ∀ k, PB k → k < w.heap.size) (hgo : Goes w PB p list xs) :
    Calls Try.prog 15 #[.pointer p, .int .i64 list, .int .i64 (most : Int)] w (ToldPost w xs most) := by
  refine (callsIn_wide (n := 3)).1 ?_
  have hF : ∀ k, WF.fn k := fun _ => trivial
  have hDp : WF.depth.isSome = false := rfl
  have HGo := Lib.hid hgo
  clear hgo
  refine callsIn_of_wp_marks Try.func15 rfl trivial ?_ rfl
  simp only [Try.ntmps15, List.size_toArray, List.length_cons, List.length_nil, Nat.reduceAdd, Nat.reduceSub, Array.replicate_succ, Array.replicate_zero, List.push_toArray, List.append_toArray, List.nil_append, List.cons_append]
  have hfn := fun w' => run_eql_func_nil (P := Try.prog) w' (.func 37) #[] #[.pointer (some ⟨w.heap.size + 1, 0, none⟩), .pointer (some ⟨w.heap.size + 1 + 1, 0, none⟩)] Try.underlying53
  gi_wp2_with (gi_at_call 21; refine (callsIn_wide.2 (from_any _ _ _)).mono ?_; rintro e w' ⟨rfl, rfl⟩)
  obtain ⟨hgB, hzB, b0, b1, b2, b3⟩ := alloc4 w (.cells #[.int .i64 (most : Int)] 3) (.cells #[.pointer p] 23) (.cells #[.int .i64 list] 3) (.cells #[.slice none 0 0] 29)
  generalize (((w.alloc (.cells #[.int .i64 (most : Int)] 3)).alloc (.cells #[.pointer p] 23)).alloc (.cells #[.int .i64 list] 3)).alloc (.cells #[.slice none 0 0] 29) = wB at *
  have HSq := Lib.hid (from_seq PB w.heap.size (w.heap.size + 1) (w.heap.size + 2) p list xs wB (fun k hk => by have := hPB k hk; omega) hlen (cell_of_head b1 0) (cell_of_head b2 0) (HGo.out.grow hgB))
  have bM : Boxed wB w.heap.size 3 (.int .i64 (most : Int)) := b0
  have bL : Boxed wB (w.heap.size + 3) 29 (.slice none 0 0) := b3
  clear b0 b1 b2 b3 HGo
  obtain ⟨i0, hi, hz0, hz1, hz2⟩ := info_parts info21
  have hF0 : ∀ k, foot (w.heap.size + 3) (.slice none 0 0) k → k < wB.heap.size := by
    intro k hk
    rcases hk with rfl | hk
    · omega
    · cases hk
  refine range_own (P := Try.prog) (α := Nat) (gf := 37) (lb := #[.pointer (some ⟨w.heap.size + 1, 0, none⟩), .pointer (some ⟨w.heap.size + 2, 0, none⟩)]) rfl (enters_of Try.func37 (by kernel_rfl) rfl) (Prot := fun _ => False) (fun _ h => h.elim)
    HSq.out (World.grownBy.refl _ _) (by omega) (fun _ => rfl) (fun _ => False) (fun _ h => h.elim)
    (TInv w most) (fun c ys Ft W => c = .exit 0 ∧ ∃ pre x, ys = pre ++ [x] ∧ pre.length = most ∧ TInv w most pre Ft W)
    (tinv_firm w most _ (by omega)) ?_ (tinv_owned w most) ?_ (fun _ _ _ _ _ h => h.elim)
    (foot (w.heap.size + 3) (.slice none 0 0)) ⟨_, bL, World.ownsRow_nil _ _ _ _, rfl, bM, hgB, Nat.zero_le _⟩ hF0
    ?a1 ?assign ?body ?done ?stop
  case assign =>
    intro l m x W K hK
    gi_wp2
    exact hK
  · rintro c ys Ft W W' ⟨hc, pre, x, hy, hl, hT⟩ hs
    exact ⟨hc, pre, x, hy, hl, tinv_firm w most _ (by omega) _ _ _ _ hT hs⟩
  · rintro c ys Ft W k ⟨hc, pre, x, hy, hl, hT⟩ hk
    exact tinv_owned w most _ _ _ _ hT hk
  case body =>
    rintro l m pre x Ft W ⟨v, hb, hr, rfl, hM, hg, hle⟩ hlen _
    obtain ⟨A, cap, rfl⟩ := owns_slice hr
    have hcb := hb.cell
    have hcm := hM.cell
    by_cases hlt : pre.length < most
    · have hd : decide ((most : Int) ≤ (pre.length : Int)) = false := by simp; omega
      have hd' : decide (most ≤ pre.length) = false := by simp; omega
      have hzz := hb.lt
      obtain ⟨g', cap', w1, hrun, ho, hgr, hft⟩ := run_append_foot (P := Try.prog) (W.alloc (.cells #[.int .i32 (x : Int)] 21)) (w.heap.size + 4) 29 29 21 i0 (.int .i32 0) 1 4 Try.underlying29 hi hz0 hz1 hz2 rfl (by decide) (.slice A pre.length cap) pre.length (nvals pre) (hr.alloc _) ⟨W.heap.size, 0, none⟩ 1 [.int .i32 (x : Int)] rfl (cell_new1 W 21 _) (by simp [Value.oneCell']) (by unfold maxLen; omega) (by omega) (by simp; omega)
      obtain ⟨hb1, hb2, hr2, hst⟩ := coll_push hb hr ho hgr hft
      have hc1 := hb1.cell
      have hf1 := hb1.frozen
      have HR := Lib.hid hrun
      have HB2 := Lib.hid hb2
      have HR2 := Lib.hid hr2
      have HST := Lib.hid hst
      have HM2 : Hid (Boxed (w1.setCell ⟨w.heap.size + 3, 0, none⟩ (.slice (some ⟨g', 0, none⟩) (pre.length + 1) cap')) w.heap.size 3 (.int .i64 (most : Int))) := Lib.hid (by
        refine ((hst (fun _ => False)).stay.block _ hM.lt ⟨fun h => ?_, fun h => h⟩).trans hM
        rcases h with h | h
        · omega
        · have := (hr.lt _ h).1; omega)
      have HG := Lib.hid hg
      have HFO : Hid (∀ k, foot (w.heap.size + 3) (.slice A pre.length cap) k → w.heap.size ≤ k) := Lib.hid (fun k hk => (coll_owned hb hr (show w.heap.size ≤ w.heap.size + 3 by omega) (by omega) hk).1)
      clear hrun ho hgr hft hb1 hb2 hr2 hst hM hg hb hr
      gi_wp2_with (gi_at_builtin; refine append_in rfl (.tmp 22) (.tmp 24) 29 rfl rfl rfl HR.out ?_)
      exact ⟨_, ⟨_, HB2.out, HR2.out, rfl, HM2.out, grown_step HG.out (HST.out (fun _ => False)) HFO.out (fun _ h => h), by simp; omega⟩, HST.out _⟩
    · have hd : decide ((most : Int) ≤ (pre.length : Int)) = true := by simp; omega
      have hd' : decide (most ≤ pre.length) = true := by simp; omega
      have HT : Hid (TInv w most pre (foot (w.heap.size + 3) (.slice A pre.length cap)) W) := Lib.hid ⟨_, hb, hr, rfl, hM, hg, hle⟩
      clear hb hr hM hg
      gi_wp2
      exact ⟨_, ⟨rfl, pre, x, rfl, by omega, HT.out⟩, Step.refl _ _ _⟩
  case done =>
    rintro ys Ft W rfl ⟨v, hb, hr, rfl, hM, hg, hle⟩ hD
    have hcb := hb.cell
    have HR := Lib.hid hr
    have HG := Lib.hid hg
    have HD := Lib.hid hD
    clear hr hg hD hM hb
    gi_wp2
    refine ⟨by simp, .inl ⟨_, _, rfl, run_takeDeferred HD.out, ?_⟩⟩
    refine ⟨_, results_tmp2 rfl _ _ _, v, rfl, ?_, ?_⟩
    · rw [List.take_of_length_le hle]
      exact owns_base (ownsRow_putObj HR.out _ HD.out rfl) (by omega)
    · exact grown_new HG.out (grownBy_putObj' _ _ _) (by omega)
  case stop =>
    rintro c ys Ft W hpre ⟨rfl, pre, x, rfl, hl, v, hb, hr, rfl, hM, hg, hle⟩ hD
    have hcb := hb.cell
    have HR := Lib.hid hr
    have HG := Lib.hid hg
    have HD := Lib.hid hD
    clear hr hg hD hM hb
    gi_wp2
    refine ⟨by simp, .inl ⟨_, _, rfl, run_takeDeferred HD.out, ?_⟩⟩
    refine ⟨_, results_tmp2 rfl _ _ _, v, rfl, ?_, ?_⟩
    · have e : xs.take most = pre := by
        obtain ⟨r, hr⟩ := hpre
        rw [← hr, List.append_assoc, ← hl, List.take_left']
        rfl
      rw [e]
      exact owns_base (ownsRow_putObj HR.out _ HD.out rfl) (by omega)
    · exact grown_new HG.out (grownBy_putObj' _ _ _) (by omega)


/-! ### Gap -/
/-- what holds between two rounds of Gap -/
def GInv (w : World) (en : Nat) (pre : List Nat) (Ft : Nat → Prop) (W : World) : Prop :=
  Boxed W (w.heap.size + 1) 3 (.int .i64 (pre.length : Int)) ∧ Boxed W w.heap.size 21 (.int .i32 (en : Int)) ∧ Ft = (fun k => k = w.heap.size + 1) ∧ w.grownBy W none ∧ en ∉ pre
theorem ginv_firm (w : World) (en B : Nat) (hB : w.heap.size + 2 ≤ B) : Firm B (GInv w en) := by
  rintro pre Ft W W' ⟨hb, he, rfl, hg, hn⟩ hs
  refine ⟨(hs.block _ hb.lt (.inr rfl)).trans hb, (hs.block _ he.lt (.inl (by omega))).trans he, rfl, ?_, hn⟩
  exact ⟨hs.os.trans hg.os, hs.tape.trans hg.tape, hs.output.trans hg.output, Nat.le_trans hg.size hs.size, fun k hk hr => (hs.block k (Nat.lt_of_lt_of_le hk hg.size) (.inl (by omega))).trans (hg.block k hk hr)⟩
theorem ginv_owned (w : World) (en : Nat) : Owned w.heap.size (GInv w en) := by
  rintro pre Ft W k ⟨hb, he, rfl, hg, hn⟩ hk
  obtain rfl : k = w.heap.size + 1 := hk
  exact ⟨by omega, _, hb, rfl⟩
theorem gap_none (p : Option Addr) (a b : Int) (w : World) (h0 : Calls Try.prog 20 #[.pointer p, .int .i64 b] w fun e w' => e = .returned (tupO none) ∧ w = w') :
    Calls Try.prog 17 #[.pointer p, .int .i64 a, .int .i64 b] w fun e w' => e = .returned (.int .i64 0) ∧ w.grownBy w' none := by
  have H0 := Lib.hid h0
  clear h0
  go_enter Try.func17, Try.ntmps17
  go_wp2_with (go_at_call 20; refine H0.out.mono ?_; unfold tupO; rintro e w' ⟨rfl, rfl⟩)
  go_ret
  exact ⟨rfl, World.grownBy_alloc _ _ none⟩
set_option maxRecDepth 100000 in
set_option maxHeartbeats 1000000 in
theorem gap_at (w : World) (p : Option Addr) (a b : Int) (en : Nat) (xs : List Nat) (hlen : xs.length ≤ 65536) (hen : xs = [] ∨ en ∈ xs)
    (h0 : Calls Try.prog 20 #[.pointer p, .int .i64 b] w fun e w' => e = .returned (tupO (some en)) ∧ w = w')
    (PB : Nat → Prop) (hPB : ∀ k, PB k → k < w.heap.size) (hgo : Goes w PB p a xs) :
    Calls Try.prog 17 #[.pointer p, .int .i64 a, .int .i64 b] w fun e w' => ∃ g : Nat, e = .returned (.int .i64 (g : Int)) ∧ (xs = [] ∧ g = 0 ∨ xs[g]? = some en) ∧ w.grownBy w' none := by
  refine (callsIn_wide (n := 3)).1 ?_
  have hF : ∀ k, WF.fn k := fun _ => trivial
  have hDp : WF.depth.isSome = false := rfl
  have HGo := Lib.hid hgo
  have H0 := Lib.hid h0
  clear hgo h0
  refine callsIn_of_wp_marks Try.func17 rfl trivial ?_ rfl
  simp only [Try.ntmps17, List.size_toArray, List.length_cons, List.length_nil, Nat.reduceAdd, Nat.reduceSub, Array.replicate_succ, Array.replicate_zero, List.push_toArray, List.append_toArray, List.nil_append, List.cons_append]
  gi_wp2_with (first | (gi_at_call 20; refine (callsIn_wide.2 H0.out).mono ?_; unfold tupO; rintro e w' ⟨rfl, rfl⟩) | (gi_at_call 36; refine (callsIn_wide.2 (around_any _ _ _)).mono ?_; rintro e w' ⟨rfl, rfl⟩))
  obtain ⟨hgB, hzB, b0, b1, b2, b3⟩ := alloc4 w (.cells #[.int .i32 (en : Int)] 21) (.cells #[.int .i64 0] 3) (.cells #[.pointer p] 23) (.cells #[.int .i64 a] 3)
  generalize (((w.alloc (.cells #[.int .i32 (en : Int)] 21)).alloc (.cells #[.int .i64 0] 3)).alloc (.cells #[.pointer p] 23)).alloc (.cells #[.int .i64 a] 3) = wB at *
  have HSq := Lib.hid (HGo.out wB w.heap.size (w.heap.size + 2) (w.heap.size + 3) hgB b2 (cell_of_head b3 0))
  have bE : Boxed wB w.heap.size 21 (.int .i32 (en : Int)) := b0
  have bG : Boxed wB (w.heap.size + 1) 3 (.int .i64 0) := b1
  clear b0 b1 b2 b3 HGo H0
  refine range_own (P := Try.prog) (α := Nat) (gf := 43) (lb := #[.pointer (some ⟨w.heap.size + 2, 0, none⟩), .pointer (some ⟨w.heap.size + 3, 0, none⟩)]) rfl (enters_of Try.func43 (by kernel_rfl) rfl) (Prot := fun k => k = w.heap.size + 2 ∨ PB k) (fun k h => by rcases h with rfl | h; omega; have := hPB k h; omega)
    HSq.out (World.grownBy.refl _ _) (by omega) (fun _ => rfl) (fun _ => False) (fun _ h => h.elim)
    (GInv w en) (fun c ys Ft W => c = .exit 0 ∧ ∃ pre, ys = pre ++ [en] ∧ GInv w en pre Ft W)
    (ginv_firm w en _ (by omega)) ?_ (ginv_owned w en) ?_ ?prot
    (fun k => k = w.heap.size + 1) ⟨bG, bE, rfl, hgB, by simp⟩ (fun k hk => by omega)
    ?a1 ?assign ?body ?done ?stop
  case assign =>
    intro l m x W K hK
    gi_wp2
    exact hK
  · rintro c ys Ft W W' ⟨hc, pre, hy, hT⟩ hs
    exact ⟨hc, pre, hy, ginv_firm w en _ (by omega) _ _ _ _ hT hs⟩
  · rintro c ys Ft W k ⟨hc, pre, hy, hT⟩ hk
    exact ginv_owned w en _ _ _ _ hT hk
  case prot =>
    rintro s Ft W' ⟨hb, he, rfl, hg, hn⟩ k hk hf
    obtain rfl : k = w.heap.size + 1 := hf
    rcases hk with hk | hk
    · omega
    · have := hPB _ hk; omega
  case body =>
    rintro l m pre x Ft W ⟨hb, he, rfl, hg, hn⟩ hlen2 _
    have hcb := hb.cell
    have hce := he.cell
    have hfb := hb.frozen
    by_cases hx : x = en
    · subst hx
      have HT : Hid (GInv w x pre (fun k => k = w.heap.size + 1) W) := Lib.hid ⟨hb, he, rfl, hg, hn⟩
      clear hb he hg hn
      gi_wp2
      exact ⟨_, ⟨rfl, pre, rfl, HT.out⟩, Step.refl _ _ _⟩
    · have hne : ((x : Int) == (en : Int)) = false := by simp; omega
      have hne2 : (x == en) = false := by simp [hx]
      have hw : wrap64 ((pre.length : Int) + 1) = ((pre.length + 1 : Nat) : Int) := by unfold wrap64; omega
      have HB := Lib.hid hb
      have HE := Lib.hid he
      have HG := Lib.hid hg
      have HN : Hid (en ∉ pre ++ [x]) := Lib.hid (by simp only [List.mem_append, List.mem_singleton, not_or]; exact ⟨hn, fun e => hx e.symm⟩)
      clear hb he hg hn hx
      gi_wp2
      refine ⟨_, ⟨?_, ?_, rfl, grown_new HG.out (grown_setCell _ _ _ _) (by omega), HN.out⟩, ⟨Stay.of_grown (grown_setCell _ _ _ _) (by intro r e _ hs; cases e; exact hs.1 rfl), fun k hk => .inl hk⟩⟩
      · rw [List.length_append]
        exact HB.out.set _
      · exact (heap_setCell_other W _ _ _ (by intro e; have : w.heap.size = w.heap.size + 1 := e; omega)).trans HE.out
  case done =>
    rintro ys Ft W rfl ⟨hb, he, rfl, hg, hn⟩ hD
    have hcb := hb.cell
    have hy0 : ys = [] := hen.resolve_right hn
    have HG := Lib.hid hg
    have HD := Lib.hid hD
    clear hg hD hb he hn
    gi_wp2
    refine ⟨by simp, .inl ⟨_, _, rfl, run_takeDeferred HD.out, ?_⟩⟩
    refine ⟨_, results_tmp rfl _ _ _, 0, rfl, .inl ⟨hy0, rfl⟩, ?_⟩
    exact grown_new HG.out (grownBy_putObj' _ _ _) (by omega)
  case stop =>
    rintro c ys Ft W hpre ⟨rfl, pre, rfl, hb, he, rfl, hg, hn⟩ hD
    have hcb := hb.cell
    have HG := Lib.hid hg
    have HD := Lib.hid hD
    have HP := Lib.hid hpre
    clear hg hD hb he hn hpre
    gi_wp2
    refine ⟨by simp, .inl ⟨_, _, rfl, run_takeDeferred HD.out, ?_⟩⟩
    refine ⟨_, results_tmp rfl _ _ _, pre.length, rfl, .inr ?_, ?_⟩
    · obtain ⟨r, hr⟩ := HP.out
      rw [← hr, List.append_assoc, List.getElem?_append_right (Nat.le_refl _), Nat.sub_self]; rfl
    · exact grown_new HG.out (grownBy_putObj' _ _ _) (by omega)
end Go.Proofs.Ytjligfgaahcogaa
