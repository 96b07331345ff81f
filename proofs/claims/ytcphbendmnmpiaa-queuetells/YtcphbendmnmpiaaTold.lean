/-
  The first things of a queue, at most so many, with their places.
-/
import Derived.Test.YtcphbendmnmpiaaRows2
namespace Go.Proofs.Ytcphbendmnmpiaa
open Go.RowKit Go.Shelf
set_option linter.unusedVariables false
attribute [local go_sem] Oper.semAt_some

theorem enum_snd (xs : List Int) : (enum xs).map Prod.snd = xs := by
  unfold enum
  rw [List.map_snd_zip (by simp)]
theorem enum_at {xs : List Int} {pre : List (Nat × Int)} {x : Nat × Int} (h : pre ++ [x] <+: enum xs) : x.1 = pre.length ∧ xs[pre.length]? = some x.2 ∧ pre.map Prod.snd = xs.take pre.length := by
  obtain ⟨t, ht⟩ := h
  have h1 : (enum xs)[pre.length]? = some x := by rw [← ht, List.append_assoc, List.getElem?_append_right (Nat.le_refl _)]; simp
  have h2 : pre.map Prod.snd ++ ([x] ++ t).map Prod.snd = xs := by rw [← List.map_append, ← List.append_assoc, ht, enum_snd]
  unfold enum at h1
  rw [List.getElem?_zip_eq_some] at h1
  refine ⟨?_, h1.2, ?_⟩
  · have := h1.1
    rw [List.getElem?_range (by have := (List.getElem?_eq_some_iff.1 h1.2).1; exact this)] at this
    injection this with this
    exact this.symm
  · rw [← h2]
    simp
theorem results_told {fn : Func} {p u : Tmp} (h : fn.results = #[.cell p 22, .cell u 4]) (tmps : Array Value) (w : World) (g1 g2 : Nat) (A : Option Addr) (n c : Nat) (bb : Bool)
    (hp : tmps.getD p undef = .pointer (some ⟨g1, 0, none⟩)) (hu : tmps.getD u undef = .pointer (some ⟨g2, 0, none⟩)) (hc1 : w.cell? ⟨g1, 0, none⟩ = some (.slice A n c)) (hc2 : w.cell? ⟨g2, 0, none⟩ = some (.bool bb)) :
    (results fn tmps).run Try.prog w = .ok (.tuple #[.slice A n c, .bool bb]) w := by
  have hp' : tmps[p]?.getD undef = .pointer (some ⟨g1, 0, none⟩) := by simpa using hp
  have hu' : tmps[u]?.getD undef = .pointer (some ⟨g2, 0, none⟩) := by simpa using hu
  have h4 := Try.underlying4
  have h22 := Try.underlying22
  simp only [results, h]
  simp [hp', hu', asAddr]
  go_simp
theorem alloc5 (w : World) (o0 o1 o2 o3 o4 : Obj) : w.grownBy (((((w.alloc o0).alloc o1).alloc o2).alloc o3).alloc o4) none ∧ (((((w.alloc o0).alloc o1).alloc o2).alloc o3).alloc o4).heap.size = w.heap.size + 5 ∧
    (((((w.alloc o0).alloc o1).alloc o2).alloc o3).alloc o4).heap[w.heap.size]? = some o0 ∧ (((((w.alloc o0).alloc o1).alloc o2).alloc o3).alloc o4).heap[w.heap.size + 1]? = some o1 ∧ (((((w.alloc o0).alloc o1).alloc o2).alloc o3).alloc o4).heap[w.heap.size + 2]? = some o2 ∧
    (((((w.alloc o0).alloc o1).alloc o2).alloc o3).alloc o4).heap[w.heap.size + 3]? = some o3 ∧ (((((w.alloc o0).alloc o1).alloc o2).alloc o3).alloc o4).heap[w.heap.size + 4]? = some o4 := by
  have e : (((((w.alloc o0).alloc o1).alloc o2).alloc o3).alloc o4).heap.toList = w.heap.toList ++ [o0, o1, o2, o3, o4] := by simp only [World.alloc, Array.toList_push, List.append_assoc, List.cons_append, List.nil_append]
  have g : ∀ (i : Nat) (o : Obj), [o0, o1, o2, o3, o4][i]? = some o → (((((w.alloc o0).alloc o1).alloc o2).alloc o3).alloc o4).heap[w.heap.size + i]? = some o := fun i o h => by
    rw [← Array.getElem?_toList, e, List.getElem?_append_right (by rw [Array.length_toList]; omega), Array.length_toList, Nat.add_sub_cancel_left]; exact h
  exact ⟨grown_trans (grown_trans (grown_trans (grown_trans (World.grownBy_alloc _ _ none) (World.grownBy_alloc _ _ none)) (World.grownBy_alloc _ _ none)) (World.grownBy_alloc _ _ none)) (World.grownBy_alloc _ _ none), by simp only [World.size_alloc], g 0 _ rfl, g 1 _ rfl, g 2 _ rfl, g 3 _ rfl, g 4 _ rfl⟩

/-- what told hands back: the first 'most' of xs -/
def ToldPost (w : World) (xs : List Int) (most : Nat) (e : Ending) (w' : World) : Prop :=
  ∃ v, e = .returned (.tuple #[v, .bool true]) ∧ w'.ownsRow w.heap.size 2 1 v (xs.take most).length (ivals (xs.take most)) ∧ w.grownBy w' none
/-- what holds between two rounds -/
structure TI (w : World) (most : Nat) (pre : List (Nat × Int)) (v : Value) (Ft : Nat → Prop) (W : World) : Prop where
  box : Boxed W (w.heap.size + 4) 22 v
  row : W.ownsRow (w.heap.size + 5) 2 1 v (pre.map Prod.snd).length (ivals (pre.map Prod.snd))
  ft : Ft = foot (w.heap.size + 4) v
  mbox : Boxed W w.heap.size 3 (.int .i64 (most : Int))
  r1 : Boxed W (w.heap.size + 1) 22 (.slice none 0 0)
  r2 : Boxed W (w.heap.size + 2) 4 (.bool false)
  grown : w.grownBy W none
  few : pre.length ≤ most
theorem TI.firm {w : World} {most : Nat} {pre : List (Nat × Int)} {v : Value} {Ft : Nat → Prop} {W W' : World} {B : Nat} (h : TI w most pre v Ft W) (hB : w.heap.size + 5 ≤ B) (hs : Stay (fun k => k < B ∨ Ft k) W W') : TI w most pre v Ft W' := by
  obtain ⟨hb', hr'⟩ := coll_stay h.box h.row hs fun k hk => .inr (by rw [h.ft]; exact hk)
  refine ⟨hb', hr', h.ft, (hs.block _ h.mbox.lt (.inl (by omega))).trans h.mbox, (hs.block _ h.r1.lt (.inl (by omega))).trans h.r1, (hs.block _ h.r2.lt (.inl (by omega))).trans h.r2, ?_, h.few⟩
  exact ⟨hs.os.trans h.grown.os, hs.tape.trans h.grown.tape, hs.output.trans h.grown.output, Nat.le_trans h.grown.size hs.size, fun k hk hr => (hs.block k (Nat.lt_of_lt_of_le hk h.grown.size) (.inl (by omega))).trans (h.grown.block k hk hr)⟩
theorem TI.owned {w : World} {most : Nat} {pre : List (Nat × Int)} {v : Value} {Ft : Nat → Prop} {W : World} (h : TI w most pre v Ft W) {k : Nat} (hk : Ft k) : w.heap.size ≤ k ∧ ∃ o : Obj, W.heap[k]? = some o ∧ o.isCells = true := by
  rw [h.ft] at hk
  exact coll_owned h.box h.row (show w.heap.size ≤ w.heap.size + 4 by omega) (by omega) hk
/-- the results are stored, and the loop's record is put away -/
theorem told_fin {w : World} {most : Nat} {xs : List Int} {pre : List (Nat × Int)} {A : Option Addr} {n c : Nat} {Ft : Nat → Prop} {W : World} (h : TI w most pre (.slice A n c) Ft W) (hx : pre.map Prod.snd = xs.take most) {D : Nat} (hD : W.heap[D]? = some (.deferred (some []))) (hDw : w.heap.size + 5 ≤ D) :
    ∀ W', W' = (((W.setCell ⟨w.heap.size + 1, 0, none⟩ (.slice A n c)).setCell ⟨w.heap.size + 2, 0, none⟩ (.bool true)).putObj D (.deferred none)) → W'.cell? ⟨w.heap.size + 1, 0, none⟩ = some (.slice A n c) ∧ W'.cell? ⟨w.heap.size + 2, 0, none⟩ = some (.bool true) ∧
      ToldPost w xs most (.returned (.tuple #[.slice A n c, .bool true])) W' := by
  rintro W' rfl
  have b1 := ((h.r1.set (.slice A n c)).setOther (g := w.heap.size + 2) (i := 0) (by omega) (.bool true))
  have b2 := (h.r2.setOther (g := w.heap.size + 1) (i := 0) (by omega) (.slice A n c)).set (.bool true)
  have hg : W.grownBy ((W.setCell ⟨w.heap.size + 1, 0, none⟩ (.slice A n c)).setCell ⟨w.heap.size + 2, 0, none⟩ (.bool true)) none → True := fun _ => trivial
  have hw : w.grownBy ((W.setCell ⟨w.heap.size + 1, 0, none⟩ (.slice A n c)).setCell ⟨w.heap.size + 2, 0, none⟩ (.bool true)) none := grown_new (grown_new h.grown (grown_setCell _ _ _ _) (by omega)) (grown_setCell _ _ _ _) (by omega)
  have hD2 : ((W.setCell ⟨w.heap.size + 1, 0, none⟩ (.slice A n c)).setCell ⟨w.heap.size + 2, 0, none⟩ (.bool true)).heap[D]? = some (.deferred (some [])) := (heap_setCell_other _ _ _ _ (by simp only; omega)).trans ((heap_setCell_other _ _ _ _ (by simp only; omega)).trans hD)
  have hr := h.row
  rw [hx] at hr
  have hr2 : ((W.setCell ⟨w.heap.size + 1, 0, none⟩ (.slice A n c)).setCell ⟨w.heap.size + 2, 0, none⟩ (.bool true)).ownsRow (w.heap.size + 5) 2 1 (.slice A n c) (xs.take most).length (ivals (xs.take most)) :=
    owns_stay hr fun k hk => (heap_setCell_other _ _ _ _ (by have := (hr.lt k hk).1; simp only; omega)).trans (heap_setCell_other _ _ _ _ (by have := (hr.lt k hk).1; simp only; omega))
  refine ⟨Boxed.cell ((World.putObj_heap_other (by omega)).trans b1), Boxed.cell ((World.putObj_heap_other (by omega)).trans b2), _, rfl, owns_base (ownsRow_putObj hr2 _ hD2 rfl) (by omega), grown_new hw (grownBy_putObj' _ _ _) (by omega)⟩
set_option maxRecDepth 100000 in
set_option maxHeartbeats 1000000 in
theorem told_at (w : World) (p : Option Addr) (most : Nat) (xs : List Int) (hm : most ≤ 1000000) (hlen : xs.length ≤ 65536) (ht : Tells w p xs) :
    Calls Try.prog 13 #[.pointer p, .int .i64 (most : Int)] w (ToldPost w xs most) := by
  refine (callsIn_wide (n := 3)).1 ?_
  have hF : ∀ k, WF.fn k := fun _ => trivial
  have hDp : WF.depth.isSome = false := rfl
  have HT := Lib.hid ht
  clear ht
  refine callsIn_of_wp_marks Try.func13 rfl trivial ?_ rfl
  simp only [Try.ntmps13, List.size_toArray, List.length_cons, List.length_nil, Nat.reduceAdd, Nat.reduceSub, Array.replicate_succ, Array.replicate_zero, List.push_toArray, List.append_toArray, List.nil_append, List.cons_append]
  have hfn := fun w' => run_eql_func_nil (P := Try.prog) w' (.func 23) #[] #[.pointer (some ⟨w.heap.size + 1 + 1 + 1, 0, none⟩)] Try.underlying41
  gi_wp2_with (gi_at_call 17; refine (callsIn_wide.2 (all_any _ _)).mono ?_; rintro e w' ⟨rfl, rfl⟩)
  obtain ⟨hgB, hzB, b0, b1, b2, b3, b4⟩ := alloc5 w (.cells #[.int .i64 (most : Int)] 3) (.cells #[.slice none 0 0] 22) (.cells #[.bool false] 4) (.cells #[.pointer p] 23) (.cells #[.slice none 0 0] 22)
  generalize ((((w.alloc (.cells #[.int .i64 (most : Int)] 3)).alloc (.cells #[.slice none 0 0] 22)).alloc (.cells #[.bool false] 4)).alloc (.cells #[.pointer p] 23)).alloc (.cells #[.slice none 0 0] 22) = wB at *
  have HSq := Lib.hid (all_seq w.heap.size (w.heap.size + 3) p xs wB hlen (cell_of_head b3 0) (HT.out.grow hgB))
  have HT0 : Hid (TI w most [] (.slice none 0 0) (foot (w.heap.size + 4) (.slice none 0 0)) wB) := Lib.hid ⟨b4, World.ownsRow_nil _ _ _ _, rfl, b0, b1, b2, hgB, Nat.zero_le _⟩
  clear b0 b1 b2 b3 b4 HT hfn
  obtain ⟨i0, hi, hz0, hz1, hz2⟩ := info_parts info2
  have hF0 : ∀ k, foot (w.heap.size + 4) (.slice none 0 0) k → k < wB.heap.size := by
    intro k hk
    rcases hk with rfl | hk
    · omega
    · cases hk
  refine range_own (P := Try.prog) (α := Nat × Int) (gf := 23) (lb := #[.pointer (some ⟨w.heap.size + 3, 0, none⟩)]) rfl (enters_of Try.func23 (by kernel_rfl) rfl) (Prot := fun _ => False) (fun _ h => h.elim)
    HSq.out (World.grownBy.refl _ _) (by omega) (fun _ => rfl) (fun _ => False) (fun _ h => h.elim)
    (fun ys Ft W => ∃ v, TI w most ys v Ft W) (fun c ys Ft W => c = .exit 0 ∧ ∃ pre x v, ys = pre ++ [x] ∧ pre.length = most ∧ TI w most pre v Ft W)
    ?_ ?_ ?_ ?_ (fun _ _ _ _ _ h => h.elim)
    (foot (w.heap.size + 4) (.slice none 0 0)) ⟨_, HT0.out⟩ hF0
    ?a1 ?assign ?body ?done ?stop
  case assign =>
    intro l m x W K hK
    gi_wp2
    exact hK
  · rintro ys Ft W W' ⟨v, h⟩ hs; exact ⟨v, h.firm (by omega) hs⟩
  · rintro c ys Ft W W' ⟨hc, pre, x, v, hy, hl, h⟩ hs
    exact ⟨hc, pre, x, v, hy, hl, h.firm (by omega) hs⟩
  · rintro ys Ft W k ⟨v, h⟩ hk; exact h.owned hk
  · rintro c ys Ft W k ⟨hc, pre, x, v, hy, hl, h⟩ hk; exact h.owned hk
  case body =>
    rintro l m pre x Ft W ⟨v, hT⟩ hlen2 hsp
    obtain ⟨e1, e2, e3⟩ := enum_at hsp
    obtain ⟨A, cap, rfl⟩ := owns_slice hT.row
    have hcb := hT.box.cell
    have hcm := hT.mbox.cell
    have hml : (pre.map Prod.snd).length = pre.length := by simp
    rw [hml] at hcb
    obtain ⟨xi, xv⟩ := x
    dsimp only at e1 e2
    subst e1
    by_cases hlt : pre.length < most
    · have hd : decide ((most : Int) ≤ (pre.length : Int)) = false := by simp; omega
      have hd' : decide (most ≤ pre.length) = false := by simp; omega
      have hzz := hT.box.lt
      obtain ⟨g', cap', w1, hrun, ho, hgr, hft⟩ := run_append_foot (P := Try.prog) (W.alloc (.cells #[.int .i64 xv] 2)) (w.heap.size + 5) 22 22 2 i0 (.int .i64 0) 1 8 Try.underlying22 hi hz0 hz1 hz2 rfl (by decide) (.slice A (pre.map Prod.snd).length cap) (pre.map Prod.snd).length (ivals (pre.map Prod.snd)) (hT.row.alloc _) ⟨W.heap.size, 0, none⟩ 1 [.int .i64 xv] rfl (cell_new1 W 2 _) (by simp [Value.oneCell']) (by unfold maxLen; omega) (by omega) (by have := hT.grown.size; simp; omega)
      obtain ⟨hb1, hb2, hr2, hst⟩ := coll_push hT.box hT.row ho hgr hft
      have hc1 := hb1.cell
      have hf1 := hb1.frozen
      rw [hml] at hrun hb2 hr2 hst
      have HR := Lib.hid hrun
      have HST := Lib.hid hst
      have hnf : ∀ k, w.heap.size ≤ k → k < w.heap.size + 4 → ¬ foot (w.heap.size + 4) (.slice A (pre.map Prod.snd).length cap) k := fun k h1 h2 h => by
        rcases h with h | h
        · omega
        · have := (hT.row.lt _ h).1; omega
      have hfo : ∀ k, foot (w.heap.size + 4) (.slice A (pre.map Prod.snd).length cap) k → w.heap.size ≤ k := fun k hk => (coll_owned hT.box hT.row (show w.heap.size ≤ w.heap.size + 4 by omega) (by omega) hk).1
      rw [hml] at hnf hfo
      have HFin : Hid (TI w most (pre ++ [(pre.length, xv)]) (.slice (some ⟨g', 0, none⟩) (pre.length + 1) cap') (foot (w.heap.size + 4) (.slice (some ⟨g', 0, none⟩) (pre.length + 1) cap')) (w1.setCell ⟨w.heap.size + 4, 0, none⟩ (.slice (some ⟨g', 0, none⟩) (pre.length + 1) cap'))) := Lib.hid
        ⟨hb2, by rw [List.map_append]; exact hr2, rfl, ((hst (fun _ => False)).stay.block _ hT.mbox.lt ⟨hnf _ (by omega) (by omega), fun h => h⟩).trans hT.mbox,
          ((hst (fun _ => False)).stay.block _ hT.r1.lt ⟨hnf _ (by omega) (by omega), fun h => h⟩).trans hT.r1, ((hst (fun _ => False)).stay.block _ hT.r2.lt ⟨hnf _ (by omega) (by omega), fun h => h⟩).trans hT.r2,
          grown_step hT.grown (hst (fun _ => False)) hfo (fun _ h => h), by simp; omega⟩
      have hft0 := hT.ft
      rw [hml] at hft0
      subst hft0
      clear hrun ho hgr hft hb1 hb2 hr2 hst hnf hfo hT e2 e3 hsp
      gi_wp2_with (gi_at_builtin; refine append_in rfl (.tmp 25) (.tmp 27) 22 rfl rfl rfl HR.out ?_)
      exact ⟨_, ⟨_, HFin.out⟩, HST.out _⟩
    · have hd : decide ((most : Int) ≤ (pre.length : Int)) = true := by simp; omega
      have hd' : decide (most ≤ pre.length) = true := by simp; omega
      have HT : Hid (TI w most pre (.slice A (pre.map Prod.snd).length cap) Ft W) := Lib.hid hT
      have hle := hT.few
      clear hT e2 e3 hsp
      gi_wp2
      exact ⟨_, ⟨rfl, pre, _, _, rfl, by omega, HT.out⟩, Step.refl _ _ _⟩
  case done =>
    rintro ys Ft W rfl ⟨v, hT⟩ hD
    obtain ⟨A, cap, rfl⟩ := owns_slice hT.row
    have hle := hT.few
    rw [enum_length] at hle
    have hcb := hT.box.cell
    have c1 := hT.r1.cell
    have c2 := hT.r2.cell
    have f1 := hT.r1.frozen
    have f2 := hT.r2.frozen
    have hfin := told_fin (xs := xs) hT (by rw [enum_snd, List.take_of_length_le hle]) hD (by omega)
    obtain ⟨len, Hl⟩ : ∃ len, Hid (((enum xs).map Prod.snd).length = len) := ⟨_, Lib.hid rfl⟩
    rw [Hl.out] at hcb hfin
    have HFin := Lib.hid hfin
    have HD := Lib.hid ((heap_setCell_other (W.setCell ⟨w.heap.size + 1, 0, none⟩ (.slice A len cap)) ⟨w.heap.size + 2, 0, none⟩ _ (.bool true) (by simp only; omega)).trans ((heap_setCell_other W ⟨w.heap.size + 1, 0, none⟩ _ (.slice A len cap) (by simp only; omega)).trans hD))
    clear hD hT hfin
    gi_wp2
    refine ⟨by simp, .inl ⟨_, _, rfl, run_takeDeferred HD.out, ?_⟩⟩
    obtain ⟨r1, r2, r3⟩ := HFin.out _ rfl
    exact ⟨_, results_told rfl _ _ _ _ _ _ _ _ rfl rfl r1 r2, r3⟩
  case stop =>
    rintro c ys Ft W hpre ⟨rfl, pre, x, v, rfl, hl, hT⟩ hD
    obtain ⟨e1, e2, e3⟩ := enum_at hpre
    obtain ⟨A, cap, rfl⟩ := owns_slice hT.row
    have hcb := hT.box.cell
    have c1 := hT.r1.cell
    have c2 := hT.r2.cell
    have f1 := hT.r1.frozen
    have f2 := hT.r2.frozen
    have hfin := told_fin (xs := xs) hT (by rw [e3, hl]) hD (by omega)
    obtain ⟨len, Hl⟩ : ∃ len, Hid ((pre.map Prod.snd).length = len) := ⟨_, Lib.hid rfl⟩
    rw [Hl.out] at hcb hfin
    have HFin := Lib.hid hfin
    have HD := Lib.hid ((heap_setCell_other (W.setCell ⟨w.heap.size + 1, 0, none⟩ (.slice A len cap)) ⟨w.heap.size + 2, 0, none⟩ _ (.bool true) (by simp only; omega)).trans ((heap_setCell_other W ⟨w.heap.size + 1, 0, none⟩ _ (.slice A len cap) (by simp only; omega)).trans hD))
    clear hD hT hfin e1 e2 e3 hpre
    gi_wp2
    refine ⟨by simp, .inl ⟨_, _, rfl, run_takeDeferred HD.out, ?_⟩⟩
    obtain ⟨r1, r2, r3⟩ := HFin.out _ rfl
    exact ⟨_, results_told rfl _ _ _ _ _ _ _ _ rfl rfl r1 r2, r3⟩
end Go.Proofs.Ytcphbendmnmpiaa
