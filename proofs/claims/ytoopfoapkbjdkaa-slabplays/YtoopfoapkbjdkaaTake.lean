/-
  takePlace and Alloc of a slab of numbers.
-/
import Derived.Test.YtoopfoapkbjdkaaGet
import Derived.Test.YtoopfoapkbjdkaaMid
import Derived.Deep.CutRange
namespace Go.Proofs.Ytoopfoapkbjdkaa
open Go.ChangeShapes Go.WideShapes Go.ChangeAt Go.RowKit
set_option linter.unusedVariables false
set_option maxRecDepth 100000

theorem info118 : (Try.prog.info? 118).map (fun i => (i.zero, i.size, i.bytes)) = some (some (.slice none 0 0), 1, 24) := by kernel_rfl
theorem info89 : (Try.prog.info? 89).map (fun i => (i.zero, i.size, i.bytes)) = some (some (.agg #[.int .u32 0, .bool false, .int .i64 0]), 3, 16) := by kernel_rfl

/-- a place that was freed is taken again -/
theorem take_freed (b gF n p cap : Nat) (w : World) (hn : n < 65536) (hp : p < 65536) (hcap : n + 1 ≤ cap) (h4 : w.cell? ⟨b, 4, none⟩ = some (.slice (some ⟨gF, 0, none⟩) (n + 1) cap)) (hf4 : w.frozen? ⟨b, 4, none⟩ = false)
    (hg : w.cell? ⟨gF, n, none⟩ = some (.int .i32 (p : Int))) :
    Calls Try.prog 36 #[.pointer (some ⟨b, 0, none⟩)] w fun e w' => e = .returned (.int .i32 (p : Int)) ∧ w' = w.setCell ⟨b, 4, none⟩ (.slice (some ⟨gF, 0, none⟩) n cap) := by
  go_enter Try.func36, Try.ntmps36
  go_wp2
  go_ret
  exact ⟨rfl, rfl⟩

def zero3 : List Value := [.int .u32 0, .bool false, .int .i64 0]
theorem cell_new3 (w : World) (t : TypeId) (x y z : Value) : ∀ j u, [x, y, z][j]? = some u → (w.alloc (.cells #[x, y, z] t)).cell? ((⟨w.heap.size, 0, none⟩ : Addr).add j) = some u := by
  intro j u hj
  rw [Go.WideShapes.add_plain, Nat.zero_add]
  exact (cell_of_head (heap_alloc_new w _) j).trans (by simpa using hj)
def TakePost (w : World) (lo b most c : Nat) (Lc : List (List Value)) (vF : Value) (e : Ending) (w' : World) : Prop :=
  e = .returned (.int .i32 (Lc.length : Int)) ∧ ∃ d' cp' vC', Mem Ki w' lo b most c (Lc ++ [zero3]) [] d' cp' vC' vF ∧ Keep Ki lo w w'
section
variable {w : World} {lo b most c : Nat} {Lc : List (List Value)} {d cp : Nat → Nat} {vC vF : Value}
set_option maxHeartbeats 2000000 in
theorem take_part (h : Mem Ki w lo b most c Lc [] d cp vC vF) (hlt : Lc.length < most) (hm : Lc.length % c ≠ 0) (hlo : lo ≤ w.heap.size) :
    Calls Try.prog 36 #[.pointer (some ⟨b, 0, none⟩)] w (TakePost w lo b most c Lc vF) := by
  obtain ⟨A, cap, rfl⟩ := owns_slice h.rowF
  have hm6 := h.m6
  have hc1 := h.c1
  have hcm := h.cm
  have hidx : ∀ n : Nat, (n : Int) < (n : Int) + 1 := fun n => by omega
  obtain ⟨gC, capC, xs, vals, rfl, hmid⟩ := Mid.part h hm
  have HM := Lib.hid h
  have h1 := h.chunk1
  have h2 := h.taken2
  have h3 := h.chunks3
  have h4 := h.freed4
  have hz : ((c : Int) == 0) = false := beq_eq_false_iff_ne.2 (by omega)
  have hz2 : ¬ c = 0 := by omega
  have hz3 : ¬ (c : Int) = 0 := by omega
  have hm' := tmod_nat Lc.length c
  have hmc := Nat.mod_lt Lc.length (show c > 0 by omega)
  have hdc := Nat.div_le_self Lc.length c
  obtain ⟨i0, hi, hz0, hz1, hz2'⟩ := info_parts info89
  have HI := Lib.hid hi
  have HZ0 := Lib.hid hz0
  have HZ1 := Lib.hid hz1
  have HZ2 := Lib.hid hz2'
  have HMid := Lib.hid hmid
  have hC := hmid.gC_cell
  have hbn := hmid.b_ne Ki_ok
  have hgl : gC < w.heap.size := (Array.getElem?_eq_some_iff.1 (owns_type hmid.rowC (k := gC) rfl).2.choose_spec).1
  have hbl := h.blt
  clear hi hz0 hz1 hz2' hmid h
  obtain ⟨len, Hlen⟩ : ∃ len, Hid (Lc.length = len) := ⟨_, Lib.hid rfl⟩
  obtain ⟨ii, Hii⟩ : ∃ ii, Hid (len % c = ii) := ⟨_, Lib.hid rfl⟩
  obtain ⟨ee, Hee⟩ : ∃ ee, Hid (len / c = ee) := ⟨_, Lib.hid rfl⟩
  rw [Hlen.out] at h2 hlt hm hm' hmc hdc hC h3
  rw [Hii.out] at hm hm' hmc
  rw [Hee.out] at hC h3 hdc
  have hm3 : (((ii : Nat) : Int) == 0) = false := beq_eq_false_iff_ne.2 (by omega)
  clear hm
  go_enter Try.func36, Try.ntmps36
  go_wp2
  go_quiet (fail)
  go_wp2
  obtain ⟨VE, HVE⟩ : ∃ VE, Hid (VE = Value.slice (some ⟨d (Lc.length / c), 0, none⟩) (Lc.length % c) (cp (Lc.length / c))) := ⟨_, Lib.hid rfl⟩
  have HMW : Hid (Mid Ki w (w.drewN nq) lo b most c Lc d cp gC capC VE (.slice A 0 cap) xs vals) := Lib.hid (by rw [HVE.out]; exact HMid.out.drewN nq)
  have HloW : Hid (lo ≤ (w.drewN nq).heap.size) := Lib.hid hlo
  generalize w.drewN nq = W at HMW HloW ⊢
  clear hC h1 h2 h3 h4 hbn hgl hbl
  -- the chunk takes one more
  have hC1 := HMW.out.gC_cell
  rw [Hlen.out, Hee.out] at hC1
  have hC3 : W.cell? ⟨b, 3, none⟩ = some (.slice (some ⟨gC, 0, none⟩) (ee + 1) capC) := by
    have := cell_of_head HMW.out.head 3; rw [Hlen.out, Hee.out] at this; exact this
  obtain ⟨g', cap', w5, hrun, ho, hgr, hft⟩ := run_append_foot (P := Try.prog) ((W.alloc (.cells #[.int .u32 0, .bool false, .int .i64 0] 89)).drew) lo 118 118 89 i0 (.agg #[.int .u32 0, .bool false, .int .i64 0]) 3 16 Try.underlying118 HI.out HZ0.out HZ1.out HZ2.out rfl (by decide) VE ii xs (by have := HMW.out.own; rw [Hlen.out, Hii.out] at this; exact this.alloc _) ⟨W.heap.size, 0, none⟩ 1 [.int .u32 0, .bool false, .int .i64 0] rfl (cell_new3 W.drew 89 _ _ _) (by simp [Value.oneCell']) (by unfold maxLen; omega) (by omega) (by have := HloW.out; simp; omega)
  have hgrW : W.grownBy w5 (Value.ownBlock VE) := grown_trans (grown_trans (grown_drewN W 1 _) (World.grownBy_alloc (W.drewN 1) _ _)) hgr
  have hft' : Value.ownBlock VE = some g' ∨ W.heap.size ≤ g' := hft.imp_right fun h => by simp at h; omega
  obtain ⟨hb5, hg5⟩ := HMW.out.after Ki_ok hgrW
  have hfin := HMW.out.fin HM.out Ki_ok (by rw [Hlen.out]; exact hlt) (z := zero3) rfl (by simp [zero3, Value.oneCell']) (w3 := w5) (g := g') (cap := cap') (by rw [Hlen.out, Hii.out]; exact ho) hgrW hft'
  rw [Hlen.out, Hee.out, Hii.out] at hfin
  have h5C : w5.cell? ⟨gC, ee, none⟩ = some VE := (World.cell?_of_block (a := ⟨gC, ee, none⟩) hg5).trans hC1
  have h5f : w5.frozen? ⟨gC, ee, none⟩ = false := (World.frozen?_of_block (a := ⟨gC, ee, none⟩) hg5).trans (HMW.out.rowC.frozenAt _)
  have h52 : w5.cell? ⟨b, 2, none⟩ = some (.int .i64 (len : Int)) := (World.cell?_of_block (a := ⟨b, 2, none⟩) hb5).trans (by have := cell_of_head HMW.out.head 2; rw [Hlen.out] at this; exact this)
  have h53 : w5.cell? ⟨b, 3, none⟩ = some (.slice (some ⟨gC, 0, none⟩) (ee + 1) capC) := (World.cell?_of_block (a := ⟨b, 3, none⟩) hb5).trans hC3
  have h52f : w5.frozen? ⟨b, 2, none⟩ = false := (World.frozen?_of_block (a := ⟨b, 2, none⟩) hb5).trans (frozen_of_head HMW.out.head 2)
  have hgl : gC < W.heap.size := (Array.getElem?_eq_some_iff.1 (owns_type HMW.out.rowC (k := gC) rfl).2.choose_spec).1
  have hbl : b < W.heap.size := (Array.getElem?_eq_some_iff.1 HMW.out.head).1
  have hbn : ¬ gC = b := HMW.out.b_ne Ki_ok
  have hbn' : ¬ b = gC := fun e => hbn e.symm
  have HR := Lib.hid hrun
  have HF := Lib.hid hfin
  clear hrun ho hgr hft hgrW hft' hb5 hg5 hfin HMW HI HZ0 HZ1 HZ2
  have hidx' := hidx ee
  clear hidx
  go_cut [] from 56 to 71 (fun wx => wx = w5.setCell ⟨gC, ee, none⟩ (.slice (some ⟨g', 0, none⟩) (ii + 1) cap'))
  case first =>
    go_region_law ((refine step_append_run rfl (.tmp 67) (.tmp 69) 118 rfl rfl rfl HR.out ?_))
    all_goals (go_wp2; go_meet; rfl)
  case rest =>
    subst hcut
    go_wp2
    go_ret
    exact ⟨congrArg (fun n : Nat => Ending.returned (.int .i32 (n : Int))) Hlen.out.symm, _, _, _, HF.out.1, HF.out.2⟩
set_option maxHeartbeats 4000000 in
theorem take_new (h : Mem Ki w lo b most c Lc [] d cp vC vF) (hlt : Lc.length < most) (hm : Lc.length % c = 0) (hlo : lo ≤ w.heap.size) :
    Calls Try.prog 36 #[.pointer (some ⟨b, 0, none⟩)] w (TakePost w lo b most c Lc vF) := by
  obtain ⟨A, cap, rfl⟩ := owns_slice h.rowF
  have hm6 := h.m6
  have hc1 := h.c1
  have hcm := h.cm
  have hidx : ∀ n : Nat, (n : Int) < (n : Int) + 1 := fun n => by omega
  have hn := nch_full h.c1 hm
  obtain ⟨AC, capC0, rfl⟩ := owns_slice h.rowC
  have HM := Lib.hid h
  have h1 := h.chunk1
  have h2 := h.taken2
  have h3 := h.chunks3
  have h3f := h.frozen 3
  have h4 := h.freed4
  have hz : ((c : Int) == 0) = false := beq_eq_false_iff_ne.2 (by omega)
  have hz2 : ¬ c = 0 := by omega
  have hz3 : ¬ (c : Int) = 0 := by omega
  have hm' := tmod_nat Lc.length c
  have hmc := Nat.mod_lt Lc.length (show c > 0 by omega)
  have hdc := Nat.div_le_self Lc.length c
  obtain ⟨i0, hi, hz0, hz1, hz2'⟩ := info_parts info89
  have HI := Lib.hid hi
  have HZ0 := Lib.hid hz0
  have HZ1 := Lib.hid hz1
  have HZ2 := Lib.hid hz2'
  obtain ⟨i1, hi, hz0, hz1, hz2'⟩ := info_parts info118
  have HJ := Lib.hid hi
  have HY0 := Lib.hid hz0
  have HY1 := Lib.hid hz1
  have HY2 := Lib.hid hz2'
  have hbl := h.blt
  clear hi hz0 hz1 hz2' h
  obtain ⟨len, Hlen⟩ : ∃ len, Hid (Lc.length = len) := ⟨_, Lib.hid rfl⟩
  obtain ⟨ii, Hii⟩ : ∃ ii, Hid (len % c = ii) := ⟨_, Lib.hid rfl⟩
  obtain ⟨ee, Hee⟩ : ∃ ee, Hid (len / c = ee) := ⟨_, Lib.hid rfl⟩
  rw [hn] at h3
  have Hn := Lib.hid hn
  have Hm := Lib.hid hm
  rw [Hlen.out] at h2 hlt hm hm' hmc hdc h3
  rw [Hii.out] at hm hm' hmc
  rw [Hee.out] at h3 hdc
  rw [hm] at hm'
  clear hn hm
  go_enter Try.func36, Try.ntmps36
  go_wp2
  go_quiet (fail)
  have HMq : Hid (Mem Ki (w.drewN nq) lo b most c Lc [] d cp (.slice AC (nch c Lc.length) capC0) (.slice A 0 cap)) := Lib.hid (HM.out.drewN nq)
  have HKq : Hid (Keep Ki lo w (w.drewN nq)) := Lib.hid (Keep.of_new (grown_drewN w nq none))
  have hloq : lo ≤ (w.drewN nq).heap.size := hlo
  have hblq : b < (w.drewN nq).heap.size := hbl
  generalize w.drewN nq = wq at HMq HKq hloq hblq ⊢
  have h3q := HMq.out.chunks3
  rw [Hn.out, Hlen.out, Hee.out] at h3q
  clear h1 h2 h3 h4 h3f
  obtain ⟨gC, capC, w1, hrun, ho, hgr, hft⟩ := run_append_foot (P := Try.prog) (wq.alloc (.cells #[.slice none 0 0] 118)) lo 70 70 118 i1 (.slice none 0 0) 1 24 Try.underlying70 HJ.out HY0.out HY1.out HY2.out rfl (by decide) (.slice AC ee capC0) ee ((List.range (nch c Lc.length)).map (chunkVal c Lc.length d cp)) (by have := HMq.out.rowC; rw [Hn.out, Hlen.out, Hee.out] at this ⊢; exact this.alloc _) ⟨wq.heap.size, 0, none⟩ 1 [.slice none 0 0] rfl (cell_new1 wq 118 _) (by simp [Value.oneCell']) (by unfold maxLen; omega) (by omega) (by simp; omega)
  have hg1 : wq.grownBy w1 (Value.ownBlock (.slice AC (nch c Lc.length) capC0)) := by
    have e : Value.ownBlock (.slice AC (nch c Lc.length) capC0) = Value.ownBlock (.slice AC ee capC0) := by cases AC <;> rfl
    rw [e]; exact grown_trans (World.grownBy_alloc wq _ _) hgr
  have hmid := Mid.new HMq.out Ki_ok Hm.out (gC := gC) (capC := capC) hg1 (by rw [Hlen.out, Hee.out]; rw [Hlen.out] at ho; exact ho)
  have hb1 : w1.heap[b]? = wq.heap[b]? := hg1.block b hblq fun e => by
    obtain ⟨_, cur, h2⟩ := owns_type HMq.out.rowC e.symm
    exact HMq.out.not_b Ki_ok h2 Ki_ok.sc rfl
  have h13 : w1.cell? ⟨b, 3, none⟩ = some (.slice AC ee capC0) := (World.cell?_of_block (a := ⟨b, 3, none⟩) hb1).trans h3q
  have h13f : w1.frozen? ⟨b, 3, none⟩ = false := (World.frozen?_of_block (a := ⟨b, 3, none⟩) hb1).trans (HMq.out.frozen 3)
  have HR1 := Lib.hid hrun
  have HMid := Lib.hid hmid
  have hlo1 : lo ≤ w1.heap.size := Nat.le_trans hloq hg1.size
  clear hrun ho hgr hft hg1 hmid hb1
  go_wp2_with (at_builtin; refine append_run rfl (.tmp 45) (.tmp 46) 70 rfl rfl rfl HR1.out ?_)
  have hee : ((ee + 1 : Nat) : Int) - 1 = (ee : Int) := by omega
  have HMW : Hid (Mid Ki wq (w1.setCell ⟨b, 3, none⟩ (.slice (some ⟨gC, 0, none⟩) (ee + 1) capC)) lo b most c Lc d cp gC capC (.slice none 0 0) (.slice A 0 cap) [] ((List.range (nch c Lc.length)).map (chunkVal c Lc.length d cp) ++ [.slice none 0 0])) := Lib.hid (by have := HMid.out; rw [Hlen.out, Hee.out] at this; rw [Hlen.out]; exact this)
  have HloW : Hid (lo ≤ (w1.setCell ⟨b, 3, none⟩ (.slice (some ⟨gC, 0, none⟩) (ee + 1) capC)).heap.size) := Lib.hid (by simpa using hlo1)
  obtain ⟨VE, HVE⟩ : ∃ VE, Hid (VE = Value.slice none 0 0) := ⟨_, Lib.hid rfl⟩
  obtain ⟨xs, Hxs⟩ : ∃ xs : List Value, Hid (xs = []) := ⟨_, Lib.hid rfl⟩
  rw [← HVE.out, ← Hxs.out] at HMW
  generalize (List.range (nch c Lc.length)).map (chunkVal c Lc.length d cp) ++ [VE] = vals at HMW
  generalize w1.setCell ⟨b, 3, none⟩ (.slice (some ⟨gC, 0, none⟩) (ee + 1) capC) = W at HMW HloW ⊢
  clear h3q h13 h13f hblq hbl hloq hlo1 HR1 HMid
  -- the chunk takes one more
  have hC1 := HMW.out.gC_cell
  rw [Hlen.out, Hee.out] at hC1
  have hC3 : W.cell? ⟨b, 3, none⟩ = some (.slice (some ⟨gC, 0, none⟩) (ee + 1) capC) := by
    have := cell_of_head HMW.out.head 3; rw [Hlen.out, Hee.out] at this; exact this
  obtain ⟨g', cap', w5, hrun, ho, hgr, hft⟩ := run_append_foot (P := Try.prog) ((W.alloc (.cells #[.int .u32 0, .bool false, .int .i64 0] 89)).drew) lo 118 118 89 i0 (.agg #[.int .u32 0, .bool false, .int .i64 0]) 3 16 Try.underlying118 HI.out HZ0.out HZ1.out HZ2.out rfl (by decide) VE ii xs (by have := HMW.out.own; rw [Hlen.out, Hii.out] at this; exact this.alloc _) ⟨W.heap.size, 0, none⟩ 1 [.int .u32 0, .bool false, .int .i64 0] rfl (cell_new3 W.drew 89 _ _ _) (by simp [Value.oneCell']) (by unfold maxLen; omega) (by omega) (by have := HloW.out; simp; omega)
  have hgrW : W.grownBy w5 (Value.ownBlock VE) := grown_trans (grown_trans (grown_drewN W 1 _) (World.grownBy_alloc (W.drewN 1) _ _)) hgr
  have hft' : Value.ownBlock VE = some g' ∨ W.heap.size ≤ g' := hft.imp_right fun h => by simp at h; omega
  obtain ⟨hb5, hg5⟩ := HMW.out.after Ki_ok hgrW
  have hfin := HMW.out.fin HMq.out Ki_ok (by rw [Hlen.out]; exact hlt) (z := zero3) rfl (by simp [zero3, Value.oneCell']) (w3 := w5) (g := g') (cap := cap') (by rw [Hlen.out, Hii.out]; exact ho) hgrW hft'
  rw [Hlen.out, Hee.out, Hii.out] at hfin
  have h5C : w5.cell? ⟨gC, ee, none⟩ = some VE := (World.cell?_of_block (a := ⟨gC, ee, none⟩) hg5).trans hC1
  have h5f : w5.frozen? ⟨gC, ee, none⟩ = false := (World.frozen?_of_block (a := ⟨gC, ee, none⟩) hg5).trans (HMW.out.rowC.frozenAt _)
  have h52 : w5.cell? ⟨b, 2, none⟩ = some (.int .i64 (len : Int)) := (World.cell?_of_block (a := ⟨b, 2, none⟩) hb5).trans (by have := cell_of_head HMW.out.head 2; rw [Hlen.out] at this; exact this)
  have h53 : w5.cell? ⟨b, 3, none⟩ = some (.slice (some ⟨gC, 0, none⟩) (ee + 1) capC) := (World.cell?_of_block (a := ⟨b, 3, none⟩) hb5).trans hC3
  have h52f : w5.frozen? ⟨b, 2, none⟩ = false := (World.frozen?_of_block (a := ⟨b, 2, none⟩) hb5).trans (frozen_of_head HMW.out.head 2)
  have hgl : gC < W.heap.size := (Array.getElem?_eq_some_iff.1 (owns_type HMW.out.rowC (k := gC) rfl).2.choose_spec).1
  have hbl : b < W.heap.size := (Array.getElem?_eq_some_iff.1 HMW.out.head).1
  have hbn : ¬ gC = b := HMW.out.b_ne Ki_ok
  have hbn' : ¬ b = gC := fun e => hbn e.symm
  have HR := Lib.hid hrun
  have HF := Lib.hid hfin
  clear hrun ho hgr hft hgrW hft' hb5 hg5 hfin HMW HI HZ0 HZ1 HZ2
  have hidx' := hidx ee
  clear hidx
  go_cut [] from 56 to 71 (fun wx => wx = w5.setCell ⟨gC, ee, none⟩ (.slice (some ⟨g', 0, none⟩) (ii + 1) cap'))
  case first =>
    go_region_law ((refine step_append_run rfl (.tmp 67) (.tmp 69) 118 rfl rfl rfl HR.out ?_))
    all_goals (go_wp2; go_meet; rfl)
  case rest =>
    subst hcut
    go_wp2
    go_ret
    exact ⟨congrArg (fun n : Nat => Ending.returned (.int .i32 (n : Int))) Hlen.out.symm, _, _, _, HF.out.1, HKq.out.trans HF.out.2⟩
end
end Go.Proofs.Ytoopfoapkbjdkaa
