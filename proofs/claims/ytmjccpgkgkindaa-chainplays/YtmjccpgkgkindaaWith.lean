/-
  The document's chains, a list of which is another one; new ones.
-/
import Derived.Test.YtmjccpgkgkindaaRef
namespace Go.Proofs.Ytmjccpgkgkindaa
open Go.ChangeShapes Go.WideShapes Go.ChangeAt Go.RowKit
set_option linter.unusedVariables false

theorem info71 : (Try.prog.info? 71).map (fun i => (i.zero, i.size, i.bytes)) = some (some (.agg #[.slice none 0 0]), 1, 24) := by kernel_rfl
theorem results_ref {fn : Func} {p : Tmp} (h : fn.results = #[.cell p 31]) (tmps : Array Value) (w : World) (g : Nat) (t : TypeId) (fr : Nat × Nat) (x y : Value)
    (hp : tmps.getD p undef = .pointer (some ⟨g, 0, none⟩)) (hg : w.heap[g]? = some (.cells #[x, y] t fr)) : (results fn tmps).run Try.prog w = .ok (.agg #[x, y]) w := by
  have hp' : tmps[p]?.getD undef = .pointer (some ⟨g, 0, none⟩) := by simpa using hp
  simp only [results, h]
  simp [hp', asAddr, run_loadVar_row w g t 31 #[x, y] fr _ hg Try.underlying31 rfl (by kernel_rfl)]
theorem results_ref2 {fn : Func} {p u : Tmp} (h : fn.results = #[.cell p 31, .tmp u]) (tmps : Array Value) (w : World) (g : Nat) (t : TypeId) (fr : Nat × Nat) (x y : Value)
    (hp : tmps.getD p undef = .pointer (some ⟨g, 0, none⟩)) (hg : w.heap[g]? = some (.cells #[x, y] t fr)) : (results fn tmps).run Try.prog w = .ok (.tuple #[.agg #[x, y], tmps.getD u undef]) w := by
  rw [results_cell_tmp h, hp]
  simp [asAddr, run_loadVar_row w g t 31 #[x, y] fr _ hg Try.underlying31 rfl (by kernel_rfl), Result.andThen]
def rl (rows : Nat → Value) (M : Nat) : List Value := (List.range M).map rows
theorem rl_get {rows : Nat → Value} {M i : Nat} (h : i < M) : (rl rows M)[i]? = some (rows i) := by unfold rl; rw [List.getElem?_map, List.getElem?_range h]; rfl
section
variable {w : World} {C : Ch} {b cap : Nat} {rows : Nat → Value}
set_option maxHeartbeats 1000000 in
theorem with_at (h : RefAt w C b cap rows) (hM : C.ls.length ≤ 8) {i : Nat} (hi : i < C.ls.length) {A : Option Addr} {len c : Nat} {l : List Nat} (hl : NRow w (.slice A len c) l) :
    Calls Try.prog 46 #[refV C b cap, .int .i64 (i : Int), .slice A len c] w fun e w' => ∃ b' cap' rows', e = .returned (refV (C.put i l) b' cap') ∧ RefAt w' (C.put i l) b' cap' rows' ∧ w.grownBy w' none := by
  obtain ⟨i0, hin, hz0, hz1, hz2⟩ := info_parts info71
  unfold refV
  obtain ⟨M, HM⟩ : ∃ M, Hid (C.ls.length = M) := ⟨_, Lib.hid rfl⟩
  rw [Ch.len_put, HM.out]
  rw [HM.out] at hM hi
  -- the three blocks
  obtain ⟨hgB, hzB, b0, b1, b2⟩ := alloc3 w (.cells #[.int .i64 (C.N : Int), .slice (some ⟨b, 0, none⟩) M cap] 31) (.cells #[.int .i64 0, .slice none 0 0] 31) (.cells #[] 71)
  have hk := h.kept hgB
  obtain ⟨v', w3, hrun, ho, hg3, _⟩ := run_append_own (P := Try.prog) (((w.alloc (.cells #[.int .i64 (C.N : Int), .slice (some ⟨b, 0, none⟩) M cap] 31)).alloc (.cells #[.int .i64 0, .slice none 0 0] 31)).alloc (.cells #[] 71)) (w.heap.size + 2) 29 29 71 i0 (.agg #[.slice none 0 0]) 1 24 Try.underlying29 hin hz0 hz1 hz2 rfl (by decide)
    (.slice (some ⟨w.heap.size + 2, 0, none⟩) 0 0) 0 [] ⟨rfl, .inr ⟨w.heap.size + 2, 0, #[], rfl, Nat.le_refl _, b2, Nat.le_refl _, by decide, rfl, rfl⟩⟩ ⟨b, 0, none⟩ M cap (rl rows M) (by simp [rl]) (fun j u hj => by
      have hjM : j < M := by have := (List.getElem?_eq_some_iff.1 hj).1; simpa [rl] using this
      rw [rl_get hjM] at hj
      rw [Go.WideShapes.add_plain, Nat.zero_add, ← Option.some.inj hj]
      exact hk.cell j (by rw [HM.out]; exact hjM)) (fun u hu => by
      obtain ⟨j, hj, rfl⟩ := List.mem_map.1 hu
      obtain ⟨A', c', hv, _⟩ := hk.sl (i := j) (by rw [HM.out]; simpa using hj)
      rw [hv]; rfl) (by unfold maxLen; omega) (by omega) (by omega)
  rw [Nat.zero_add, List.nil_append] at ho
  obtain ⟨g', cap', rfl⟩ := owns_some ho (by omega)
  have hgn : w.heap.size + 2 ≤ g' := (ho.lt g' rfl).1
  have hg3' : (((w.alloc (.cells #[.int .i64 (C.N : Int), .slice (some ⟨b, 0, none⟩) M cap] 31)).alloc (.cells #[.int .i64 0, .slice none 0 0] 31)).alloc (.cells #[] 71)).grownBy w3 (some (w.heap.size + 2)) := hg3
  have hblt := h.lt
  have h30 : w3.heap[w.heap.size]? = some (.cells #[.int .i64 (C.N : Int), .slice (some ⟨b, 0, none⟩) M cap] 31 (0, 0)) := (hg3'.block _ (by omega) (by simp)).trans b0
  have h31 : w3.heap[w.heap.size + 1]? = some (.cells #[.int .i64 0, .slice none 0 0] 31 (0, 0)) := (hg3'.block _ (by omega) (by simp)).trans b1
  have HG3 : Hid (w.grownBy w3 none) := Lib.hid (grown_new hgB hg3' (by omega))
  have HRun := Lib.hid hrun
  have HO := Lib.hid ho
  have HH := Lib.hid h
  have HL := Lib.hid hl
  have e30 := cell_of_head h30 1
  have f30 := frozen_of_head h30 1
  simp only [List.getElem?_toArray, List.getElem?_cons_zero, List.getElem?_cons_succ] at e30
  have e300 := cell_of_head h30 0
  have e310 := cell_of_head h31 0
  have e311 := cell_of_head h31 1
  have f310 := frozen_of_head h31 0
  have f311 := frozen_of_head h31 1
  simp only [List.getElem?_toArray, List.getElem?_cons_zero, List.getElem?_cons_succ] at e300 e310 e311
  obtain ⟨_, curg, hcurg⟩ := owns_type ho (k := g') rfl
  have eg := ho.cellAt i (by omega)
  rw [rl_get hi] at eg
  have fg := frozen_of_head hcurg i
  have hsl : ∃ A0 c0, rows i = .slice A0 (C.of i).length c0 := by obtain ⟨A0, c0, hv, _⟩ := h.sl (i := i) (by rw [HM.out]; exact hi); exact ⟨A0, c0, hv⟩
  obtain ⟨A0, c0, hsl⟩ := hsl
  rw [hsl] at eg
  have Hcg := Lib.hid hcurg
  have H30 := Lib.hid h30
  have H31 := Lib.hid h31
  clear hrun ho h hl hg3 hg3' hgB hzB b0 b1 b2 hk h30 h31 hin hz0 hz1 hz2 hsl hcurg
  go_enter Try.func46, Try.ntmps46
  go_wp2_with (first | (at_builtin; refine append_run rfl (.tmp 7) (.tmp 9) 29 rfl rfl rfl HRun.out ?_))
  have hG : w.grownBy ((((w3.setCell ⟨w.heap.size, 1, none⟩ (.slice (some ⟨g', 0, none⟩) M cap')).setCell ⟨g', i, none⟩ (.slice A len c)).setCell ⟨w.heap.size + 1, 0, none⟩ (.int .i64 (C.N : Int))).setCell ⟨w.heap.size + 1, 1, none⟩ (.slice (some ⟨g', 0, none⟩) M cap')) none :=
    grown_new (grown_new (grown_new (grown_new HG3.out (grown_setCell _ _ _ _) (Nat.le_refl _)) (grown_setCell _ _ _ _) (by omega)) (grown_setCell _ _ _ _) (by omega)) (grown_setCell _ _ _ _) (by omega)
  have hq : ((((w3.setCell ⟨w.heap.size, 1, none⟩ (.slice (some ⟨g', 0, none⟩) M cap')).setCell ⟨g', i, none⟩ (.slice A len c)).setCell ⟨w.heap.size + 1, 0, none⟩ (.int .i64 (C.N : Int))).setCell ⟨w.heap.size + 1, 1, none⟩ (.slice (some ⟨g', 0, none⟩) M cap')).heap[g']? = some (.cells (curg.setIfInBounds i (.slice A len c)) 71 (0, 0)) := by
    have h0 : (w3.setCell ⟨w.heap.size, 1, none⟩ (.slice (some ⟨g', 0, none⟩) M cap')).heap[g']? = some (.cells curg 71 (0, 0)) := (heap_setCell_other _ _ _ _ (by simp only; omega)).trans Hcg.out
    exact (heap_setCell_other _ _ _ _ (by simp only; omega)).trans ((heap_setCell_other _ _ _ _ (by simp only; omega)).trans (head_set h0 i _))
  have hp1 : ((((w3.setCell ⟨w.heap.size, 1, none⟩ (.slice (some ⟨g', 0, none⟩) M cap')).setCell ⟨g', i, none⟩ (.slice A len c)).setCell ⟨w.heap.size + 1, 0, none⟩ (.int .i64 (C.N : Int))).setCell ⟨w.heap.size + 1, 1, none⟩ (.slice (some ⟨g', 0, none⟩) M cap')).heap[w.heap.size + 1]? = some (.cells #[.int .i64 (C.N : Int), .slice (some ⟨g', 0, none⟩) M cap'] 31 (0, 0)) := by
    have h0 : ((w3.setCell ⟨w.heap.size, 1, none⟩ (.slice (some ⟨g', 0, none⟩) M cap')).setCell ⟨g', i, none⟩ (.slice A len c)).heap[w.heap.size + 1]? = some (.cells #[.int .i64 0, .slice none 0 0] 31 (0, 0)) :=
      (heap_setCell_other _ _ _ _ (by simp only; omega)).trans ((heap_setCell_other _ _ _ _ (by simp only; omega)).trans H31.out)
    exact head_set (head_set h0 0 _) 1 _
  obtain ⟨hoc1, hoc2, hoc3⟩ : M ≤ cap' ∧ cap' ≤ maxLen ∧ ∀ j, j < M → curg[j]? = some (rows j) := by
    rcases HO.out.2 with ⟨hv, _⟩ | ⟨g, cp, cur, hv, _, hgb, h1, h2, h3, h4⟩
    · cases hv
    · injection hv with e1 e2 e3
      injection e1 with e1
      injection e1 with e1
      subst e1 e3
      have hcc := hgb
      rw [Hcg.out] at hcc
      have hcc : curg = cur := by injection hcc with hcc; injection hcc
      subst hcc
      refine ⟨h1, h2, fun j hj => ?_⟩
      have := HO.out.cellAt j (by omega)
      rw [rl_get hj, cell_of_head hgb] at this
      exact this
  generalize (((w3.setCell ⟨w.heap.size, 1, none⟩ (.slice (some ⟨g', 0, none⟩) M cap')).setCell ⟨g', i, none⟩ (.slice A len c)).setCell ⟨w.heap.size + 1, 0, none⟩ (.int .i64 (C.N : Int))).setCell ⟨w.heap.size + 1, 1, none⟩ (.slice (some ⟨g', 0, none⟩) M cap') = W at *
  refine bodyPost_ret (results_ref rfl _ _ _ _ _ _ _ rfl hp1) rfl ?_
  refine ⟨g', cap', fun j => if j = i then .slice A len c else rows j, rfl, ⟨⟨_, hq⟩, by rw [Ch.len_put, HM.out]; exact hoc1, hoc2, fun j hj => ?_, fun j hj => ?_⟩, hG⟩
  · rw [Ch.len_put, HM.out] at hj
    rw [cell_of_head hq, Array.getElem?_setIfInBounds]
    by_cases hji : i = j
    · subst hji
      rw [if_pos rfl, if_pos rfl, if_pos (Array.getElem?_eq_some_iff.1 (hoc3 i hj)).1]
    · rw [if_neg hji, if_neg (fun e => hji e.symm)]
      exact hoc3 j hj
  · rw [Ch.len_put] at hj
    rw [Ch.of_put (by rw [HM.out]; exact hi)]
    by_cases hji : j = i
    · rw [if_pos hji]
      simp only [hji, if_true]
      exact HL.out.kept hG
    · rw [if_neg hji]
      simp only [hji, if_false]
      exact (HH.out.row j hj).kept hG
end
set_option maxHeartbeats 1000000 in
theorem newref_at (N M : Nat) (w : World) (hM1 : 1 ≤ M) (hM8 : M ≤ 8) :
    Calls Try.prog 10 #[.int .i64 (N : Int), .int .i64 (M : Int)] w fun e w' => ∃ b cap rows, e = .returned (refV ⟨N, List.replicate M []⟩ b cap) ∧ RefAt w' ⟨N, List.replicate M []⟩ b cap rows ∧ w.grownBy w' none := by
  obtain ⟨i0, hin, hz0, hz1, hz2⟩ := info_parts info71
  have HI := Lib.hid hin
  have HZ0 := Lib.hid hz0
  have HZ1 := Lib.hid hz1
  have HZ2 := Lib.hid hz2
  clear hin hz0 hz1 hz2
  go_enter Try.func10, Try.ntmps10
  go_wp2_with fail
  have hgB : w.grownBy ((w.alloc (.cells #[.int .i64 0, .slice none 0 0] 31)).alloc (.cells #[.int .i64 (N : Int), .slice none 0 0] 31)) none := grown_trans (World.grownBy_alloc _ _ none) (World.grownBy_alloc _ _ none)
  have hzB : ((w.alloc (.cells #[.int .i64 0, .slice none 0 0] 31)).alloc (.cells #[.int .i64 (N : Int), .slice none 0 0] 31)).heap.size = w.heap.size + 2 := by simp
  have b0 : ((w.alloc (.cells #[.int .i64 0, .slice none 0 0] 31)).alloc (.cells #[.int .i64 (N : Int), .slice none 0 0] 31)).heap[w.heap.size]? = some (.cells #[.int .i64 0, .slice none 0 0] 31 (0, 0)) := (Below.heap_alloc _ _ _ (by simp)).trans (heap_alloc_new w _)
  have b1 : ((w.alloc (.cells #[.int .i64 0, .slice none 0 0] 31)).alloc (.cells #[.int .i64 (N : Int), .slice none 0 0] 31)).heap[w.heap.size + 1]? = some (.cells #[.int .i64 (N : Int), .slice none 0 0] 31 (0, 0)) := by
    have := heap_alloc_new (w.alloc (.cells #[.int .i64 0, .slice none 0 0] 31)) (.cells #[.int .i64 (N : Int), .slice none 0 0] 31)
    rwa [World.size_alloc] at this
  have HGB := Lib.hid hgB
  have HZB := Lib.hid hzB
  have HB0 := Lib.hid b0
  have HB1 := Lib.hid b1
  clear hgB hzB b0 b1
  generalize (w.alloc (.cells #[.int .i64 0, .slice none 0 0] 31)).alloc (.cells #[.int .i64 (N : Int), .slice none 0 0] 31) = wB at *
  go_loopw [6] (fun i wr => ∃ (k : Nat) (v : Value), k ≤ M ∧ i = .int .i64 (k : Int) ∧ Hid (wr.heap[w.heap.size + 1]? = some (.cells #[.int .i64 (N : Int), v] 31 (0, 0))) ∧ Hid (wr.ownsRow (w.heap.size + 2) 71 1 v k (List.replicate k (.slice none 0 0))) ∧ Hid (wr.heap[w.heap.size]? = some (.cells #[.int .i64 0, .slice none 0 0] 31 (0, 0))) ∧ Hid (w.grownBy wr none) ∧ Hid (w.heap.size + 2 ≤ wr.heap.size)) (fun i _ => M - (intOf i).toNat)
  case atStart => exact ⟨0, _, Nat.zero_le _, by go_num, HB1, Lib.hid (World.ownsRow_nil _ _ _ _), HB0, HGB, Lib.hid (by rw [HZB.out]; exact Nat.le_refl _)⟩
  case round =>
    obtain ⟨k, v, hk, rfl, H1, HO, H0, HG, HZ⟩ := hrel
    obtain ⟨A, cap, rfl⟩ := owns_slice HO.out
    have e1 := cell_of_head H1.out 1
    simp only [List.getElem?_toArray, List.getElem?_cons_zero, List.getElem?_cons_succ] at e1
    have hl1 := (Array.getElem?_eq_some_iff.1 H1.out).1
    clear HGB HZB HB0 HB1
    by_cases hlt : k < M
    · obtain ⟨g', cap', w1, hrun, ho, hgr, hft⟩ := run_append_foot (P := Try.prog) (wr.alloc (.cells #[.slice none 0 0] 71)) (w.heap.size + 2) 29 29 71 i0 (.agg #[.slice none 0 0]) 1 24 Try.underlying29 HI.out HZ0.out HZ1.out HZ2.out rfl (by decide) (.slice A k cap) k (List.replicate k (.slice none 0 0)) (HO.out.alloc _) ⟨wr.heap.size, 0, none⟩ 1 [.slice none 0 0] rfl (cell_new1 wr 71 _) (by simp [Value.oneCell']) (by unfold maxLen; omega) (by omega) (by have := HZ.out; simp; omega)
      have hnb : ∀ r, (Value.slice A k cap).ownBlock = some r → w.heap.size + 2 ≤ r := fun r hr => (HO.out.lt r hr).1
      have hgg := grown_trans (grown_any (World.grownBy_alloc wr (.cells #[.slice none 0 0] 71) none) (Value.slice A k cap).ownBlock) hgr
      have h11 : w1.heap[w.heap.size + 1]? = some (.cells #[.int .i64 (N : Int), .slice A k cap] 31 (0, 0)) := (hgg.block _ hl1 (fun e => by have := hnb _ e.symm; omega)).trans H1.out
      have h10 : w1.heap[w.heap.size]? = some (.cells #[.int .i64 0, .slice none 0 0] 31 (0, 0)) := (hgg.block _ (by omega) (fun e => by have := hnb _ e.symm; omega)).trans H0.out
      have hG1 : w.grownBy w1 none := grown_row HG.out hgg fun r hr => by have := hnb r hr; omega
      have e11 := cell_of_head h11 1
      have f11 := frozen_of_head h11 1
      simp only [List.getElem?_toArray, List.getElem?_cons_zero, List.getElem?_cons_succ] at e11
      have hgn := (ho.lt g' rfl).1
      have HRun := Lib.hid hrun
      have H1n : Hid ((w1.setCell ⟨w.heap.size + 1, 1, none⟩ (.slice (some ⟨g', 0, none⟩) (k + 1) cap')).heap[w.heap.size + 1]? = some (.cells #[.int .i64 (N : Int), .slice (some ⟨g', 0, none⟩) (k + 1) cap'] 31 (0, 0))) := Lib.hid (head_set h11 1 _)
      have HOn : Hid ((w1.setCell ⟨w.heap.size + 1, 1, none⟩ (.slice (some ⟨g', 0, none⟩) (k + 1) cap')).ownsRow (w.heap.size + 2) 71 1 (.slice (some ⟨g', 0, none⟩) (k + 1) cap') (k + 1) (List.replicate (k + 1) (.slice none 0 0))) := Lib.hid (by
        rw [List.replicate_succ', ]
        refine owns_stay ho fun r hr => heap_setCell_other _ _ _ _ ?_
        have : g' = r := by injection hr
        simp only; omega)
      have H0n : Hid ((w1.setCell ⟨w.heap.size + 1, 1, none⟩ (.slice (some ⟨g', 0, none⟩) (k + 1) cap')).heap[w.heap.size]? = some (.cells #[.int .i64 0, .slice none 0 0] 31 (0, 0))) := Lib.hid ((heap_setCell_other _ _ _ _ (by simp only; omega)).trans h10)
      have HGn : Hid (w.grownBy (w1.setCell ⟨w.heap.size + 1, 1, none⟩ (.slice (some ⟨g', 0, none⟩) (k + 1) cap')) none) := Lib.hid (grown_new hG1 (grown_setCell _ _ _ _) (by omega))
      have HZn : Hid (w.heap.size + 2 ≤ (w1.setCell ⟨w.heap.size + 1, 1, none⟩ (.slice (some ⟨g', 0, none⟩) (k + 1) cap')).heap.size) := Lib.hid (by have := hgg.size; have := HZ.out; simp; omega)
      clear hrun ho hgr hft hgg h11 h10 hG1 hnb H1 HO H0 HG HZ
      go_wp2_with (at_builtin; refine append_run rfl (.tmp 15) (.tmp 17) 29 rfl rfl rfl HRun.out ?_)
      go_roundw
      case rel => exact ⟨k + 1, _, by omega, by go_num, H1n, HOn, H0n, HGn, HZn⟩
      case measure => simp [intOf]; omega
    · obtain rfl : k = M := by omega
      obtain ⟨g, cp, hA⟩ := owns_some HO.out (by omega)
      obtain rfl : A = some ⟨g, 0, none⟩ := by injection hA
      clear hA
      have e10 := cell_of_head H1.out 0
      have z0 := cell_of_head H0.out 0
      have z1 := cell_of_head H0.out 1
      have y0 := frozen_of_head H0.out 0
      have y1 := frozen_of_head H0.out 1
      simp only [List.getElem?_toArray, List.getElem?_cons_zero, List.getElem?_cons_succ] at e10 z0 z1
      go_wp2
      have hW0 : ((wr.setCell ⟨w.heap.size, 0, none⟩ (.int .i64 (N : Int))).setCell ⟨w.heap.size, 1, none⟩ (.slice (some ⟨g, 0, none⟩) k cap)).heap[w.heap.size]? = some (.cells #[.int .i64 (N : Int), .slice (some ⟨g, 0, none⟩) k cap] 31 (0, 0)) := head_set (head_set H0.out 0 _) 1 _
      have hgn := (HO.out.lt g rfl).1
      have hO : ((wr.setCell ⟨w.heap.size, 0, none⟩ (.int .i64 (N : Int))).setCell ⟨w.heap.size, 1, none⟩ (.slice (some ⟨g, 0, none⟩) k cap)).ownsRow (w.heap.size + 2) 71 1 (.slice (some ⟨g, 0, none⟩) k cap) k (List.replicate k (.slice none 0 0)) := by
        refine owns_stay HO.out fun r hr => ?_
        have : g = r := by injection hr
        exact (heap_setCell_other _ _ _ _ (by simp only; omega)).trans (heap_setCell_other _ _ _ _ (by simp only; omega))
      have hG : w.grownBy ((wr.setCell ⟨w.heap.size, 0, none⟩ (.int .i64 (N : Int))).setCell ⟨w.heap.size, 1, none⟩ (.slice (some ⟨g, 0, none⟩) k cap)) none := grown_new (grown_new HG.out (grown_setCell _ _ _ _) (Nat.le_refl _)) (grown_setCell _ _ _ _) (Nat.le_refl _)
      refine bodyPost_ret (results_ref rfl _ _ _ _ _ _ _ rfl hW0) rfl ?_
      have hof : ∀ i, (⟨N, List.replicate k []⟩ : Ch).of i = [] := by
        intro i
        unfold Ch.of
        rw [List.getD_eq_getElem?_getD, List.getElem?_replicate]
        split <;> rfl
      have hln : (⟨N, List.replicate k []⟩ : Ch).ls.length = k := by simp
      obtain ⟨_, cur, hcur⟩ := owns_type hO (k := g) rfl
      have hcc : k ≤ cap ∧ cap ≤ maxLen := by
        rcases hO.2 with ⟨hv, _⟩ | ⟨g2, cp2, cur2, hv, _, hgb, h1, h2, h3, h4⟩
        · cases hv
        · injection hv with e1 e2 e3
          subst e3
          exact ⟨h1, h2⟩
      refine ⟨g, cap, fun _ => .slice none 0 0, by unfold refV; rw [hln], ⟨⟨cur, hcur⟩, by rw [hln]; exact hcc.1, hcc.2, fun j hj => ?_, fun j hj => ?_⟩, hG⟩
      · rw [hln] at hj
        rw [hO.cellAt j (by omega), List.getElem?_replicate, if_pos hj]
      · rw [hof]
        exact ⟨none, 0, rfl, Nat.le_refl _, by decide, fun _ => rfl, .inl rfl⟩
end Go.Proofs.Ytmjccpgkgkindaa
