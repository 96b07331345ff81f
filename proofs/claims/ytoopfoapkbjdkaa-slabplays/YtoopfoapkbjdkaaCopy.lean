/-
  A copy of a slab of numbers.
-/
import Derived.Test.YtoopfoapkbjdkaaView
import Derived.Test.YtoopfoapkbjdkaaIs
import Derived.WalkSpells
import Derived.Lib.BufferMore
import Derived.LoopTactic
namespace Go.Proofs.Ytoopfoapkbjdkaa
open Go.ChangeShapes Go.WideShapes Go.ChangeAt Go.RowKit
set_option linter.unusedVariables false
set_option maxRecDepth 100000

theorem copied_nil (w : World) : Calls Try.prog 49 #[.pointer none] w fun e w' => e = .returned (.pointer none) ∧ w = w' := by
  go_enter Try.func49, Try.ntmps49
  go_wp2
  go_ret
  exact ⟨rfl, rfl⟩
/-- what Clone hands back: a new row with the same cells -/
def ClonePost (w : World) (n : Nat) (xs : List Value) (e : Ending) (w' : World) : Prop :=
  ∃ g cap, e = .returned (.slice (some ⟨g, 0, none⟩) n cap) ∧ w.grownBy w' none ∧ w'.ownsRow w.heap.size 89 3 (.slice (some ⟨g, 0, none⟩) n cap) n xs
set_option maxHeartbeats 400000 in
theorem clone_at (w : World) (base g n cap : Nat) (xs : List Value) (h : w.ownsRow base 89 3 (.slice (some ⟨g, 0, none⟩) n cap) n xs) (h1 : ∀ u ∈ xs, u.oneCell' = true) (hn : n ≤ 65536) :
    Calls Try.prog 53 #[.slice (some ⟨g, 0, none⟩) n cap] w (ClonePost w n xs) := by
  obtain ⟨i0, hi, hz0, hz1, hz2⟩ := info_parts info89
  have HI := Lib.hid hi
  have HZ0 := Lib.hid hz0
  have HZ1 := Lib.hid hz1
  have HZ2 := Lib.hid hz2
  have H := Lib.hid h
  have H1 := Lib.hid h1
  clear hi hz0 hz1 hz2 h h1
  have hnl := Lib.run_eql_slice_some_nil (P := Try.prog) w ⟨g, 0, none⟩ n cap Try.underlying118
  have hnews : ∀ j u, xs[j]? = some u → (w.alloc (.cells #[] 89)).cell? ((⟨g, 0, none⟩ : Addr).add j) = some u := fun j u hj => (World.grownBy_alloc w _ none).cell (H.out.cells (g := g) rfl j u hj) (by simp)
  have HN := Lib.hid hnews
  clear hnews
  go_enter Try.func53, Try.ntmps53
  go_wp2_with (at_builtin; refine wpList_append_own _ rfl (.tmp 5) (.tmp 6) 118 rfl w.heap.size 89 i0 (.agg #[.int .u32 0, .bool false, .int .i64 0]) 3 16 Try.underlying118 HI.out HZ0.out HZ1.out HZ2.out rfl (by decide) (.slice (some ⟨w.heap.size, 0, none⟩) 0 0) 0 [] rfl (World.ownsRow_made w #[] 0 (Nat.le_refl _) (by decide) rfl) ⟨g, 0, none⟩ n cap xs rfl H.out.1 HN.out H1.out (by unfold maxLen; omega) (by omega) (by simp) ?_; intro v1 w1 hown1 hgrow1 hnn; simp only [Nat.zero_add, List.nil_append] at hown1; have B1 := Lib.hid hgrow1; have H2 := Lib.hid hown1; have HN2 := Lib.hid hnn; clear hown1 hgrow1 hnn)
  go_ret
  rcases H2.out.2 with ⟨hv, _⟩ | ⟨g', cap', cur, hv, hge, _⟩
  · have := (HN2.out.1 hv).1; cases this
  · subst hv
    refine ⟨g', cap', rfl, ?_, H2.out⟩
    exact grown_new (World.grownBy_alloc w _ none) B1.out (Nat.le_refl _)
theorem owns_base {W : World} {a b : Nat} {e : TypeId} {size : Nat} {v : Value} {n : Nat} {xs : List Value} (h : W.ownsRow a e size v n xs) (hb : b ≤ a) : W.ownsRow b e size v n xs := by
  refine ⟨h.1, ?_⟩
  rcases h.2 with h | ⟨g, cap, cur, hv, hg, r⟩
  · exact .inl h
  · exact .inr ⟨g, cap, cur, hv, Nat.le_trans hb hg, r⟩
/-- what copied hands back -/
def CopyPost (w : World) (c : Nat) (Lc : List (List Value)) (e : Ending) (w' : World) : Prop :=
  ∃ b, e = .returned (.pointer (some ⟨b, 0, none⟩)) ∧ w.grownBy w' none ∧ View Ki w' w.heap.size w'.heap.size b c Lc
theorem owns_ones {w : World} {lo b most c : Nat} {Lc : List (List Value)} {fr : List Nat} {d cp : Nat → Nat} {vC vF : Value} (h : Mem Ki w lo b most c Lc fr d cp vC vF) {j : Nat} (hj : j < nch c Lc.length) :
    ∃ xs, w.ownsRow lo 89 3 (.slice (some ⟨d j, 0, none⟩) (lch c Lc.length j) (cp j)) (lch c Lc.length j) xs ∧ (∀ i t, i < lch c Lc.length j → t < 3 → xs[i * 3 + t]? = (Lc.getD (j * c + i) [])[t]?) ∧ ∀ u ∈ xs, u.oneCell' = true := by
  obtain ⟨xs, h1, h2⟩ := (h.chunk j hj).owns h.wide
  refine ⟨xs, h1, h2, fun u hu => ?_⟩
  obtain ⟨k, hk, he⟩ := List.getElem_of_mem hu
  have hl : xs.length = lch c Lc.length j * 3 := h1.1
  have h3 : xs[k / 3 * 3 + k % 3]? = _ := h2 (k / 3) (k % 3) (by omega) (Nat.mod_lt _ (by decide))
  rw [show k / 3 * 3 + k % 3 = k by omega, List.getElem?_eq_getElem hk, he] at h3
  by_cases hin : j * c + k / 3 < Lc.length
  · exact h.one _ (getD_mem hin) u (List.mem_of_getElem? h3.symm)
  · rw [List.getD_eq_getElem?_getD, List.getElem?_eq_none (l := Lc) (i := j * c + k / 3) (by omega)] at h3
    simp at h3
section
variable {w : World} {lo b most c : Nat} {Lc : List (List Value)} {fr : List Nat} {d cp : Nat → Nat} {vC vF : Value}
set_option maxHeartbeats 4000000 in
theorem copied_at (h : Mem Ki w lo b most c Lc fr d cp vC vF) : Calls Try.prog 49 #[.pointer (some ⟨b, 0, none⟩)] w (CopyPost w c Lc) := by
  have hc1 := h.c1
  have hcm := h.cm
  have hm6 := h.m6
  have hll := h.len
  obtain ⟨AC, capC, rfl⟩ := owns_slice h.rowC
  have h1 := h.chunk1
  have h2 := h.taken2
  have h3 := h.chunks3
  have HM := Lib.hid h
  have hnl := nch_le (c := c) (n := Lc.length) hc1
  obtain ⟨n, Hn⟩ : ∃ n, Hid (nch c Lc.length = n) := ⟨_, Lib.hid rfl⟩
  obtain ⟨len, Hlen⟩ : ∃ len, Hid (Lc.length = len) := ⟨_, Lib.hid rfl⟩
  rw [Hn.out] at h3 hnl
  rw [Hlen.out] at h2 hnl hll
  obtain ⟨i1, hi, hz0, hz1, hz2'⟩ := info_parts info118
  have HJ := Lib.hid hi
  have HY0 := Lib.hid hz0
  have HY1 := Lib.hid hz1
  have HY2 := Lib.hid hz2'
  clear h hi hz0 hz1 hz2'
  go_enter Try.func49, Try.ntmps49
  go_wp2
  refine region_tail 9 (by kernel_rfl) (by kernel_rfl) ?_
  intro w2 hw2
  have g1 : w2.cell? ⟨b, 1, none⟩ = some (.int .i64 (c : Int)) := by rw [hw2]; exact h1
  have g2 : w2.cell? ⟨b, 2, none⟩ = some (.int .i64 (len : Int)) := by rw [hw2]; exact h2
  have g3 : w2.cell? ⟨b, 3, none⟩ = some (.slice AC n capC) := by rw [hw2]; exact h3
  have HM2 : Hid (Mem Ki w2 lo b most c Lc fr d cp (.slice AC (nch c Lc.length) capC) vF) := Lib.hid (by rw [hw2]; exact HM.out.drewN 1)
  have HG2 : Hid (w.grownBy w2 none) := Lib.hid (by rw [hw2]; exact grown_drewN w 1 none)
  have HZ : Hid (w2.heap.size = w.heap.size) := Lib.hid (by rw [hw2]; rfl)
  have hbl := HM2.out.blt
  clear hw2 h1 h2 h3
  simp only [List.take_succ_cons, List.take_zero, List.drop_succ_cons, List.drop_zero]
  repeat still_step
  refine wpStill_nil ?_
  go_wp2
  have HI3 : Hid (CInv Ki w (w2.alloc (.cells #[.int .i64 0, .int .i64 (c : Int), .int .i64 (len : Int), .slice none 0 0, .slice none 0 0] 73)) w2.heap.size c Lc 0 (fun _ => 0) (fun _ => 0) (.slice none 0 0)) := Lib.hid (by
    refine ⟨grown_trans HG2.out (World.grownBy_alloc _ _ none), by rw [HZ.out]; exact Nat.le_refl _, ?_, World.ownsRow_nil _ _ _ _, fun i hi => by omega⟩
    rw [Hlen.out]; exact heap_alloc_new w2 _)
  generalize w2.alloc (.cells #[.int .i64 0, .int .i64 (c : Int), .int .i64 (len : Int), .slice none 0 0, .slice none 0 0] 73) = w3 at HI3 ⊢
  clear g1 g2 g3 HM2 HG2 hbl
  go_loopw [23] (fun i wr => ∃ (j : Nat) (d' cp' : Nat → Nat) (vC' : Value), j ≤ n ∧ i = .int .i64 (j : Int) ∧ Hid (CInv Ki w wr w2.heap.size c Lc j d' cp' vC')) (fun i _ => n - (intOf i).toNat)
  case atStart => exact ⟨0, _, _, _, by omega, by go_num, HI3⟩
  case round =>
    obtain ⟨j, d', cp', vC', hj, rfl, HI⟩ := hrel
    clear HI3
    have HMr := Lib.hid (HM.out.kept HI.out.grown)
    by_cases hlt : j < n
    · obtain ⟨gC, capC', hv, hcell⟩ := HMr.out.rowCell (j := j) (by rw [Hn.out]; exact hlt)
      injection hv with e1 e2 e3
      subst e1; subst e3
      obtain ⟨xs, hx1, hx2, hx3⟩ := owns_ones HMr.out (j := j) (by rw [Hn.out]; exact hlt)
      obtain ⟨lj, Hlj⟩ : ∃ lj, Hid (lch c Lc.length j = lj) := ⟨_, Lib.hid rfl⟩
      rw [Hlj.out] at hcell hx1 hx2
      have hl6 : lj ≤ 65536 := by have := Hlj.out; unfold lch at this; omega
      obtain ⟨A', cap', rfl⟩ := owns_slice HI.out.row
      have h3' := cell_of_head HI.out.head 3
      simp only [List.getElem?_toArray, List.getElem?_cons_zero, List.getElem?_cons_succ] at h3'
      have HC : Hid (Calls Try.prog 53 #[.slice (some ⟨d j, 0, none⟩) lj (cp j)] wr.drew (ClonePost wr.drew lj xs)) := Lib.hid (clone_at wr.drew lo (d j) lj (cp j) xs hx1.drew hx3 hl6)
      have HX2 := Lib.hid hx2
      clear hx1 hx2 hx3
      have hbW := HI.out.blt
      go_wp2
      go_region_law (first | (refine step_append_run rfl (.tmp 31) (.tmp 34) 70 rfl rfl rfl HR.out ?_) | (go_simp; go_at_call 53; refine HC.out.mono ?_; rintro e wcl ⟨g', cp2, rfl, hgc, hoc⟩; have hgW : wr.grownBy wcl none := grown_trans (grown_drewN wr 1 none) hgc; have hgA := grown_trans hgW (World.grownBy_alloc wcl (.cells #[.slice (some ⟨g', 0, none⟩) lj cp2] 118) none); have hCI := HI.out.kept hgA; obtain ⟨gN, capN, w5, hrun, ho, hgr, _⟩ := run_append_foot (P := Try.prog) (wcl.alloc (.cells #[.slice (some ⟨g', 0, none⟩) lj cp2] 118)) w.heap.size 70 70 118 i1 (.slice none 0 0) 1 24 Try.underlying70 HJ.out HY0.out HY1.out HY2.out rfl (by decide) (.slice A' j cap') j _ hCI.row ⟨wcl.heap.size, 0, none⟩ 1 [.slice (some ⟨g', 0, none⟩) lj cp2] rfl (cell_new1 wcl 118 _) (by simp [Value.oneCell']) (by unfold maxLen; omega) (by omega) hCI.grown.size; have hoc' : (wcl.alloc (.cells #[.slice (some ⟨g', 0, none⟩) lj cp2] 118)).ownsRow w.heap.size 89 3 (.slice (some ⟨g', 0, none⟩) lj cp2) lj xs := owns_base (hoc.alloc _) HI.out.grown.size; have hst := hCI.step Ki_ok (g := g') (cap := cp2) (xs := xs) (w5 := w5) (gC := gN) (capC := capN) (by rw [Hlj.out]; exact hoc') (by rw [Hlj.out]; exact HX2.out) hgr (by rw [Hlj.out]; exact ho); have h3c := hgW.cell h3' (by simp); have hz3 : w2.heap.size < wcl.heap.size := Nat.lt_of_lt_of_le hbW hgW.size; have h53 := (World.cell?_of_block (a := ⟨w2.heap.size, 3, none⟩) hst.2).trans (cell_of_head hCI.head 3); have h5f := (World.frozen?_of_block (a := ⟨w2.heap.size, 3, none⟩) hst.2).trans (frozen_of_head hCI.head 3); simp only [List.getElem?_toArray, List.getElem?_cons_zero, List.getElem?_cons_succ] at h53; have HR := Lib.hid hrun; have HST := Lib.hid hst.1; have HGR := Lib.hid hgr; have HCI := Lib.hid hCI; clear hrun ho hgr hst hgA hCI hoc hoc' hgc hgW))
      all_goals go_wp2
      all_goals go_roundw
      case rel => exact ⟨j + 1, _, _, _, by omega, by go_num, HST⟩
      case measure => simp [intOf]; omega
      case rel => exact ⟨j + 1, _, _, _, by omega, by go_num, HST⟩
      case measure => simp [intOf]; omega
      case rel => exact ⟨j + 1, _, _, _, by omega, by go_num, HST⟩
      case measure => simp [intOf]; omega
    · obtain rfl : j = n := by omega
      go_wp2
      go_ret
      exact ⟨_, rfl, HI.out.grown, CInv.view (by rw [Hn.out]; exact HI.out) hc1 (by omega) (by rw [Hlen.out]; omega)⟩
end
end Go.Proofs.Ytoopfoapkbjdkaa
