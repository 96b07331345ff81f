/-
  One more place is laid: how a slab lies between the steps. No program is named here.
-/
import Derived.Test.YtoopfoapkbjdkaaMem
namespace Go.Proofs.Ytoopfoapkbjdkaa
set_option linter.unusedVariables false

/-- the row of chunks has the chunk to which a place is to be added -/
structure Mid (K : Kd) (w W : World) (lo b most c : Nat) (Lc : List (List Value)) (d cp : Nat → Nat) (gC capC : Nat) (vE vF : Value) (xs vals : List Value) : Prop where
  keep : Keep K lo w W
  head : W.heap[b]? = some (.cells #[.int .i64 (most : Int), .int .i64 (c : Int), .int .i64 (Lc.length : Int), .slice (some ⟨gC, 0, none⟩) (Lc.length / c + 1) capC, vF] K.tS (0, 0))
  rowC : W.ownsRow lo K.tC 1 (.slice (some ⟨gC, 0, none⟩) (Lc.length / c + 1) capC) (Lc.length / c + 1) vals
  valE : vals[Lc.length / c]? = some vE
  valD : ∀ j, j < Lc.length / c → vals[j]? = some (.slice (some ⟨d j, 0, none⟩) c (cp j))
  own : W.ownsRow lo K.tP K.k vE (Lc.length % c) xs
  xsd : ∀ i t, i < Lc.length % c → t < K.k → xs[i * K.k + t]? = (Lc.getD (Lc.length / c * c + i) [])[t]?
  D : ∀ j, j < Lc.length / c → W.heap[d j]? = w.heap[d j]? ∧ vE.ownBlock ≠ some (d j)
  F : ∀ k, vF.ownBlock = some k → W.heap[k]? = w.heap[k]?

section
variable {K : Kd} {w W : World} {lo b most c : Nat} {Lc : List (List Value)} {fr : List Nat} {d cp : Nat → Nat} {vC vF vE : Value} {gC capC : Nat} {xs vals : List Value}

theorem full_lt (h : Mem K w lo b most c Lc fr d cp vC vF) {j : Nat} (hj : j < Lc.length / c) : j < nch c Lc.length := (nch_lt h.c1).2 (by
    have h1 := Nat.mul_le_mul_right c (Nat.lt_iff_add_one_le.1 hj)
    have := at_div c Lc.length
    have := h.c1
    rw [Nat.add_mul] at h1; omega)
/-- the last chunk is not full -/
theorem Mid.part (h : Mem K w lo b most c Lc fr d cp vC vF) (hm : Lc.length % c ≠ 0) : ∃ gC capC xs vals, vC = .slice (some ⟨gC, 0, none⟩) (Lc.length / c + 1) capC ∧
    Mid K w w lo b most c Lc d cp gC capC (.slice (some ⟨d (Lc.length / c), 0, none⟩) (Lc.length % c) (cp (Lc.length / c))) vF xs vals := by
  have hn := nch_part h.c1 hm
  have hj : Lc.length / c < nch c Lc.length := by omega
  obtain ⟨gC, capC, rfl, _⟩ := h.rowCell hj
  obtain ⟨xs, hx1, hx2⟩ := (h.chunk _ hj).owns h.wide
  rw [lch_end _ _ h.c1] at hx1 hx2
  have hh := h.head
  have hr := h.rowC
  have hl := lch_end c Lc.length h.c1
  rw [hn] at hh hr
  refine ⟨gC, capC, xs, _, by rw [hn], ⟨Keep.refl _ _ _, hh, hr, ?_, fun j hj => ?_, hx1, hx2, fun j hjj => ⟨rfl, fun e => ?_⟩, fun _ _ => rfl⟩⟩
  · rw [List.getElem?_map, List.getElem?_range (by omega)]
    simp [chunkVal, hl]
  · rw [List.getElem?_map, List.getElem?_range (by omega)]
    simp [chunkVal, lch_full hj]
  · injection e with e
    have := h.inj _ _ hj (full_lt h hjj) e
    omega
/-- a new chunk, without places, has been laid -/
theorem Mid.new (h : Mem K w lo b most c Lc fr d cp vC vF) (hK : K.Ok) (hm : Lc.length % c = 0) {w1 : World} (hg : w.grownBy w1 vC.ownBlock)
    (ho : w1.ownsRow lo K.tC 1 (.slice (some ⟨gC, 0, none⟩) (Lc.length / c + 1) capC) (Lc.length / c + 1) ((List.range (nch c Lc.length)).map (chunkVal c Lc.length d cp) ++ [.slice none 0 0])) :
    Mid K w (w1.setCell ⟨b, 3, none⟩ (.slice (some ⟨gC, 0, none⟩) (Lc.length / c + 1) capC)) lo b most c Lc d cp gC capC (.slice none 0 0) vF [] ((List.range (nch c Lc.length)).map (chunkVal c Lc.length d cp) ++ [.slice none 0 0]) := by
  have hn := nch_full h.c1 hm
  have hk1 : Keep K lo w w1 := Keep.of_grown hg fun r hr' => by
    obtain ⟨h1, cur, h2⟩ := owns_type h.rowC hr'
    exact ⟨h1, fun _ => ⟨_, _, _, h2, by simp [Kd.own]⟩⟩
  have hb1 : w1.heap[b]? = w.heap[b]? := hg.block b h.blt fun e => by
    obtain ⟨h1, cur, h2⟩ := owns_type h.rowC e.symm
    exact h.not_b hK h2 hK.sc rfl
  have hh1 := hb1.trans h.head
  have hoth : ∀ k, k ≠ b → (w1.setCell ⟨b, 3, none⟩ (.slice (some ⟨gC, 0, none⟩) (Lc.length / c + 1) capC)).heap[k]? = w1.heap[k]? := fun k hk => heap_setCell_other _ _ k _ hk
  refine ⟨hk1.trans (Keep.of_grown (grown_setCell w1 b 3 _) fun r hr' => by cases hr'; exact ⟨h.blo, fun _ => ⟨_, _, _, hh1, by simp [Kd.own]⟩⟩), ?_, ?_, ?_, fun j hj => ?_, ?_, fun i t hi => ?_, fun j hj => ⟨?_, by simp [Value.ownBlock]⟩, fun k hk => ?_⟩
  · exact (head_set hh1 3 _).trans (by simp)
  · refine owns_stay ho fun k hk => hoth k fun e => ?_
    obtain ⟨_, cur', h3⟩ := owns_type ho hk
    rw [e] at h3; exact hK.sc (type_eq hh1 h3)
  · rw [List.getElem?_append_right (by simp [hn])]
    simp [hn]
  · rw [List.getElem?_append_left (by simp [hn]; omega), List.getElem?_map, List.getElem?_range (by omega)]
    simp [chunkVal, lch_full hj]
  · rw [hm]; exact World.ownsRow_nil _ _ _ _
  · omega
  · obtain ⟨k1, cur', k2, k3⟩ := h.chunk j (full_lt h hj)
    refine (hoth _ (h.not_b hK k2 hK.sp)).trans (hg.block _ (Array.getElem?_eq_some_iff.1 k2).1 fun e => ?_)
    obtain ⟨_, cur', h3⟩ := owns_type h.rowC e.symm
    exact hK.cp (type_eq h3 k2)
  · obtain ⟨_, cur', k2⟩ := owns_type h.rowF hk
    refine (hoth _ (h.not_b hK k2 hK.sf)).trans (hg.block _ (Array.getElem?_eq_some_iff.1 k2).1 fun e => ?_)
    obtain ⟨_, cur', h3⟩ := owns_type h.rowC e.symm
    exact hK.cf (type_eq h3 k2)
theorem Mid.drewN (m : Mid K w W lo b most c Lc d cp gC capC vE vF xs vals) (q : Nat) : Mid K w (W.drewN q) lo b most c Lc d cp gC capC vE vF xs vals :=
  ⟨m.keep.trans (Keep.of_new (grown_drewN W q none)), m.head, m.rowC, m.valE, m.valD, m.own, m.xsd, m.D, m.F⟩
theorem Mid.gC_cell (m : Mid K w W lo b most c Lc d cp gC capC vE vF xs vals) : W.cell? ⟨gC, Lc.length / c, none⟩ = some vE := by
  rw [m.rowC.cellAt _ (by omega)]; exact m.valE
theorem Mid.b_ne (m : Mid K w W lo b most c Lc d cp gC capC vE vF xs vals) (hK : K.Ok) : gC ≠ b := by
  rintro rfl
  obtain ⟨_, cur, h2⟩ := owns_type m.rowC (k := gC) rfl
  exact hK.sc (type_eq m.head h2)
/-- what is needed of the world behind the append -/
theorem Mid.after (m : Mid K w W lo b most c Lc d cp gC capC vE vF xs vals) (hK : K.Ok) {w3 : World} (hgr : W.grownBy w3 vE.ownBlock) :
    w3.heap[b]? = W.heap[b]? ∧ w3.heap[gC]? = W.heap[gC]? := by
  obtain ⟨_, cur, h2⟩ := owns_type m.rowC (k := gC) rfl
  refine ⟨hgr.block b (Array.getElem?_eq_some_iff.1 m.head).1 fun e => ?_, hgr.block gC (Array.getElem?_eq_some_iff.1 h2).1 fun e => ?_⟩
  · obtain ⟨_, cur', h3⟩ := owns_type m.own e.symm
    exact hK.sp (type_eq m.head h3)
  · obtain ⟨_, cur', h3⟩ := owns_type m.own e.symm
    exact hK.cp (type_eq h2 h3)
theorem Mid.fin (m : Mid K w W lo b most c Lc d cp gC capC vE vF xs vals) (h : Mem K w lo b most c Lc fr d cp vC vF) (hK : K.Ok) (hlt : Lc.length < most) {z : List Value} (hz : z.length = K.k) (hzo : ∀ u ∈ z, u.oneCell' = true) {w3 : World} {g cap : Nat}
    (ho : w3.ownsRow lo K.tP K.k (.slice (some ⟨g, 0, none⟩) (Lc.length % c + 1) cap) (Lc.length % c + 1) (xs ++ z)) (hgr : W.grownBy w3 vE.ownBlock) (hft : vE.ownBlock = some g ∨ W.heap.size ≤ g) :
    Mem K ((w3.setCell ⟨gC, Lc.length / c, none⟩ (.slice (some ⟨g, 0, none⟩) (Lc.length % c + 1) cap)).setCell ⟨b, 2, none⟩ (.int .i64 ((Lc.length + 1 : Nat) : Int))) lo b most c (Lc ++ [z]) fr (fun j => if j = Lc.length / c then g else d j) (fun j => if j = Lc.length / c then cap else cp j) (.slice (some ⟨gC, 0, none⟩) (Lc.length / c + 1) capC) vF ∧
    Keep K lo w ((w3.setCell ⟨gC, Lc.length / c, none⟩ (.slice (some ⟨g, 0, none⟩) (Lc.length % c + 1) cap)).setCell ⟨b, 2, none⟩ (.int .i64 ((Lc.length + 1 : Nat) : Int))) := by
  obtain ⟨hb3, hC3⟩ := m.after hK hgr
  have hne := m.b_ne hK
  obtain ⟨hCl, curC, hC2⟩ := owns_type m.rowC (k := gC) rfl
  have hgt : ∃ cur, w3.heap[g]? = some (.cells cur K.tP (0, 0)) := (owns_type ho (k := g) rfl).2
  obtain ⟨curP, hgt⟩ := hgt
  have hgC : g ≠ gC := by rintro rfl; exact hK.cp (type_eq (hC3.trans hC2) hgt)
  have hgb : g ≠ b := by rintro rfl; exact hK.sp (type_eq (hb3.trans m.head) hgt)
  have hrow3 : w3.ownsRow lo K.tC 1 (.slice (some ⟨gC, 0, none⟩) (Lc.length / c + 1) capC) (Lc.length / c + 1) vals := owns_stay m.rowC fun k hk => by injection hk with hk; have hk : gC = k := hk; subst hk; exact hC3
  have hst := hrow3.stored (Lc.length / c) (.slice (some ⟨g, 0, none⟩) (Lc.length % c + 1) cap)
  have hvl : vals.length = Lc.length / c + 1 := by have := m.rowC.1; omega
  have ev : vals.set (Lc.length / c) (.slice (some ⟨g, 0, none⟩) (Lc.length % c + 1) cap) = (List.range (Lc.length / c + 1)).map fun j => if j = Lc.length / c then .slice (some ⟨g, 0, none⟩) (Lc.length % c + 1) cap else .slice (some ⟨d j, 0, none⟩) c (cp j) := by
    refine List.ext_getElem? fun j => ?_
    rw [List.getElem?_set, List.getElem?_map]
    by_cases hj : j < Lc.length / c + 1
    · rw [List.getElem?_range hj]
      by_cases hje : Lc.length / c = j
      · subst hje; rw [if_pos rfl, if_pos (by omega)]; simp
      · rw [if_neg hje, m.valD j (by omega)]; simp only [Option.map_some]; rw [if_neg (fun e => hje e.symm)]
    · rw [if_neg (by omega), List.getElem?_eq_none (by omega), List.getElem?_eq_none (by simp; omega)]; rfl
  have o1 : ∀ k, k ≠ b → k ≠ gC → ((w3.setCell ⟨gC, Lc.length / c, none⟩ (.slice (some ⟨g, 0, none⟩) (Lc.length % c + 1) cap)).setCell ⟨b, 2, none⟩ (.int .i64 ((Lc.length + 1 : Nat) : Int))).heap[k]? = w3.heap[k]? :=
    fun k hk hk' => (heap_setCell_other _ _ k _ hk).trans (heap_setCell_other _ _ k _ hk')
  have hbh : (w3.setCell ⟨gC, Lc.length / c, none⟩ (.slice (some ⟨g, 0, none⟩) (Lc.length % c + 1) cap)).heap[b]? = some (.cells #[.int .i64 (most : Int), .int .i64 (c : Int), .int .i64 (Lc.length : Int), .slice (some ⟨gC, 0, none⟩) (Lc.length / c + 1) capC, vF] K.tS (0, 0)) :=
    (heap_setCell_other _ _ b _ (Ne.symm hne)).trans (hb3.trans m.head)
  refine ⟨h.grow hlt hz hzo (xs := xs) ?_ ?_ ?_ m.xsd (fun j hj => ?_) (fun k hk => ?_), ?_⟩
  · exact (head_set hbh 2 _).trans (by simp)
  · rw [← ev]
    exact owns_stay hst.1 fun k hk => heap_setCell_other _ _ k _ fun e => by injection hk with hk; exact hne (hk.trans e)
  · exact owns_stay ho fun k hk => by injection hk with hk; have hk : g = k := hk; subst hk; exact o1 g hgb hgC
  · obtain ⟨k1, cur', k2, k3⟩ := h.chunk j (full_lt h hj)
    have hD := m.D j hj
    have hb' : d j ≠ b := h.not_b hK k2 hK.sp
    have hC' : d j ≠ gC := by
      intro e; rw [e] at hD k2; exact hK.cp (type_eq hC2 (hD.1.trans k2))
    refine ⟨(o1 _ hb' hC').trans ((hgr.block _ (Array.getElem?_eq_some_iff.1 (hD.1.trans k2)).1 (Ne.symm hD.2)).trans hD.1), ?_⟩
    rintro rfl
    rcases hft with hft | hft
    · exact hD.2 hft
    · have := (Array.getElem?_eq_some_iff.1 (hD.1.trans k2)).1; omega
  · obtain ⟨_, cur', k2⟩ := owns_type h.rowF hk
    have hF := m.F k hk
    have hb' : k ≠ b := h.not_b hK k2 hK.sf
    have hC' : k ≠ gC := by
      rintro rfl; exact hK.cf (type_eq hC2 (hF.trans k2))
    refine (o1 _ hb' hC').trans ((hgr.block _ (Array.getElem?_eq_some_iff.1 (hF.trans k2)).1 fun e => ?_).trans hF)
    obtain ⟨_, cur'', h3⟩ := owns_type m.own e.symm
    exact hK.pf (type_eq h3 (hF.trans k2))
  · refine m.keep.trans ((Keep.of_grown hgr fun r hr => ?_).trans ((Keep.of_grown hst.2 fun r hr => ?_).trans (Keep.of_grown (grown_setCell _ _ _ _) fun r hr => ?_)))
    · obtain ⟨h1, cur, h2⟩ := owns_type m.own hr
      exact ⟨h1, fun _ => ⟨_, _, _, h2, by simp [Kd.own]⟩⟩
    · cases hr; exact ⟨hCl, fun _ => ⟨_, _, _, hC3.trans hC2, by simp [Kd.own]⟩⟩
    · cases hr; exact ⟨h.blo, fun _ => ⟨_, _, _, hbh, by simp [Kd.own]⟩⟩
end
end Go.Proofs.Ytoopfoapkbjdkaa
