/-
  A slab that is only looked at: the blocks from lo to hi. No program is named here.
-/
import Derived.Test.YtoopfoapkbjdkaaMid
namespace Go.Proofs.Ytoopfoapkbjdkaa
set_option linter.unusedVariables false

structure View (K : Kd) (w : World) (lo hi b c : Nat) (Lc : List (List Value)) : Prop where
  c1 : 1 ≤ c
  c6 : c ≤ 65536
  l6 : Lc.length ≤ 65536
  bin : lo ≤ b ∧ b < hi
  hiw : hi ≤ w.heap.size
  chunk1 : w.cell? ⟨b, 1, none⟩ = some (.int .i64 (c : Int))
  taken2 : w.cell? ⟨b, 2, none⟩ = some (.int .i64 (Lc.length : Int))
  spot : ∀ p, p < Lc.length → ∃ gC n capC dj lj cj, (lo ≤ gC ∧ gC < hi) ∧ (lo ≤ dj ∧ dj < hi) ∧ w.cell? ⟨b, 3, none⟩ = some (.slice (some ⟨gC, 0, none⟩) n capC) ∧ p / c < n ∧
    w.cell? ⟨gC, p / c, none⟩ = some (.slice (some ⟨dj, 0, none⟩) lj cj) ∧ p % c < lj ∧ ∀ t, t < K.k → w.cell? ⟨dj, p % c * K.k + t, none⟩ = (Lc.getD p [])[t]?

theorem View.stay {K : Kd} {w w' : World} {lo hi b c : Nat} {Lc : List (List Value)} (h : View K w lo hi b c Lc) (hs : w.heap.size ≤ w'.heap.size) (hb : ∀ k, lo ≤ k → k < hi → w'.heap[k]? = w.heap[k]?) : View K w' lo hi b c Lc := by
  have hc : ∀ (k i : Nat), lo ≤ k → k < hi → w'.cell? ⟨k, i, none⟩ = w.cell? ⟨k, i, none⟩ := fun k i h1 h2 => World.cell?_of_block (a := ⟨k, i, none⟩) (hb k h1 h2)
  refine ⟨h.c1, h.c6, h.l6, h.bin, Nat.le_trans h.hiw hs, (hc b 1 h.bin.1 h.bin.2).trans h.chunk1, (hc b 2 h.bin.1 h.bin.2).trans h.taken2, fun p hp => ?_⟩
  obtain ⟨gC, n, capC, dj, lj, cj, hg, hd, h3, hn, hr, hl, ht⟩ := h.spot p hp
  exact ⟨gC, n, capC, dj, lj, cj, hg, hd, (hc b 3 h.bin.1 h.bin.2).trans h3, hn, (hc gC _ hg.1 hg.2).trans hr, hl, fun t htk => (hc dj _ hd.1 hd.2).trans (ht t htk)⟩
theorem View.kept {K : Kd} {w w' : World} {lo hi b c : Nat} {Lc : List (List Value)} (h : View K w lo hi b c Lc) (hg : w.grownBy w' none) : View K w' lo hi b c Lc :=
  h.stay hg.size fun k _ hk => hg.block k (Nat.lt_of_lt_of_le hk h.hiw) (by simp)

/-- a copy, so far as it has been made -/
structure CInv (K : Kd) (w wr : World) (b c : Nat) (Lc : List (List Value)) (j : Nat) (d cp : Nat → Nat) (vC : Value) : Prop where
  grown : w.grownBy wr none
  hb : w.heap.size ≤ b
  head : wr.heap[b]? = some (.cells #[.int .i64 0, .int .i64 (c : Int), .int .i64 (Lc.length : Int), vC, .slice none 0 0] K.tS (0, 0))
  row : wr.ownsRow w.heap.size K.tC 1 vC j ((List.range j).map (chunkVal c Lc.length d cp))
  chunk : ∀ i, i < j → ChunkAt K wr w.heap.size c Lc i (d i) (cp i)

section
variable {K : Kd} {w wr : World} {b c : Nat} {Lc : List (List Value)} {j : Nat} {d cp : Nat → Nat} {vC : Value}
theorem CInv.view (h : CInv K w wr b c Lc (nch c Lc.length) d cp vC) (hc : 1 ≤ c) (h6 : c ≤ 65536) (hl : Lc.length ≤ 65536) : View K wr w.heap.size wr.heap.size b c Lc := by
  refine ⟨hc, h6, hl, ⟨h.hb, (Array.getElem?_eq_some_iff.1 h.head).1⟩, Nat.le_refl _, cell_of_head h.head 1, cell_of_head h.head 2, fun p hp => ?_⟩
  have hj := nch_div hc hp
  obtain ⟨gC, capC, rfl⟩ := owns_some h.row (Nat.lt_of_le_of_lt (Nat.zero_le _) hj)
  obtain ⟨hlo, cur, h2, h3, h4, h5, h6⟩ := h.chunk (p / c) hj
  refine ⟨gC, _, capC, d (p / c), lch c Lc.length (p / c), cp (p / c), h.row.lt gC rfl, ⟨hlo, (Array.getElem?_eq_some_iff.1 h2).1⟩, cell_of_head h.head 3, hj, ?_, lch_mod hc hp, fun t ht => ?_⟩
  · rw [h.row.cellAt _ (by rw [Nat.mul_one]; exact hj), List.getElem?_map, List.getElem?_range hj]; rfl
  · rw [cell_of_head h2, h6 _ t (lch_mod hc hp) ht, at_div]
theorem CInv.blt (h : CInv K w wr b c Lc j d cp vC) : b < wr.heap.size := (Array.getElem?_eq_some_iff.1 h.head).1
theorem CInv.kept {w' : World} (h : CInv K w wr b c Lc j d cp vC) (hg : wr.grownBy w' none) : CInv K w w' b c Lc j d cp vC :=
  ⟨grown_trans h.grown hg, h.hb, (hg.block b h.blt (by simp)).trans h.head, h.row.kept hg (by cases hv : vC.ownBlock <;> simp), fun i hi => (h.chunk i hi).stay (by
    obtain ⟨_, cur, h2, _⟩ := h.chunk i hi
    exact hg.block _ (Array.getElem?_eq_some_iff.1 h2).1 (by simp))⟩
/-- one more chunk is copied, at block g -/
theorem CInv.step {w5 : World} {g cap gC capC : Nat} {xs : List Value} (hK : K.Ok) (h : CInv K w wr b c Lc j d cp vC)
    (hP : wr.ownsRow w.heap.size K.tP K.k (.slice (some ⟨g, 0, none⟩) (lch c Lc.length j) cap) (lch c Lc.length j) xs)
    (hxs : ∀ i t, i < lch c Lc.length j → t < K.k → xs[i * K.k + t]? = (Lc.getD (j * c + i) [])[t]?)
    (hg5 : wr.grownBy w5 vC.ownBlock) (ho : w5.ownsRow w.heap.size K.tC 1 (.slice (some ⟨gC, 0, none⟩) (j + 1) capC) (j + 1) ((List.range j).map (chunkVal c Lc.length d cp) ++ [.slice (some ⟨g, 0, none⟩) (lch c Lc.length j) cap])) :
    CInv K w (w5.setCell ⟨b, 3, none⟩ (.slice (some ⟨gC, 0, none⟩) (j + 1) capC)) b c Lc (j + 1) (fun i => if i = j then g else d i) (fun i => if i = j then cap else cp i) (.slice (some ⟨gC, 0, none⟩) (j + 1) capC) ∧ w5.heap[b]? = wr.heap[b]? := by
  have hb5 : w5.heap[b]? = wr.heap[b]? := hg5.block b h.blt fun e => by
    obtain ⟨_, cur, h2⟩ := owns_type h.row e.symm
    exact hK.sc (type_eq h.head h2)
  have hh5 := hb5.trans h.head
  have hoth : ∀ k, k ≠ b → (w5.setCell ⟨b, 3, none⟩ (.slice (some ⟨gC, 0, none⟩) (j + 1) capC)).heap[k]? = w5.heap[k]? := fun k hk => heap_setCell_other _ _ k _ hk
  have hch : ∀ (i g' cap' : Nat), ChunkAt K wr w.heap.size c Lc i g' cap' → ChunkAt K (w5.setCell ⟨b, 3, none⟩ (.slice (some ⟨gC, 0, none⟩) (j + 1) capC)) w.heap.size c Lc i g' cap' := by
    intro i g' cap' hc
    obtain ⟨_, cur, h2, _⟩ := id hc
    refine hc.stay ((hoth _ fun e => ?_).trans (hg5.block _ (Array.getElem?_eq_some_iff.1 h2).1 fun e => ?_))
    · rw [e] at h2; exact hK.sp (type_eq h.head h2)
    · obtain ⟨_, cur', h3⟩ := owns_type h.row e.symm
      exact hK.cp (type_eq h3 h2)
  have hnew : ChunkAt K wr w.heap.size c Lc j g cap := by
    rcases hP.2 with ⟨hv, _⟩ | ⟨g', cap', cur, hv, hlo, hgb, h1, h2, h3, h4⟩
    · cases hv
    · injection hv with e1 e2 e3
      injection e1 with e1; injection e1 with e1
      subst e1; subst e3
      refine ⟨hlo, cur, hgb, h1, h2, h3, fun i t hi ht => ?_⟩
      have hidx : i * K.k + t < lch c Lc.length j * K.k := by
        have := Nat.mul_le_mul_right K.k (show i + 1 ≤ lch c Lc.length j by omega)
        rw [Nat.add_mul] at this; omega
      rw [← hxs i t hi ht, ← h4, List.getElem?_take, if_pos hidx, Array.getElem?_toList]
  refine ⟨⟨?_, h.hb, ?_, ?_, fun i hi => ?_⟩, hb5⟩
  · refine grown_new (g := b) ?_ (grown_setCell w5 b 3 _) h.hb
    refine ⟨hg5.os.trans h.grown.os, hg5.tape.trans h.grown.tape, hg5.output.trans h.grown.output, Nat.le_trans h.grown.size hg5.size, fun k hk hr => (hg5.block k (Nat.lt_of_lt_of_le hk h.grown.size) fun e => ?_).trans (h.grown.block k hk hr)⟩
    have := (h.row.lt k e.symm).1
    omega
  · exact (head_set hh5 3 _).trans (by simp)
  · refine owns_stay (w := w5) ?_ fun k hk => hoth k fun e => ?_
    · have e : (List.range (j + 1)).map (chunkVal c Lc.length (fun i => if i = j then g else d i) (fun i => if i = j then cap else cp i)) = (List.range j).map (chunkVal c Lc.length d cp) ++ [.slice (some ⟨g, 0, none⟩) (lch c Lc.length j) cap] := by
        rw [List.range_succ, List.map_append]
        congr 1
        · refine List.map_congr_left fun i hi => ?_
          have hi := List.mem_range.1 hi
          simp only [chunkVal]
          rw [if_neg (by omega), if_neg (by omega)]
        · simp [chunkVal]
      rw [e]; exact ho
    · obtain ⟨_, cur, h2⟩ := owns_type ho hk
      rw [e] at h2
      exact hK.sc (type_eq hh5 h2)
  · by_cases hij : i = j
    · subst hij
      simp only [if_true]
      exact hch _ _ _ hnew
    · simp only [if_neg hij]
      exact hch _ _ _ (h.chunk i (by omega))
end
end Go.Proofs.Ytoopfoapkbjdkaa
