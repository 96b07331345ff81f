/-
  What holds between two rounds of a going through that takes each node out.
-/
import Derived.Test.YtjligfgaahcogaaAdds
namespace Go.Proofs.Ytjligfgaahcogaa
open Go.RowKit Go.Shelf
set_option linter.unusedVariables false

theorem remove_any {w : World} {lo b gL gH : Nat} {D : Dl} (h : IsD w lo b gL gH D) {x : Nat} (hx : x < 65536) :
    Calls Try.prog 18 #[.pointer (some ⟨b, 0, none⟩), .int .i32 (x : Int)] w fun e w' => ∃ v D', e = .returned (.bool v) ∧ IsD w' lo b gL gH D' ∧ Kp b gL gH w w' ∧ ∀ y ∈ D'.l, y ∈ D.l ∧ y ≠ x := by
  by_cases hm : x ∈ D.l
  · obtain ⟨k, hk⟩ := List.getElem?_of_mem hm
    refine (remove_is h hk).mono ?_
    rintro e w' ⟨rfl, hs, hkp⟩
    exact ⟨_, _, rfl, hs, hkp, fun y hy => (rem_mem hk h.ok.nd).1 hy⟩
  · refine (remove_er h _ (by constructor <;> omega) (Dl.has_free.2 hm)).mono ?_
    rintro e w' ⟨rfl, rfl⟩
    exact ⟨_, D, rfl, h, Stay.refl _ _, fun y hy => ⟨hy, fun e => hm (e ▸ hy)⟩⟩

/-- the blocks that a round may turn -/
def rfoot (Bs b gL gH : Nat) (v : Value) : Nat → Prop := fun k => foot Bs v k ∨ k = b ∨ k = gL ∨ k = gH

structure RI (w : World) (lo b gL gH Bs Bc lw n0 : Nat) (vw : Value) (l pre : List Nat) (v : Value) (D : Dl) (Ft : Nat → Prop) (W : World) : Prop where
  box : Boxed W Bs 29 v
  row : W.ownsRow n0 21 1 v pre.length (nvals pre)
  ft : Ft = rfoot Bs b gL gH v
  ch : IsD W lo b gL gH D
  mem : ∀ y ∈ D.l, y ∈ l ∧ y ∉ pre
  cbox : Boxed W Bc 23 (.pointer (some ⟨b, 0, none⟩))
  was : W.ownsRow lw 21 1 vw l.length (nvals l)
  wlt : ∀ g, vw.ownBlock = some g → g < n0
  grown : w.grownBy W none
  siz : n0 ≤ W.heap.size
section
variable {w : World} {lo b gL gH Bs Bc lw n0 : Nat} {vw : Value} {l pre : List Nat} {v : Value} {D : Dl} {Ft : Nat → Prop} {W W' : World}
theorem RI.firm (h : RI w lo b gL gH Bs Bc lw n0 vw l pre v D Ft W) (hb : b < n0) (hB : Bs < n0) (hC : Bc < n0) (hL : gL < n0) (hN : gH < n0) (hw : w.heap.size ≤ n0) (hs : Stay (fun k => k < n0 ∨ Ft k) W W') : RI w lo b gL gH Bs Bc lw n0 vw l pre v D Ft W' := by
  have hf : ∀ k, k < W.heap.size → (k < n0 ∨ Ft k) → W'.heap[k]? = W.heap[k]? := hs.block
  refine ⟨(hf _ h.box.lt (.inl hB)).trans h.box, owns_stay h.row fun k hk => hf k (h.row.lt k hk).2 (.inr (by rw [h.ft]; exact .inl (.inr hk))), h.ft, h.ch.stay fun k hk hkk => hf k hk (.inl (by rcases hkk with rfl | rfl | rfl <;> assumption)), h.mem, (hf _ h.cbox.lt (.inl hC)).trans h.cbox, owns_stay h.was fun k hk => hf k (h.was.lt k hk).2 (.inl (h.wlt k hk)), h.wlt, ?_, Nat.le_trans h.siz hs.size⟩
  exact ⟨hs.os.trans h.grown.os, hs.tape.trans h.grown.tape, hs.output.trans h.grown.output, Nat.le_trans h.grown.size hs.size, fun k hk hr => (hf k (Nat.lt_of_lt_of_le hk h.grown.size) (.inl (by omega))).trans (h.grown.block k hk hr)⟩
theorem RI.owned (h : RI w lo b gL gH Bs Bc lw n0 vw l pre v D Ft W) (hB : lo ≤ Bs) (hn : lo ≤ n0) {k : Nat} (hk : Ft k) : lo ≤ k ∧ ∃ o : Obj, W.heap[k]? = some o ∧ o.isCells = true := by
  rw [h.ft] at hk
  obtain ⟨h1, h2, h3⟩ := h.ch.types
  obtain ⟨l1, l2, l3⟩ := h.ch.los
  rcases hk with hk | rfl | rfl | rfl
  · exact coll_owned h.box h.row hB hn hk
  · obtain ⟨cur, hc⟩ := h1
    exact ⟨l1, _, hc, rfl⟩
  · obtain ⟨cur, hc⟩ := h2
    exact ⟨l2, _, hc, rfl⟩
  · obtain ⟨cur, hc⟩ := h3
    exact ⟨l3, _, hc, rfl⟩
/-- one round: the node is noted, and taken out -/
theorem RI.step (h : RI w lo b gL gH Bs Bc lw n0 vw l pre v D Ft W) {x : Nat} {v' : Value} {D' : Dl} {w3 w5 : World} (hlo : w.heap.size ≤ lo) (hln : lo ≤ n0)
    (hb3 : Boxed w3 Bs 29 v') (hr3 : w3.ownsRow n0 21 1 v' (pre ++ [x]).length (nvals (pre ++ [x]))) (hs3 : Step (fun _ => False) (foot Bs v) (foot Bs v') W w3) (hB : Bs < n0) (hBl : lo ≤ Bs)
    (hC : Bc < n0) (hbn : b < n0) (hL : gL < n0) (hN : gH < n0) (hBb : Bs ≠ Bc) (hHw : gH < lw) (hcL : Bc ≠ b ∧ Bc ≠ gL ∧ Bc ≠ gH)
    (hk : Kp b gL gH w3 w5) (hch : IsD w5 lo b gL gH D') (hmem : ∀ y ∈ D'.l, y ∈ D.l ∧ y ≠ x) :
    RI w lo b gL gH Bs Bc lw n0 vw l (pre ++ [x]) v' D' (rfoot Bs b gL gH v') w5 ∧ Step (fun _ => False) Ft (rfoot Bs b gL gH v') W w5 := by
  have hn0 := h.siz
  have hz3 : W.heap.size ≤ w3.heap.size := hs3.stay.size
  have hne : ∀ k, k < n0 → k ≠ Bs → ¬ foot Bs v k := by
    rintro k hkn hkB (rfl | hkv)
    · exact hkB rfl
    · have := (h.row.lt k hkv).1; omega
  have hbl : ∀ k, k < W.heap.size → ¬ foot Bs v k → k ≠ b → k ≠ gL → k ≠ gH → w5.heap[k]? = W.heap[k]? := fun k h1 h2 h0 h3 h4 => (hk.block k (by omega) ⟨h0, h3, h4⟩).trans (hs3.stay.block k h1 ⟨h2, fun h => h⟩)
  have tB := h.ch.types
  have hBL : Bs ≠ b ∧ Bs ≠ gL ∧ Bs ≠ gH := by
    obtain ⟨⟨c0, t0⟩, ⟨c1, t1⟩, c2, t2⟩ := tB
    refine ⟨?_, ?_, ?_⟩
    · rintro rfl; exact absurd (type_eq h.box t0) (by decide)
    · rintro rfl; exact absurd (type_eq h.box t1) (by decide)
    · rintro rfl; exact absurd (type_eq h.box t2) (by decide)
  refine ⟨⟨(hk.block Bs hb3.lt hBL).trans hb3, owns_stay hr3 fun k hkv => hk.block k (hr3.lt k hkv).2 ⟨fun e => by have := (hr3.lt k hkv).1; omega, fun e => by have := (hr3.lt k hkv).1; omega, fun e => by have := (hr3.lt k hkv).1; omega⟩, rfl, hch, ?_, ?_, ?_, h.wlt, ?_, Nat.le_trans hn0 (Nat.le_trans hz3 hk.size)⟩, ⟨⟨?_, ?_, ?_, ?_, fun k hk1 hk2 => ?_⟩, fun k hk1 => ?_⟩⟩
  · intro y hy
    obtain ⟨h1, h2⟩ := hmem y hy
    have h3 := h.mem y h1
    exact ⟨h3.1, by simp only [List.mem_append, List.mem_singleton, not_or]; exact ⟨h3.2, h2⟩⟩
  · exact (hbl Bc h.cbox.lt (hne Bc hC (fun e => hBb e.symm)) hcL.1 hcL.2.1 hcL.2.2).trans h.cbox
  · refine owns_stay h.was fun k hkv => ?_
    have hkn := h.wlt k hkv
    obtain ⟨hlk, cur, hcur⟩ := owns_type h.was hkv
    obtain ⟨⟨c0, t0⟩, ⟨c1, t1⟩, c2, t2⟩ := tB
    refine hbl k (by omega) (hne k hkn ?_) ?_ ?_ (by omega)
    · rintro rfl; exact absurd (type_eq h.box hcur) (by decide)
    · rintro rfl; exact absurd (type_eq t0 hcur) (by decide)
    · rintro rfl; exact absurd (type_eq t1 hcur) (by decide)
  · obtain ⟨l1, l2, l3⟩ := h.ch.los
    refine ⟨hk.os.trans (hs3.stay.os.trans h.grown.os), hk.tape.trans (hs3.stay.tape.trans h.grown.tape), hk.output.trans (hs3.stay.output.trans h.grown.output), Nat.le_trans h.grown.size (Nat.le_trans hz3 hk.size), fun k hk1 hr => (hbl k (Nat.lt_of_lt_of_le hk1 h.grown.size) (hne k (by omega) (by omega)) (by omega) (by omega) (by omega)).trans (h.grown.block k hk1 hr)⟩
  · exact hk.os.trans hs3.stay.os
  · exact hk.tape.trans hs3.stay.tape
  · exact hk.output.trans hs3.stay.output
  · exact Nat.le_trans hz3 hk.size
  · have h2 := hk2.1
    rw [h.ft] at h2
    exact hbl k hk1 (fun e => h2 (.inl e)) (fun e => h2 (.inr (.inl e))) (fun e => h2 (.inr (.inr (.inl e)))) (fun e => h2 (.inr (.inr (.inr e))))
  · rw [h.ft]
    rcases hk1 with hk1 | hk1
    · rcases hs3.foot k hk1 with h' | h'
      · exact .inl (.inl h')
      · exact .inr h'
    · exact .inl (.inr hk1)
end
end Go.Proofs.Ytjligfgaahcogaa
