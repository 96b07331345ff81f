/-
  What holds between two rounds of a going through that takes each node out, and lays it into another list.
-/
import Derived.Test.YtmjccpgkgkindaaAdds
namespace Go.Proofs.Ytmjccpgkgkindaa
open Go.RowKit Go.Shelf
set_option linter.unusedVariables false

def tl (l pre : List Nat) : Ch := ⟨256, [l.drop pre.length, pre.reverse]⟩
theorem tl_of0 (l pre : List Nat) : (tl l pre).of 0 = l.drop pre.length := rfl
theorem tl_of1 (l pre : List Nat) : (tl l pre).of 1 = pre.reverse := rfl
theorem tl_nil (l : List Nat) : tl l [] = chn 1 l := rfl
theorem tl_drop {l pre : List Nat} {x : Nat} (h : pre ++ [x] <+: l) : l.drop pre.length = x :: l.drop (pre ++ [x]).length := by
  obtain ⟨r, rfl⟩ := h
  rw [List.append_assoc, List.drop_left' rfl, ← List.append_assoc, List.drop_left' rfl]
  rfl
theorem tl_take {l pre : List Nat} {x : Nat} (h : pre ++ [x] <+: l) : (tl l pre).put 0 (l.drop (pre ++ [x]).length) = ⟨256, [l.drop (pre ++ [x]).length, pre.reverse]⟩ := rfl
theorem tl_step {l pre : List Nat} {x : Nat} (h : pre ++ [x] <+: l) : (Ch.put ⟨256, [l.drop (pre ++ [x]).length, pre.reverse]⟩ 1 (x :: pre.reverse)) = tl l (pre ++ [x]) := by
  unfold tl Ch.put
  simp
/-- the blocks that a round may turn -/
def rfoot (Bs gL gN : Nat) (v : Value) : Nat → Prop := fun k => foot Bs v k ∨ k = gL ∨ k = gN

structure RI (w : World) (lo b gL gN Bs Bc n0 : Nat) (vw : Value) (l pre : List Nat) (v : Value) (Ft : Nat → Prop) (W : World) : Prop where
  box : Boxed W Bs 43 v
  row : W.ownsRow n0 21 1 v pre.length (nvals pre)
  ft : Ft = rfoot Bs gL gN v
  ch : IsCh W lo b gL gN (tl l pre)
  cbox : Boxed W Bc 23 (.pointer (some ⟨b, 0, none⟩))
  was : W.ownsRow lo 21 1 vw l.length (nvals l)
  wlt : ∀ g, vw.ownBlock = some g → g < n0
  grown : w.grownBy W none
  siz : n0 ≤ W.heap.size
section
variable {w : World} {lo b gL gN Bs Bc n0 : Nat} {vw : Value} {l pre : List Nat} {v : Value} {Ft : Nat → Prop} {W W' : World}
theorem RI.firm (h : RI w lo b gL gN Bs Bc n0 vw l pre v Ft W) (hb : b < n0) (hB : Bs < n0) (hC : Bc < n0) (hL : gL < n0) (hN : gN < n0) (hw : w.heap.size ≤ n0) (hs : Stay (fun k => k < n0 ∨ Ft k) W W') : RI w lo b gL gN Bs Bc n0 vw l pre v Ft W' := by
  have hf : ∀ k, k < W.heap.size → (k < n0 ∨ Ft k) → W'.heap[k]? = W.heap[k]? := hs.block
  refine ⟨(hf _ h.box.lt (.inl hB)).trans h.box, owns_stay h.row fun k hk => hf k (h.row.lt k hk).2 (.inr (by rw [h.ft]; exact .inl (.inr hk))), h.ft, h.ch.stay fun k hk hkk => hf k hk (.inl (by rcases hkk with rfl | rfl | rfl <;> assumption)), (hf _ h.cbox.lt (.inl hC)).trans h.cbox, owns_stay h.was fun k hk => hf k (h.was.lt k hk).2 (.inl (h.wlt k hk)), h.wlt, ?_, Nat.le_trans h.siz hs.size⟩
  exact ⟨hs.os.trans h.grown.os, hs.tape.trans h.grown.tape, hs.output.trans h.grown.output, Nat.le_trans h.grown.size hs.size, fun k hk hr => (hf k (Nat.lt_of_lt_of_le hk h.grown.size) (.inl (by omega))).trans (h.grown.block k hk hr)⟩
theorem RI.owned (h : RI w lo b gL gN Bs Bc n0 vw l pre v Ft W) (hB : lo ≤ Bs) (hn : lo ≤ n0) {k : Nat} (hk : Ft k) : lo ≤ k ∧ ∃ o : Obj, W.heap[k]? = some o ∧ o.isCells = true := by
  rw [h.ft] at hk
  obtain ⟨h1, h2, h3⟩ := h.ch.types
  obtain ⟨l1, l2, l3⟩ := h.ch.los
  rcases hk with hk | rfl | rfl
  · exact coll_owned h.box h.row hB hn hk
  · obtain ⟨cur, hc⟩ := h2
    exact ⟨l2, _, hc, rfl⟩
  · obtain ⟨cur, hc⟩ := h3
    exact ⟨l3, _, hc, rfl⟩
/-- one round: the node is noted, taken out, and laid in elsewhere -/
theorem RI.step (h : RI w lo b gL gN Bs Bc n0 vw l pre v Ft W) {x : Nat} {v' : Value} {w3 w4 w5 : World} (hlo : w.heap.size ≤ lo) (hln : lo ≤ n0)
    (hb3 : Boxed w3 Bs 43 v') (hr3 : w3.ownsRow n0 21 1 v' (pre ++ [x]).length (nvals (pre ++ [x]))) (hs3 : Step (fun _ => False) (foot Bs v) (foot Bs v') W w3) (hB : Bs < n0) (hBl : lo ≤ Bs)
    (hC : Bc < n0) (hbn : b < n0) (hL : gL < n0) (hN : gN < n0) (hBb : Bs ≠ Bc) (hcL : Bc ≠ gL ∧ Bc ≠ gN)
    (hk4 : Kp gL gN w3 w4) (hk5 : Kp gL gN w4 w5) (hch : IsCh w5 lo b gL gN (tl l (pre ++ [x]))) :
    RI w lo b gL gN Bs Bc n0 vw l (pre ++ [x]) v' (rfoot Bs gL gN v') w5 ∧ Step (fun _ => False) Ft (rfoot Bs gL gN v') W w5 := by
  have hn0 := h.siz
  have hk := hk4.trans hk5
  have hz3 : W.heap.size ≤ w3.heap.size := hs3.stay.size
  have hne : ∀ k, k < n0 → k ≠ Bs → ¬ foot Bs v k := by
    rintro k hkn hkB (rfl | hkv)
    · exact hkB rfl
    · have := (h.row.lt k hkv).1; omega
  have hbl : ∀ k, k < W.heap.size → ¬ foot Bs v k → k ≠ gL → k ≠ gN → w5.heap[k]? = W.heap[k]? := fun k h1 h2 h3 h4 => (hk.block k (by omega) ⟨h3, h4⟩).trans (hs3.stay.block k h1 ⟨h2, fun h => h⟩)
  have tB := h.ch.types
  have hBL : Bs ≠ gL ∧ Bs ≠ gN := by
    obtain ⟨_, ⟨c1, t1⟩, c2, t2⟩ := tB
    constructor
    · rintro rfl; exact absurd (type_eq h.box t1) (by decide)
    · rintro rfl; exact absurd (type_eq h.box t2) (by decide)
  refine ⟨⟨(hk.block Bs hb3.lt hBL).trans hb3, owns_stay hr3 fun k hkv => hk.block k (hr3.lt k hkv).2 ⟨fun e => by have := (hr3.lt k hkv).1; omega, fun e => by have := (hr3.lt k hkv).1; omega⟩, rfl, hch, ?_, ?_, h.wlt, ?_, Nat.le_trans hn0 (Nat.le_trans hz3 hk.size)⟩, ⟨⟨?_, ?_, ?_, ?_, fun k hk1 hk2 => ?_⟩, fun k hk1 => ?_⟩⟩
  · exact (hbl Bc h.cbox.lt (hne Bc hC (fun e => hBb e.symm)) hcL.1 hcL.2).trans h.cbox
  · refine owns_stay h.was fun k hkv => ?_
    have hkn := h.wlt k hkv
    obtain ⟨_, cur, hcur⟩ := owns_type h.was hkv
    obtain ⟨_, ⟨c1, t1⟩, c2, t2⟩ := tB
    refine hbl k (by omega) (hne k hkn ?_) ?_ ?_
    · rintro rfl; exact absurd (type_eq h.box hcur) (by decide)
    · rintro rfl; exact absurd (type_eq t1 hcur) (by decide)
    · rintro rfl; exact absurd (type_eq t2 hcur) (by decide)
  · obtain ⟨l1, l2, l3⟩ := h.ch.los
    refine ⟨hk.os.trans (hs3.stay.os.trans h.grown.os), hk.tape.trans (hs3.stay.tape.trans h.grown.tape), hk.output.trans (hs3.stay.output.trans h.grown.output), Nat.le_trans h.grown.size (Nat.le_trans hz3 hk.size), fun k hk1 hr => (hbl k (Nat.lt_of_lt_of_le hk1 h.grown.size) (hne k (by omega) (by omega)) (by omega) (by omega)).trans (h.grown.block k hk1 hr)⟩
  · exact hk.os.trans hs3.stay.os
  · exact hk.tape.trans hs3.stay.tape
  · exact hk.output.trans hs3.stay.output
  · exact Nat.le_trans hz3 hk.size
  · have h2 := hk2.1
    rw [h.ft] at h2
    exact hbl k hk1 (fun e => h2 (.inl e)) (fun e => h2 (.inr (.inl e))) (fun e => h2 (.inr (.inr e)))
  · rw [h.ft]
    rcases hk1 with hk1 | rfl | rfl
    · rcases hs3.foot k hk1 with h' | h'
      · exact .inl (.inl h')
      · exact .inr h'
    · exact .inl (.inr (.inl rfl))
    · exact .inl (.inr (.inr rfl))
end
end Go.Proofs.Ytmjccpgkgkindaa
