/-
  The document's table: one pair more at a row's end.
-/
import Derived.Test.YtnhjnciadmgkeaaDoorRefC
namespace Go.Proofs.YtnhjnciadmgkeaaDoor
open Go.ChangeShapes Go.WideShapes Go.ChangeAt Go.RowKit
set_option linter.unusedVariables false
theorem info58 : (Tryd.prog.info? 58).map (fun i => (i.zero, i.size, i.bytes)) = some (some (.agg #[.int .u64 0, .int .i32 0]), 2, 16) := by kernel_rfl
theorem pvals_snoc (ps : List (Int × Int)) (p : Int × Int) : pvals (ps ++ [p]) = pvals ps ++ [.int .u64 p.1, .int .i32 p.2] := by
  induction ps with
  | nil => rfl
  | cons a t ih => obtain ⟨x, y⟩ := a; simp only [List.cons_append, pvals, ih]
theorem grown_row {a b c : World} {row : Option Nat} (h1 : a.grownBy b none) (h2 : b.grownBy c row) (hr : ∀ r, row = some r → a.heap.size ≤ r) : a.grownBy c none :=
  ⟨h2.os.trans h1.os, h2.tape.trans h1.tape, h2.output.trans h1.output, Nat.le_trans h1.size h2.size,
    fun k hk hn => (h2.block k (Nat.lt_of_lt_of_le hk h1.size) (fun e => by have := hr k e.symm; omega)).trans (h1.block k hk hn)⟩
theorem app58 {w : World} {base k cap : Nat} {A : Option Addr} {ps : List (Int × Int)} (ho : w.ownsRow base 58 2 (.slice A k cap) k (pvals ps)) (hk : k ≤ 1000000) (hb : base ≤ w.heap.size) (x : Int × Int) :
    ∃ g' cap' w1, (Builtin.append_ #[27, 27] 27 #[.slice A k cap, .slice (some ⟨w.heap.size, 0, none⟩) 1 1]).run Tryd.prog (w.alloc (.cells #[.int .u64 x.1, .int .i32 x.2] 58)) = .ok (.slice (some ⟨g', 0, none⟩) (k + 1) cap') w1 ∧
      w1.ownsRow base 58 2 (.slice (some ⟨g', 0, none⟩) (k + 1) cap') (k + 1) (pvals (ps ++ [x])) ∧ (∀ w0 : World, w0.heap.size ≤ base → w0.grownBy w none → w0.grownBy w1 none) ∧ w.heap.size ≤ w1.heap.size := by
  obtain ⟨i0, hi, hz0, hz1, hz2⟩ := info_parts info58
  obtain ⟨g', cap', w1, hrun, ho1, hgr, hft⟩ := run_append_foot (P := Tryd.prog) (w.alloc (.cells #[.int .u64 x.1, .int .i32 x.2] 58)) base 27 27 58 i0 (.agg #[.int .u64 0, .int .i32 0]) 2 16 Tryd.underlying27 hi hz0 hz1 hz2 rfl (by decide) (.slice A k cap) k (pvals ps) (ho.alloc _) ⟨w.heap.size, 0, none⟩ 1 [.int .u64 x.1, .int .i32 x.2] rfl
    (fun j u hu => by
      have hc := fun o => cell_of_head (heap_alloc_new w (.cells #[.int .u64 x.1, .int .i32 x.2] 58)) o
      have hj : j < 2 := (List.getElem?_eq_some_iff.1 hu).1
      obtain rfl | rfl : j = 0 ∨ j = 1 := by omega
      · simp at hu; subst hu; exact hc 0
      · simp at hu; subst hu; exact hc 1) (fun u hu => by simp at hu; rcases hu with rfl | rfl <;> rfl) (by unfold maxLen; omega) (by omega) (by simp; omega)
  have hgg := grown_trans (grown_any (World.grownBy_alloc w (.cells #[.int .u64 x.1, .int .i32 x.2] 58) none) (Value.slice A k cap).ownBlock) hgr
  refine ⟨g', cap', w1, hrun, by rw [pvals_snoc]; exact ho1, fun w0 h0 h1 => grown_row h1 hgg fun r hr => by have := (ho.lt r hr).1; omega, hgg.size⟩
end Go.Proofs.YtnhjnciadmgkeaaDoor
