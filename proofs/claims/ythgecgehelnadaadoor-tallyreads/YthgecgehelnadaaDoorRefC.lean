/-
  The document's List and Of.
-/
import Derived.Test.YthgecgehelnadaaDoorFld
import Derived.BigQuiet
import Derived.Deep.QuietTactic
import Derived.StillTailTactics
namespace Go.Proofs.YthgecgehelnadaaDoor
open Go.Shelf Go.RowKit Go.Sort
open Go.Lib hiding intOf
set_option linter.unusedVariables false
theorem Ten.kept {w w' : World} {b off B : Nat} {c : List Int} (h : Ten w b off c) (hb : Below B w w') (hB : b < B) : Ten w' b off c := fun j hj => by
  rw [hb.cell (by exact hB)]; exact h j hj
theorem Ten.lt {w : World} {b off : Nat} {c : List Int} (h : Ten w b off c) (hc : c.length = 10) : b < w.heap.size := by exact Lib.lt_of_cell (h 0 (by omega))
/-- a row of numbers in a block of its own -/
def URow (w : World) (b : Nat) (c : List Int) : Prop := w.heap[b]? = some (.cells (ca c) 22 (0, 0))
theorem URow.kept {w w' : World} {b B : Nat} {c : List Int} (h : URow w b c) (hb : Below B w w') (hB : b < B) : URow w' b c := by
  unfold URow; rw [hb.block b hB]; exact h
theorem URow.lt {w : World} {b : Nat} {c : List Int} (h : URow w b c) : b < w.heap.size := (Array.getElem?_eq_some_iff.1 h).1
theorem URow.cell {w : World} {b : Nat} {c : List Int} (h : URow w b c) (k : Nat) (hk : k < c.length) : w.cell? ⟨b, k, none⟩ = some (.int .u64 c[k]) := by
  have := cell_of_row (w := w) b k (ca c) 22 (0, 0) h
  rw [this]
  simp [ca, hk]
theorem URow.ten {w : World} {b : Nat} {c : List Int} (h : URow w b c) : Ten w b 0 c := fun j hj => by rw [Nat.zero_add]; exact h.cell j hj
theorem URow.free {w : World} {b : Nat} {c : List Int} (h : URow w b c) (k : Nat) : w.frozen? ⟨b, k, none⟩ = false := by
  unfold URow at h
  simp [World.frozen?, h]
theorem URow.set {w : World} {b : Nat} {c : List Int} (h : URow w b c) (k : Nat) (n : Int) : URow (w.setCell ⟨b, k, none⟩ (.int .u64 n)) b (c.set k n) := by
  unfold URow at h ⊢
  simp only [World.setCell, Array.getElem?_modify, ↓reduceIte, h, Option.map_some]
  simp [ca]
theorem URow.other {w : World} {b : Nat} {c : List Int} {p : Addr} {v : Value} (h : URow w b c) (hne : b ≠ p.block) : URow (w.setCell p v) b c := by
  unfold URow at h ⊢
  rw [Below.heap_setCell w p v b hne]
  exact h
theorem urow_alloc (w : World) (c : List Int) : URow (w.alloc (.cells (ca c) 22)) w.heap.size c := by
  show (w.heap.push _)[w.heap.size]? = _
  simp
set_option maxHeartbeats 1000000 in
set_option maxRecDepth 100000 in
theorem rlist_at (c : List Int) (hc : c.length = 10) (w : World) : Calls Tryd.prog 13 #[cv c] w fun e w' => e = .returned (.slice (some ⟨w.heap.size + 1, 0, none⟩) 10 10) ∧ URow w' (w.heap.size + 1) c ∧ Below w.heap.size w w' := by
  obtain ⟨a0, a1, a2, a3, a4, a5, a6, a7, a8, a9, rfl⟩ := ten_list c hc
  have HU := Lib.hid (urow_alloc (w.alloc (.cells (ca [a0, a1, a2, a3, a4, a5, a6, a7, a8, a9]) 24)) [a0, a1, a2, a3, a4, a5, a6, a7, a8, a9])
  have HB := Lib.hid (((Below.refl w.heap.size w).alloc (Nat.le_refl _) (.cells (ca [a0, a1, a2, a3, a4, a5, a6, a7, a8, a9]) 24)).alloc (by simp) (.cells (ca [a0, a1, a2, a3, a4, a5, a6, a7, a8, a9]) 22))
  have e : ca [a0, a1, a2, a3, a4, a5, a6, a7, a8, a9] = #[.int .u64 a0, .int .u64 a1, .int .u64 a2, .int .u64 a3, .int .u64 a4, .int .u64 a5, .int .u64 a6, .int .u64 a7, .int .u64 a8, .int .u64 a9] := rfl
  rw [e] at HU HB
  show Calls Tryd.prog 13 #[.agg (ca _)] w _
  rw [e]
  clear e hc
  go_enter Tryd.func13, Tryd.ntmps13
  go_wp2
  go_ret
  exact ⟨rfl, by simpa using HU.out, HB.out⟩
theorem region_tail {P : Program} {id : Nat} {Q : Exit → Act → World → Prop} {a : Act} {w : World} {l : List Oper} (n : Nat) (hm : P.follows .mixedOrders = true) (hB : Region.lexTailB .any l.toArray n = true)
    (h : ∀ w2 : World, w2 = w.drewN 1 → wpStill P l.toArray w2 (fun a' => wpList P l.toArray Q (l.drop n) a' w2) (l.take n) a) : (Code.region id l.toArray true).wp P Q a w :=
  wp_region_still_tail n hm hB (h _ rfl)
set_option maxHeartbeats 1000000 in
set_option maxRecDepth 100000 in
theorem rof_at (c : List Int) (hc : c.length = 10) (g cap : Nat) (hcap : 10 ≤ cap) (w : World) (h : Ten w g 0 c) : Calls Tryd.prog 14 #[.slice (some ⟨g, 0, none⟩) 10 cap] w fun e w' => e = .returned (cv c) ∧ Below w.heap.size w w' := by
  have hlt := h.lt hc
  have h1 := h.kept ((Below.refl _ _).alloc (Nat.le_refl _) (.cells (ca zs) 24)) hlt
  have hR := row_alloc w zs
  have hb := (Below.refl w.heap.size w).alloc (Nat.le_refl _) (.cells (ca zs) 24)
  obtain ⟨w1, hw1⟩ : ∃ w1, w1 = w.alloc (.cells (ca zs) 24) := ⟨_, rfl⟩
  rw [← hw1] at h1 hR hb
  have HW := Lib.hid hw1
  clear hw1 h hlt
  have HR := Lib.hid (And.intro hR hb)
  have H1 := Lib.hid h1
  have HC := Lib.hid hc
  clear hR hb h1 hc
  go_enter Tryd.func14, Tryd.ntmps14
  go_wp2_with fail
  have hA : w.alloc (.cells #[.int .u64 0, .int .u64 0, .int .u64 0, .int .u64 0, .int .u64 0, .int .u64 0, .int .u64 0, .int .u64 0, .int .u64 0, .int .u64 0] 24) = w1 := HW.out.symm
  rw [hA]
  clear hA
  refine region_tail 31 (by kernel_rfl) (by kernel_rfl) ?_
  intro w2 hw2
  have hb2 : Below w1.heap.size w1 w2 := by rw [hw2]; exact below_drew (Below.refl _ _) 1
  have hR2 := HR.out.1.kept hb2 HR.out.1.lt
  have hB2 := HR.out.2.trans (hb2.mono HR.out.2.size)
  have h := H1.out.kept hb2 (H1.out.lt HC.out)
  have HR2 := Lib.hid (And.intro hR2 hB2)
  clear hw2 hb2 hR2 hB2
  obtain ⟨a0, a1, a2, a3, a4, a5, a6, a7, a8, a9, e⟩ := ten_list c HC.out
  rw [e] at h
  have c0 := h 0 (by simp)
  have c1 := h 1 (by simp)
  have c2 := h 2 (by simp)
  have c3 := h 3 (by simp)
  have c4 := h 4 (by simp)
  have c5 := h 5 (by simp)
  have c6 := h 6 (by simp)
  have c7 := h 7 (by simp)
  have c8 := h 8 (by simp)
  have c9 := h 9 (by simp)
  simp only [List.getElem_cons_zero, List.getElem_cons_succ, Nat.zero_add] at c0 c1 c2 c3 c4 c5 c6 c7 c8 c9
  have HE := Lib.hid e
  clear h e
  simp only [List.take_succ_cons, List.take_zero, List.drop_succ_cons, List.drop_zero]
  repeat still_step
  refine wpStill_nil ?_
  go_wp2_with (refine st24 rfl (.tmp 2) (.tmp 33) rfl _ c rfl (by rw [HE.out]; rfl) _ HR2.out.1 rfl HC.out ?_)
  refine bodyPost_ret (results_cnt rfl _ _ _ _ rfl HR2.out.1.rowSet HC.out) rfl ?_
  exact ⟨rfl, below_setRow HR2.out.2 (Nat.le_refl _)⟩
end Go.Proofs.YthgecgehelnadaaDoor
