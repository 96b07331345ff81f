/-
  What slices.Insert does to memory: no function is walked here.
-/
import Derived.Test.YthpcjgfbngemiaaDelete
namespace Go.Proofs.Ythpcjgfbngemiaa
open Go.ChangeShapes Go.WideShapes Go.ChangeAt Go.RowKit
set_option linter.unusedVariables false
section
variable {w : World} {lo g q n c i : Nat} {l : List (Int × Int)} {x : Int × Int}
def ins (l : List (Int × Int)) (i : Nat) (x : Int × Int) : List (Int × Int) := l.take i ++ x :: l.drop i
theorem ins_len (hi : i ≤ l.length) : (ins l i x).length = l.length + 1 := by
  unfold ins
  rw [List.length_append, List.length_cons, List.length_take, List.length_drop]; omega
theorem gvals_ins : gvals (ins l i x) = gvals (l.take i) ++ genc x ++ gvals (l.drop i) := by
  unfold ins
  rw [gvals_append, List.append_assoc]
  rfl
theorem cells_x (hq : w.heap[q]? = some (.cells #[.int .i64 x.1, .int .i64 x.2] 76 (0, 0))) : ∀ j v, (genc x)[j]? = some v → w.cell? ((⟨q, 0, none⟩ : Addr).add j) = some v := fun j v hv => by
  have hj : j < 2 := (List.getElem?_eq_some_iff.1 hv).1
  have hc := fun o => cell_of_head hq o
  obtain rfl | rfl : j = 0 ∨ j = 1 := by omega
  · simp [genc] at hv; subst hv; exact hc 0
  · simp [genc] at hv; subst hv; exact hc 1
/-- room: the rest goes up, then the new one goes in -/
theorem ins_room (h : GRow w lo (.slice (some ⟨g, 0, none⟩) l.length c) l) (hn : l.length = n) (hi : i < n) (hc : n + 1 ≤ c) (hq : w.heap[q]? = some (.cells #[.int .i64 x.1, .int .i64 x.2] 76 (0, 0))) (hgq : q ≠ g) (ty : TypeId) :
    ∃ w1 w2, (∀ a b, (Builtin.copy_ #[54, 54] ty #[.slice (some ⟨g, (i + 1) * 2, none⟩) (n - i) a, .slice (some ⟨g, i * 2, none⟩) (n + 1 - i) b]).run Try.prog w = .ok (goInt ((n - i : Nat) : Int)) w1) ∧
      (∀ a, (Builtin.copy_ #[54, 54] ty #[.slice (some ⟨g, i * 2, none⟩) (n + 1 - i) a, .slice (some ⟨q, 0, none⟩) 1 1]).run Try.prog w1 = .ok (goInt 1) w2) ∧
      w2.ownsRow lo 76 2 (.slice (some ⟨g, 0, none⟩) (n + 1) c) (n + 1) (gvals (ins l i x)) ∧ w.grownBy w1 (some g) ∧ w1.grownBy w2 (some g) := by
  have h' := h
  rcases h'.2 with ⟨e, _⟩ | ⟨g', cap', cur, e, hbg, hgb, hnc, hcm, hcs, ht⟩
  · simp at e
  · simp only [Value.slice.injEq, Option.some.injEq, Addr.mk.injEq, and_true, true_and] at e
    obtain ⟨rfl, rfl⟩ := e
    have hlen : (gvals (l.drop i)).length = (n - i) * 2 := by rw [gvals_len, List.length_drop, hn]
    have hr1 := fun a b => run_copy_rowK (P := Try.prog) w 54 54 ty 76 2 g ((i + 1) * 2) (n - i) a ⟨g, i * 2, none⟩ (n + 1 - i) b cur 76 (gvals (l.drop i)) (n - i) Try.underlying54 size76 hgb (by show _ = min _ _; omega) hlen
      (fun j u hu => by
        have hj : j < (gvals (l.drop i)).length := (List.getElem?_eq_some_iff.1 hu).1
        rw [hlen] at hj
        rw [gvals_drop, List.getElem?_drop] at hu
        have hc := h.cellAt (i * 2 + j) (by rw [hn]; omega)
        rw [← hu, ← hc]
        congr 1
        by_cases h1 : j = 0
        · subst h1; simp [Addr.add]
        · simp [Addr.add, h1]) (by rw [hlen, hcs]; omega) (rvals_one genc_one _)
    have hg1 := setRow_heap w g cur (cur.toList.take ((i + 1) * 2) ++ gvals (l.drop i) ++ cur.toList.drop ((i + 1) * 2 + (gvals (l.drop i)).length)).toArray 76 _ hgb
    have hs1 : (cur.toList.take ((i + 1) * 2) ++ gvals (l.drop i) ++ cur.toList.drop ((i + 1) * 2 + (gvals (l.drop i)).length)).length = c * 2 := by
      simp only [List.length_append, List.length_take, List.length_drop, Array.length_toList, hlen]
      rw [hcs]; omega
    have hq1 : (w.setRow g (cur.toList.take ((i + 1) * 2) ++ gvals (l.drop i) ++ cur.toList.drop ((i + 1) * 2 + (gvals (l.drop i)).length)).toArray).heap[q]? = some (.cells #[.int .i64 x.1, .int .i64 x.2] 76 (0, 0)) := (setRow_other w g q _ hgq).trans hq
    have hr2 := fun a => run_copy_rowK (P := Try.prog) _ 54 54 ty 76 2 g (i * 2) (n + 1 - i) a ⟨q, 0, none⟩ 1 1 _ 76 (genc x) 1 Try.underlying54 size76 hg1 (by show _ = min _ _; omega) rfl (cells_x hq1) (by rw [List.size_toArray, hs1]; show i * 2 + 2 ≤ c * 2; omega) (genc_one x)
    refine ⟨_, _, hr1, hr2, ⟨?_, .inr ⟨g, c, _, rfl, hbg, setRow_heap _ g _ _ 76 _ hg1, hc, hcm, ?_, ?_⟩⟩, grown_setRow _, grown_setRow _⟩
    · rw [gvals_len, ins_len (by omega), hn]
    · simp only [List.size_toArray, List.length_append, List.length_take, List.length_drop]
      simp only [List.length_append, List.length_take, List.length_drop] at hs1
      rw [hs1]
      show min (i * 2) (c * 2) + 2 + (c * 2 - (i * 2 + 2)) = c * 2
      omega
    · have hT : (cur.toList.take ((i + 1) * 2)).length = (i + 1) * 2 := by rw [List.length_take, Array.length_toList, hcs]; omega
      have e1 : (cur.toList.take ((i + 1) * 2) ++ gvals (l.drop i) ++ cur.toList.drop ((i + 1) * 2 + (gvals (l.drop i)).length)).take (i * 2) = gvals (l.take i) := by
        rw [List.append_assoc, List.take_append_of_le_length (by rw [hT]; omega), List.take_take, Nat.min_eq_left (by omega), gvals_take, ← ht, List.take_take, Nat.min_eq_left (by rw [hn]; omega)]
      have e2 : (cur.toList.take ((i + 1) * 2) ++ gvals (l.drop i) ++ cur.toList.drop ((i + 1) * 2 + (gvals (l.drop i)).length)).drop (i * 2 + 2) = gvals (l.drop i) ++ cur.toList.drop ((i + 1) * 2 + (gvals (l.drop i)).length) := by
        rw [List.append_assoc, show i * 2 + 2 = (cur.toList.take ((i + 1) * 2)).length by rw [hT]; omega, List.drop_left]
      show (((cur.toList.take ((i + 1) * 2) ++ gvals (l.drop i) ++ cur.toList.drop ((i + 1) * 2 + (gvals (l.drop i)).length)).take (i * 2) ++ genc x ++ (cur.toList.take ((i + 1) * 2) ++ gvals (l.drop i) ++ cur.toList.drop ((i + 1) * 2 + (gvals (l.drop i)).length)).drop (i * 2 + 2)).take ((n + 1) * 2)) = _
      rw [e1, e2, gvals_ins, ← List.append_assoc]
      have hl : (gvals (l.take i) ++ genc x ++ gvals (l.drop i)).length = (n + 1) * 2 := by
        rw [← gvals_ins, gvals_len, ins_len (by omega), hn]
      rw [List.take_append_of_le_length (by rw [hl]; exact Nat.le_refl _), List.take_of_length_le (by rw [hl]; exact Nat.le_refl _)]
/-- no room: a new row, the new one goes in -/
theorem ins_grow1 (h : GRow w lo (.slice (some ⟨g, 0, none⟩) l.length c) l) (hn : l.length = n) (hi : i < n) (hc : c < n + 1) (h6 : n ≤ 1000000) (hq : w.heap[q]? = some (.cells #[.int .i64 x.1, .int .i64 x.2] 76 (0, 0))) (ty ty2 : TypeId) :
    ∃ cap' w0 w1 cur1, (∀ k : Int, k = ((n + 1 - i : Nat) : Int) → (Builtin.append_ #[54, 3] ty #[.slice (some ⟨g, 0, none⟩) i c, .int .i64 k]).run Try.prog w = .ok (.slice (some ⟨w.heap.size, 0, none⟩) (n + 1) cap') w0) ∧ n + 1 ≤ cap' ∧ cap' ≤ maxLen ∧
      (∀ a, (Builtin.copy_ #[54, 54] ty2 #[.slice (some ⟨w.heap.size, i * 2, none⟩) (n + 1 - i) a, .slice (some ⟨q, 0, none⟩) 1 1]).run Try.prog w0 = .ok (goInt 1) w1) ∧
      w1.heap[w.heap.size]? = some (.cells cur1 76 (0, 0)) ∧ cur1.size = cap' * 2 ∧ cur1.toList.take ((i + 1) * 2) = gvals (l.take i) ++ genc x ∧ w.grownBy w1 none := by
  obtain ⟨i0, hi0, hz0, hz1, hz2⟩ := info_parts info76
  have hlt : g < w.heap.size := (h.lt g rfl).2
  have hcap := owns_cap h
  have hql : q < w.heap.size := (Array.getElem?_eq_some_iff.1 hq).1
  have hold : (Builtin.firstCells i0.size i (.slice (some ⟨g, 0, none⟩) i c)).run Try.prog w.drew = .ok (gvals (l.take i)).toArray w.drew := by
    have hl : (gvals (l.take i)).length = i * 2 := by rw [gvals_len, List.length_take]; omega
    have := run_loadCells_list (P := Try.prog) w.drew ⟨g, 0, none⟩ (gvals (l.take i)) (fun j u hu => by
      have hj : j < (gvals (l.take i)).length := (List.getElem?_eq_some_iff.1 hu).1
      rw [hl] at hj
      rw [gvals_take, List.getElem?_take, if_pos hj] at hu
      have hc := h.cellAt j (by rw [hn]; omega)
      have ha : (⟨g, 0, none⟩ : Addr).add j = ⟨g, j, none⟩ := by
        by_cases h1 : j = 0
        · subst h1; rfl
        · simp [Addr.add, h1]
      rw [ha]
      exact hc.trans hu)
    simp [Builtin.firstCells, hz1, ← hl, this]
  have hr0 := Lib.run_append_grow_zeros (P := Try.prog) w 54 3 ty 76 i0 _ .i64 .i64 Try.underlying54 Try.underlying3 hi0 hz0 (some ⟨g, 0, none⟩) i c (gvals (l.take i)) hold (n + 1 - i) (by omega) (by omega) (by omega) (by omega) (by rw [hz2]; omega) (by rw [hz2]; exact growslice_fits (by omega) (by omega))
  rw [show i + (n + 1 - i) = n + 1 by omega] at hr0
  have hge : n + 1 ≤ grownCap w (n + 1) c 76 := grownCap_ge w (n + 1) c 76
  have hle : grownCap w (n + 1) c 76 ≤ maxLen := grownCap_le_maxLen w (n + 1) c 76 (by unfold maxLen; omega)
  generalize grownCap w (n + 1) c 76 = cap' at hr0 hge hle
  have hb0 := heap_alloc_new w.drew (.cells ((gvals (l.take i)).toArray ++ Builtin.zeroCells (Value.agg #[.int .i64 0, .int .i64 0]).cells (n + 1 - i) ++ Builtin.zeroCells (Value.agg #[.int .i64 0, .int .i64 0]).cells (cap' - (n + 1))) 76)
  have hq0 := Below.heap_alloc w.drew (.cells ((gvals (l.take i)).toArray ++ Builtin.zeroCells (Value.agg #[.int .i64 0, .int .i64 0]).cells (n + 1 - i) ++ Builtin.zeroCells (Value.agg #[.int .i64 0, .int .i64 0]).cells (cap' - (n + 1))) 76) q hql
  have hsz : ((gvals (l.take i)).toArray ++ Builtin.zeroCells (Value.agg #[.int .i64 0, .int .i64 0]).cells (n + 1 - i) ++ Builtin.zeroCells (Value.agg #[.int .i64 0, .int .i64 0]).cells (cap' - (n + 1))).size = cap' * 2 := by
    simp only [Array.size_append, List.size_toArray, size_zeroCells, gvals_len, List.length_take]
    show min i l.length * 2 + (n + 1 - i) * 2 + (cap' - (n + 1)) * 2 = cap' * 2
    omega
  have hr1 := fun a => run_copy_rowK (P := Try.prog) _ 54 54 ty2 76 2 w.heap.size (i * 2) (n + 1 - i) a ⟨q, 0, none⟩ 1 1 _ 76 (genc x) 1 Try.underlying54 size76 hb0 (by show _ = min _ _; omega) rfl (cells_x (hq0.trans hq)) (by rw [hsz]; show i * 2 + 2 ≤ cap' * 2; omega) (genc_one x)
  refine ⟨cap', _, _, _, fun k hk => by rw [hk]; exact hr0, hge, hle, hr1, setRow_heap _ w.heap.size _ _ 76 _ hb0, ?_, ?_, ?_⟩
  · simp only [List.size_toArray, List.length_append, List.length_take, List.length_drop, Array.length_toList]
    rw [hsz]
    show min (i * 2) (cap' * 2) + 2 + (cap' * 2 - (i * 2 + 2)) = cap' * 2
    omega
  · have hl : (gvals (l.take i)).length = i * 2 := by rw [gvals_len, List.length_take]; omega
    have e1 : ((gvals (l.take i)).toArray ++ Builtin.zeroCells (Value.agg #[.int .i64 0, .int .i64 0]).cells (n + 1 - i) ++ Builtin.zeroCells (Value.agg #[.int .i64 0, .int .i64 0]).cells (cap' - (n + 1))).toList.take (i * 2) = gvals (l.take i) := by
      rw [Array.toList_append, Array.toList_append, List.append_assoc, ← hl]
      exact List.take_left
    show (_ ++ genc x ++ _).take ((i + 1) * 2) = _
    rw [e1, List.take_append_of_le_length (by rw [List.length_append, hl]; show (i + 1) * 2 ≤ i * 2 + 2; omega), List.take_of_length_le (by rw [List.length_append, hl]; show i * 2 + 2 ≤ (i + 1) * 2; omega)]
  · exact grown_new (g := w.heap.size) (b := World.alloc w.drew _) (⟨rfl, rfl, rfl, by simp, fun k hk _ => Below.heap_alloc w.drew _ k hk⟩) (grown_setRow _) (Nat.le_refl _)
/-- then the rest -/
theorem ins_grow2 {cap' q2 : Nat} {cur1 : Array Value} (h : GRow w lo (.slice (some ⟨g, 0, none⟩) l.length c) l) (hn : l.length = n) (hi : i < n) (hc : n + 1 ≤ cap') (hm : cap' ≤ maxLen) (hb : w.heap[q2]? = some (.cells cur1 76 (0, 0))) (hs : cur1.size = cap' * 2) (ht : cur1.toList.take ((i + 1) * 2) = gvals (l.take i) ++ genc x) (hlo : lo ≤ q2) (ty : TypeId) :
    ∃ w2, (∀ a b, (Builtin.copy_ #[54, 54] ty #[.slice (some ⟨q2, (i + 1) * 2, none⟩) (n - i) a, .slice (some ⟨g, i * 2, none⟩) (n - i) b]).run Try.prog w = .ok (goInt ((n - i : Nat) : Int)) w2) ∧
      w2.ownsRow lo 76 2 (.slice (some ⟨q2, 0, none⟩) (n + 1) cap') (n + 1) (gvals (ins l i x)) ∧ w.grownBy w2 (some q2) := by
  have hlen : (gvals (l.drop i)).length = (n - i) * 2 := by rw [gvals_len, List.length_drop, hn]
  have hr1 := fun a b => run_copy_rowK (P := Try.prog) w 54 54 ty 76 2 q2 ((i + 1) * 2) (n - i) a ⟨g, i * 2, none⟩ (n - i) b cur1 76 (gvals (l.drop i)) (n - i) Try.underlying54 size76 hb (by show _ = min _ _; omega) hlen
    (fun j u hu => by
      have hj : j < (gvals (l.drop i)).length := (List.getElem?_eq_some_iff.1 hu).1
      rw [hlen] at hj
      rw [gvals_drop, List.getElem?_drop] at hu
      have hc := h.cellAt (i * 2 + j) (by rw [hn]; omega)
      rw [← hu, ← hc]
      congr 1
      by_cases h1 : j = 0
      · subst h1; simp [Addr.add]
      · simp [Addr.add, h1]) (by rw [hlen, hs]; omega) (rvals_one genc_one _)
  refine ⟨_, hr1, ⟨?_, .inr ⟨q2, cap', _, rfl, hlo, setRow_heap w q2 cur1 _ 76 _ hb, hc, hm, ?_, ?_⟩⟩, grown_setRow _⟩
  · rw [gvals_len, ins_len (by omega), hn]
  · simp only [List.size_toArray, List.length_append, List.length_take, List.length_drop, Array.length_toList, hlen]
    rw [hs]; omega
  · show (_ ++ gvals (l.drop i) ++ _).take ((n + 1) * 2) = _
    rw [ht, gvals_ins]
    have hl : (gvals (l.take i) ++ genc x ++ gvals (l.drop i)).length = (n + 1) * 2 := by
      rw [← gvals_ins, gvals_len, ins_len (by omega), hn]
    rw [List.take_append_of_le_length (by rw [hl]; exact Nat.le_refl _), List.take_of_length_le (by rw [hl]; exact Nat.le_refl _)]
end
end Go.Proofs.Ythpcjgfbngemiaa
