/-
  A gap is taken out of a row of gaps: slices.Delete.
-/
import Derived.Test.YthpcjgfbngemiaaSearch
namespace Go.Proofs.Ythpcjgfbngemiaa
open Go.ChangeShapes Go.WideShapes Go.ChangeAt Go.RowKit
set_option linter.unusedVariables false
set_option maxRecDepth 100000
section
variable {w : World} {lo g n c : Nat} {l : List (Int × Int)}
theorem clear_end {xs : List Value} (h : w.ownsRow lo 76 2 (.slice (some ⟨g, 0, none⟩) n c) n xs) (hc : n < c) (ty : TypeId) :
    ∃ w', (∀ cc, (Builtin.clear_ #[54] ty #[.slice (some ⟨g, n * 2, none⟩) 1 cc]).run Try.prog w = .ok (.tuple #[]) w') ∧ w'.ownsRow lo 76 2 (.slice (some ⟨g, 0, none⟩) n c) n xs ∧ w.grownBy w' (some g) := by
  rcases h.2 with ⟨e, _⟩ | ⟨g', cap', cur, e, hbg, hgb, hnc, hcm, hcs, ht⟩
  · simp at e
  · simp only [Value.slice.injEq, Option.some.injEq, Addr.mk.injEq, and_true, true_and] at e
    obtain ⟨rfl, rfl⟩ := e
    have hz : (Value.agg #[.int .i64 0, .int .i64 0]).cells = #[.int .i64 0, .int .i64 0] := rfl
    have hr := fun cc => run_clear_rowK (P := Try.prog) w 54 76 ty _ Try.underlying54 zero76 (by rw [hz]; intro v hv; simp at hv; subst hv; rfl) g (n * 2) cc cur 76 hgb (by rw [hz, hcs]; simp; omega)
    refine ⟨_, hr, ⟨h.1, .inr ⟨g, c, _, rfl, hbg, setRow_heap w g cur _ 76 _ hgb, hnc, hcm, ?_, ?_⟩⟩, grown_setRow _⟩
    · rw [hz]
      simp only [List.size_toArray, List.length_append, List.length_take, List.length_drop, Array.length_toList]
      simp
      omega
    · rw [List.append_assoc, List.take_append_of_le_length (by rw [List.length_take, Array.length_toList]; omega), List.take_take, Nat.min_self, ht]
theorem append_del (h : GRow w lo (.slice (some ⟨g, 0, none⟩) l.length c) l) {i m : Nat} (hi : i + 1 + m = l.length) (a : Addr) (ha : 0 < m → a = ⟨g, (i + 1) * 2, none⟩) (cc : Nat) (ty : TypeId) :
    ∃ w', (Builtin.append_ #[54, 54] ty #[.slice (some ⟨g, 0, none⟩) i c, .slice (some a) m cc]).run Try.prog w = .ok (.slice (some ⟨g, 0, none⟩) (i + m) c) w' ∧ w'.ownsRow lo 76 2 (.slice (some ⟨g, 0, none⟩) (i + m) c) (i + m) (gvals (l.eraseIdx i)) ∧ w.grownBy w' (some g) := by
  obtain ⟨i0, hi0, hz0, hz1, hz2⟩ := info_parts info76
  have hcap := owns_cap h
  have hrow := owns_cut h (show i ≤ l.length by omega)
  rw [← gvals_take] at hrow
  obtain ⟨w', hr, ho, hg⟩ := run_append_fits (P := Try.prog) w lo 54 ty 76 i0 2 Try.underlying54 hi0 hz1 g i c _ hrow a m cc (gvals (l.drop (i + 1))) (by rw [gvals_len, List.length_drop]; omega)
    (fun j u hu => by
      have hj : j < (gvals (l.drop (i + 1))).length := (List.getElem?_eq_some_iff.1 hu).1
      rw [gvals_len, List.length_drop] at hj
      rw [ha (by omega)]
      rw [gvals_drop, List.getElem?_drop] at hu
      have hc := h.cellAt ((i + 1) * 2 + j) (by omega)
      rw [← hu, ← hc]
      congr 1
      by_cases h1 : j = 0
      · subst h1; simp [Addr.add]
      · simp [Addr.add, h1]) (rvals_one genc_one _) (by omega)
  refine ⟨w', hr, ?_, hg⟩
  rw [List.eraseIdx_eq_take_drop_succ, gvals_append]
  exact ho
def DelPost (w : World) (lo g n c : Nat) (l : List (Int × Int)) (e : Ending) (w' : World) : Prop := e = .returned (.slice (some ⟨g, 0, none⟩) n c) ∧ GRow w' lo (.slice (some ⟨g, 0, none⟩) n c) l ∧ w.grownBy w' (some g)
set_option maxHeartbeats 400000 in
theorem delete_at (h : GRow w lo (.slice (some ⟨g, 0, none⟩) l.length c) l) (i : Nat) (hi : i < l.length) (hn : l.length ≤ 1000000) :
    Calls Try.prog 42 #[.slice (some ⟨g, 0, none⟩) l.length c, .int .i64 (i : Int), .int .i64 ((i : Int) + 1)] w (DelPost w lo g (l.length - 1) c (l.eraseIdx i)) := by
  obtain ⟨m, hm⟩ : ∃ m, i + 1 + m = l.length := ⟨l.length - (i + 1), by omega⟩
  obtain ⟨n, HN⟩ : ∃ n, Hid (l.length = n) := ⟨_, Lib.hid rfl⟩
  have hcap := owns_cap h
  have HH := Lib.hid h
  rw [HN.out] at hm hn hcap hi ⊢
  have e1 : n - 1 = i + m := by omega
  rw [e1]
  have k0 : (0 : Int) ≤ (i : Int) := by omega
  have k1 : (0 : Int) ≤ (i : Int) + 1 := by omega
  have k2 : (i : Int) ≤ (i : Int) + 1 := by omega
  have k3 : (i : Int) + 1 ≤ (n : Int) := by omega
  have k4 : (n : Int) ≤ (c : Int) := by omega
  have k5 : ¬ (n : Int) = (i : Int) := by omega
  have k6 : (i : Int) ≤ (c : Int) := by omega
  have hne : ¬ (i : Int) = (i : Int) + 1 := by omega
  clear h e1
  go_enter Try.func42, Try.ntmps42
  go_wp2_with fail
  refine region_tail 6 (by kernel_rfl) (by kernel_rfl) ?_
  intro w4 hw4
  have HG4 : Hid (w.grownBy w4 none) := Lib.hid (by rw [hw4]; exact grown_drewN w 1 none)
  have HH4 : Hid (GRow w4 lo (.slice (some ⟨g, 0, none⟩) l.length c) l) := Lib.hid (owns_stay HH.out fun k hk => HG4.out.block k (HH.out.lt k hk).2 (by simp))
  have e2 : n - (i + 1) = m := by omega
  have e3 : IntKind.i64.wrap ((i : Int) + 1) = (i : Int) + 1 := by rw [IntKind.wrap_i64]; omega
  have k7 : (i : Int) + 1 ≤ (c : Int) := by omega
  have hmn : m < c - i := by omega
  simp only [List.take_succ_cons, List.take_zero, List.drop_succ_cons, List.drop_zero]
  by_cases hm0 : c = i + 1
  · subst hm0
    clear k4 k6 k7
    have k4 : (n : Int) ≤ (i : Int) + 1 := by omega
    obtain ⟨w5, hr5, ho5, hg5⟩ := append_del HH4.out (i := i) (m := m) (by rw [HN.out]; exact hm) ⟨g, 0, none⟩ (fun h => by omega) 0 54
    have HR5 := Lib.hid hr5
    obtain ⟨w6, hr6, ho6, hg6⟩ := clear_end ho5 (by omega) 0
    have q5 : n - (i + m) = 1 := by omega
    rw [← q5] at hr6
    have HO6 := Lib.hid ho6
    have HG6 : Hid (w.grownBy w6 (some g)) := Lib.hid (grown_trans (grown_trans (grown_any HG4.out _) hg5) hg6)
    have HL6 : Hid ((l.eraseIdx i).length = i + m) := Lib.hid (by rw [List.length_eraseIdx, HN.out, if_pos hi]; omega)
    clear hw4 hr5 ho5 hg5 ho6 hg6 HH HH4 HG4 q5
    have q1 : (0 : Int) ≤ (i : Int) + (m : Int) := by omega
    have q2 : (i : Int) + (m : Int) ≤ (n : Int) := by omega
    have q3 : (n : Int) ≤ (i : Int) + 1 := by omega
    have q4 : ¬ (i : Int) + 1 = (i : Int) + (m : Int) := by omega
    repeat still_step
    refine wpStill_nil ?_
    go_wp2_with (at_builtin; refine append_run rfl (.tmp 22) (.tmp 25) 54 rfl rfl rfl HR5.out ?_)
    go_ret
    refine ⟨rfl, ?_, HG6.out⟩
    unfold GRow
    rw [HL6.out]
    exact HO6.out
  · have k8 : ¬ (c : Int) = (i : Int) + 1 := by omega
    obtain ⟨w5, hr5, ho5, hg5⟩ := append_del HH4.out (i := i) (m := m) (by rw [HN.out]; exact hm) ⟨g, (i + 1) * 2, none⟩ (fun _ => rfl) (c - (i + 1)) 54
    have HR5 := Lib.hid hr5
    obtain ⟨w6, hr6, ho6, hg6⟩ := clear_end ho5 (by omega) 0
    have q5 : n - (i + m) = 1 := by omega
    rw [← q5] at hr6
    have HO6 := Lib.hid ho6
    have HG6 : Hid (w.grownBy w6 (some g)) := Lib.hid (grown_trans (grown_trans (grown_any HG4.out _) hg5) hg6)
    have HL6 : Hid ((l.eraseIdx i).length = i + m) := Lib.hid (by rw [List.length_eraseIdx, HN.out, if_pos hi]; omega)
    clear hw4 hr5 ho5 hg5 ho6 hg6 HH HH4 HG4 q5
    have q1 : (0 : Int) ≤ (i : Int) + (m : Int) := by omega
    have q2 : (i : Int) + (m : Int) ≤ (n : Int) := by omega
    have q3 : (n : Int) ≤ (c : Int) := by omega
    have q4 : ¬ (c : Int) = (i : Int) + (m : Int) := by omega
    repeat still_step
    refine wpStill_nil ?_
    go_wp2_with (at_builtin; refine append_run rfl (.tmp 22) (.tmp 25) 54 rfl rfl rfl HR5.out ?_)
    go_ret
    refine ⟨rfl, ?_, HG6.out⟩
    unfold GRow
    rw [HL6.out]
    exact HO6.out
end
end Go.Proofs.Ythpcjgfbngemiaa
