/-
  The document's answers on the rising list of a set's numbers.
-/
import Derived.Test.YtjdapbianbikpaaDoorLists
namespace Go.Proofs.YtjdapbianbikpaaDoor
open Go.ChangeShapes Go.WideShapes Go.ChangeAt Go.RowKit
set_option linter.unusedVariables false

/-- a new slice that reads as these numbers -/
def NewList (base : Nat) (w : World) (xs : List Nat) (e : Ending) (w' : World) : Prop := ∃ v, e = .returned v ∧ NatRow base w' v xs ∧ w.grownBy w' none
theorem els_le (m : Nat → Bool) {N : Nat} (h : N ≤ 65536) : (els m N).length ≤ 1000000 := by rw [els_length]; have := cn_le m N; omega
theorem withN_at (base base' N : Nat) (m : Nat → Bool) (v : Value) (i : Int) (w : World) (h : NatRow base w v (els m N)) (hN : N ≤ 65536) (h0 : 0 ≤ i) (hi : i < N) (hb : base' ≤ w.heap.size) :
    Calls Tryd.prog 14 #[v, .int .i64 i] w (NewList base' w (els (fun j => m j || decide (0 ≤ i ∧ i < (N : Int) ∧ j = i.toNat)) N)) := by
  obtain ⟨A, cap, rfl, hr, _⟩ := h.slice
  have hc := with_at _ A cap (ci (els m N)) i w hr (by rw [ci_length]; exact els_le m hN)
  rw [ci_length] at hc
  refine hc.mono ?_
  rintro e w' ⟨k, hk, h1, h2, v', rfl, ho, hg⟩
  rw [ci_length] at hk h2
  have hkc : k = cn m i.toNat := place_eq m (by omega) hk (fun j hj => by have := h1 j hj; rw [ci_get] at this; omega) (fun hl => by have := h2 hl; rw [ci_get] at this; omega)
  have e : withL (ci (els m N)) i k = ci (els (fun j => m j || decide (0 ≤ i ∧ i < (N : Int) ∧ j = i.toNat)) N) := by
    unfold withL
    rw [ci_take, ci_drop, ci_filter, hkc]
    have e1 : ([i] : List Int) = ci [i.toNat] := by simp [ci]; omega
    have e2 : (fun n : Nat => decide ((n : Int) ≠ i)) = fun n : Nat => decide (n ≠ i.toNat) := by
      funext n; exact decide_eq_decide.2 (by omega)
    have e3 : (fun j => m j || decide (0 ≤ i ∧ i < (N : Int) ∧ j = i.toNat)) = fun j => m j || decide (j = i.toNat) := by
      funext j; congr 1; exact decide_eq_decide.2 (by omega)
    rw [e1, e2, e3, ← ci_append, ← ci_append, els_with m (by omega)]
  rw [e] at ho
  exact ⟨v', rfl, NatRow.of_list ho hb, hg⟩
theorem withoutN_at (base base' N : Nat) (m : Nat → Bool) (v : Value) (i : Int) (w : World) (h : NatRow base w v (els m N)) (hN : N ≤ 65536) (hb : base' ≤ w.heap.size) :
    Calls Tryd.prog 12 #[v, .int .i64 i] w (NewList base' w (els (fun j => m j && !decide (0 ≤ i ∧ j = i.toNat)) N)) := by
  obtain ⟨A, cap, rfl, hr, _⟩ := h.slice
  have hc := without_at _ A cap (ci (els m N)) i w hr (by rw [ci_length]; exact els_le m hN)
  rw [ci_length] at hc
  refine hc.mono ?_
  rintro e w' ⟨v', rfl, ho, hg⟩
  have e : (ci (els m N)).filter (fun z => decide (z ≠ i)) = ci (els (fun j => m j && !decide (0 ≤ i ∧ j = i.toNat)) N) := by
    rw [ci_filter]
    congr 1
    by_cases h0 : 0 ≤ i
    · have e2 : (fun n : Nat => decide ((n : Int) ≠ i)) = fun n : Nat => decide (n ≠ i.toNat) := by
        funext n; exact decide_eq_decide.2 (by omega)
      have e3 : (fun j => m j && !decide (0 ≤ i ∧ j = i.toNat)) = fun j => m j && !decide (j = i.toNat) := by
        funext j; congr 2; exact decide_eq_decide.2 (by omega)
      rw [e2, e3, els_without]
    · have e3 : (fun j => m j && !decide (0 ≤ i ∧ j = i.toNat)) = m := by
        funext j; simp [h0]
      rw [e3, List.filter_eq_self]
      intro t _; simp; omega
  rw [e] at ho
  exact ⟨v', rfl, NatRow.of_list ho hb, hg⟩
theorem intsN_at (ba bb : Nat) (va vb : Value) (xs ys : List Nat) (w : World) (ha : NatRow ba w va xs) (hb : NatRow bb w vb ys) (hx : xs.length ≤ 1000000) (hy : ys.length ≤ 1000000) :
    Calls Tryd.prog 21 #[va, vb] w fun e w' => e = .returned (.bool (decide (xs = ys))) ∧ ∃ q, w' = w.drewN q := by
  obtain ⟨A, ca, rfl, hra, _⟩ := ha.slice
  obtain ⟨B, cb, rfl, hrb, _⟩ := hb.slice
  have h := ints_at _ _ A B ca cb (ci xs) (ci ys) w hra hrb (by rw [ci_length]; exact hx) (by rw [ci_length]; exact hy)
  rw [ci_length, ci_length, show decide (ci xs = ci ys) = decide (xs = ys) from decide_eq_decide.2 ci_inj] at h
  exact h
theorem rrankN_at (ba : Nat) (va : Value) (m : Nat → Bool) (N : Nat) (i : Int) (w : World) (ha : NatRow ba w va (els m N)) (hN : N ≤ 65536) :
    Calls Tryd.prog 27 #[va, .int .i64 i] w fun e w' => e = .returned (.int .i64 ((cn m (min i.toNat N) : Nat) : Int)) ∧ w = w' := by
  obtain ⟨A, ca, rfl, hra, _⟩ := ha.slice
  have h := rrank_at _ A ca (ci (els m N)) i w hra (by rw [ci_length]; exact els_le m hN)
  rw [ci_length, ci_filter, ci_length] at h
  have e : (fun n : Nat => decide ((n : Int) < i)) = fun n : Nat => decide (n < i.toNat) := by
    funext n; exact decide_eq_decide.2 (by omega)
  rw [e, els_below] at h
  exact h
theorem rhasN_at (ba : Nat) (va : Value) (m : Nat → Bool) (N : Nat) (i : Int) (w : World) (ha : NatRow ba w va (els m N)) (hN : N ≤ 65536) (ho : ∀ j, N ≤ j → m j = false) :
    Calls Tryd.prog 28 #[va, .int .i64 i] w fun e w' => e = .returned (.bool (decide (0 ≤ i) && m i.toNat)) ∧ w = w' := by
  obtain ⟨A, ca, rfl, hra, _⟩ := ha.slice
  have h := rhas_at _ A ca (ci (els m N)) i w hra (by rw [ci_length]; exact els_le m hN)
  rw [ci_length, ci_contains] at h
  have e : decide (i.toNat ∈ els m N) = m i.toNat := by
    rw [Bool.eq_iff_iff, decide_eq_true_eq, els_mem]
    refine ⟨fun h => h.2, fun h => ⟨?_, h⟩⟩
    refine Classical.byContradiction fun hn => ?_
    rw [ho _ (by omega)] at h; cases h
  rw [e] at h
  exact h
end Go.Proofs.YtjdapbianbikpaaDoor
