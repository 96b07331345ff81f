/-
  Counts' words and their text, plain.
-/
import Derived.Test.YthgecgehelnadaaDoorRefC
import Derived.Test.YthgecgehelnadaaDoorDRefN
namespace Go.Proofs.YthgecgehelnadaaDoor
open Go.Shelf Go.RowKit Go.Sort
open Go.Lib hiding intOf
set_option linter.unusedVariables false
/-- the numbers are such of 64 bits -/
def U64s (c : List Int) : Prop := ∀ x ∈ c, 0 ≤ x ∧ x < 18446744073709551616
/-- the words of the first k numbers -/
def wk (l : List (List UInt8)) (c : List Int) (k : Nat) : List (List UInt8) := ((List.zipWith (fun x y => [x, decDigits y.toNat]) l c).take k).flatten
theorem wk_zero (l : List (List UInt8)) (c : List Int) : wk l c 0 = [] := rfl
theorem wk_succ (l : List (List UInt8)) (c : List Int) (h : c.length = l.length) (k : Nat) (hk : k < l.length) : wk l c (k + 1) = (wk l c k ++ [l[k]]) ++ [decDigits (c[k]'(by omega)).toNat] := by
  have hz : k < (List.zipWith (fun x y => [x, decDigits y.toNat]) l c).length := by simp [h]; omega
  rw [wk, List.take_add_one, List.getElem?_eq_getElem hz]
  simp [wk]
theorem wk_len (l : List (List UInt8)) (c : List Int) (h : c.length = l.length) : ∀ k, k ≤ l.length → (wk l c k).length = 2 * k
  | 0, _ => rfl
  | k + 1, hk => by
    rw [wk_succ l c h k (by omega)]
    simp only [List.length_append, List.length_singleton, wk_len l c h k (by omega)]
    omega
theorem wk_mem (l : List (List UInt8)) (c : List Int) (h : c.length = l.length) (k : Nat) (hk : k ≤ l.length) (x : List UInt8) (hx : x ∈ wk l c k) : x ∈ l ∨ ∃ y ∈ c, x = decDigits y.toNat := by
  induction k with
  | zero => cases hx
  | succ k ih =>
    rw [wk_succ l c h k (by omega)] at hx
    simp only [List.mem_append, List.mem_singleton] at hx
    rcases hx with (hx | rfl) | rfl
    · exact ih (by omega) hx
    · exact .inl (List.getElem_mem _)
    · exact .inr ⟨_, List.getElem_mem _, rfl⟩
theorem lens_le : ∀ r : List (List UInt8), (∀ x ∈ r, x.length ≤ 1000) → lens r ≤ 1000 * r.length
  | [], _ => by simp [lens]
  | x :: r, h => by
    have h1 := lens_le r (fun y hy => h y (by simp [hy]))
    have h2 := h x (by simp)
    have : lens (x :: r) = x.length + lens r := by simp [lens]
    rw [this, List.length_cons]
    omega
theorem join_le (l : List (List UInt8)) (h : ∀ x ∈ l, x.length ≤ 1000) : (join l [32]).length ≤ 1001 * l.length := by
  cases l with
  | nil => simp [join_nil]
  | cons x r =>
    have h1 := lens_le (x :: r) h
    rw [join_length]
    simp only [List.length_cons, List.length_nil] at *
    omega
theorem nms_small : ∀ x ∈ nms, x.length ≤ 1000 ∧ ∀ c ∈ x, c ≠ 32 := by decide
theorem dec_small1000 {y : Int} (h : 0 ≤ y ∧ y < 18446744073709551616) : (decDigits y.toNat).length ≤ 1000 := by
  have := dec_len y.toNat (by omega)
  omega
theorem wk_small (c : List Int) (h : c.length = 10) (hc : U64s c) (k : Nat) (hk : k ≤ 10) : ∀ x ∈ wk nms c k, x.length ≤ 1000 ∧ ∀ b ∈ x, b ≠ 32 := fun x hx => by
  rcases wk_mem nms c h k hk x hx with hx | ⟨y, hy, rfl⟩
  · exact nms_small x hx
  · refine ⟨dec_small1000 (hc y hy), fun b hb e => ?_⟩
    have := dec_digits _ b hb
    subst e
    exact absurd this.1 (by decide)
/-- the words of counts -/
def W (c : List Int) : List (List UInt8) := wk nms c 10
theorem W_len (c : List Int) (h : c.length = 10) : (W c).length = 20 := wk_len nms c h 10 (Nat.le_refl _)
theorem W_join (c : List Int) (h : c.length = 10) (hc : U64s c) (k : Nat) (hk : k ≤ 10) : (join (wk nms c k) [32]).length ≤ 30000 := by
  have := join_le _ (fun x hx => (wk_small c h hc k hk x hx).1)
  rw [wk_len nms c h k hk] at this
  omega
/-- the text of counts -/
def ptx (c : List Int) : ByteArray := mkS (join (W c) [32])
theorem wds_ptx (c : List Int) (h : c.length = 10) (hc : U64s c) : wds (ptx c).data.toList = W c := by
  rw [ptx, mkS_list]
  refine join_wds _ (fun e => ?_) (fun x hx => (wk_small c h hc 10 (Nat.le_refl _) x hx).2)
  have := W_len c h
  rw [e] at this
  cases this
theorem W_even (c : List Int) (h : c.length = 10) (k : Nat) (hk : k < 10) : (W c)[2 * k]'(by rw [W_len c h]; omega) = nms[k]'hk ∧ (W c)[2 * k + 1]'(by rw [W_len c h]; omega) = decDigits (c[k]'(by omega)).toNat := by
  have hk' : k = 0 ∨ k = 1 ∨ k = 2 ∨ k = 3 ∨ k = 4 ∨ k = 5 ∨ k = 6 ∨ k = 7 ∨ k = 8 ∨ k = 9 := by omega
  obtain ⟨a0, a1, a2, a3, a4, a5, a6, a7, a8, a9, rfl⟩ := ten_list c h
  rcases hk' with rfl | rfl | rfl | rfl | rfl | rfl | rfl | rfl | rfl | rfl <;> exact ⟨rfl, rfl⟩
end Go.Proofs.YthgecgehelnadaaDoor
