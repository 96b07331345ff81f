/-
  The words of a line.
-/
import Derived.Lib.Split
import Derived.Lib.SplitLaws
import Derived.Lib.IndexBytes
import Derived.Lib.Join
namespace Go.Proofs.YtdchmpbmaeoeoaaDoor
open Go.Lib
set_option linter.unusedVariables false
/-- the words: 'cur' is what stands of the first one -/
def wdsF (cur : List UInt8) : List UInt8 → List (List UInt8)
  | [] => [cur]
  | c :: r => if c = 32 then cur :: wdsF [] r else wdsF (cur ++ [c]) r
def wds (l : List UInt8) : List (List UInt8) := wdsF [] l
theorem idx_cons (c : UInt8) (r : List UInt8) (h : c ≠ 32) : indexByte (c :: r) 32 = if indexByte r 32 = -1 then -1 else indexByte r 32 + 1 := by
  rw [indexByte, if_neg (by simpa using h)]
  by_cases e : indexByte r 32 = -1
  · rw [if_pos (by simpa using e), if_pos e]
  · rw [if_neg (by simpa using e), if_neg e]
theorem wdsF_miss : ∀ (l cur : List UInt8), indexByte l 32 = -1 → wdsF cur l = [cur ++ l]
  | [], cur, h => by simp [wdsF]
  | c :: r, cur, h => by
    by_cases hc : c = 32
    · subst hc; rw [indexByte] at h; simp at h
    · rw [idx_cons c r hc] at h
      split at h
      · rename_i h2
        rw [wdsF, if_neg hc, wdsF_miss r _ h2]
        simp
      · have := indexByte_ge r 32
        omega
theorem wdsF_hit : ∀ (l cur : List UInt8) (i : Nat), indexByte l 32 = i → wdsF cur l = (cur ++ l.take i) :: wdsF [] (l.drop (i + 1))
  | [], cur, i, h => by rw [indexByte] at h; omega
  | c :: r, cur, i, h => by
    by_cases hc : c = 32
    · subst hc
      rw [indexByte] at h
      simp at h
      obtain rfl : i = 0 := by omega
      simp [wdsF]
    · rw [idx_cons c r hc] at h
      split at h
      · omega
      · have hg := indexByte_ge r 32
        obtain ⟨j, rfl⟩ : ∃ j, i = j + 1 := ⟨i - 1, by omega⟩
        rw [wdsF, if_neg hc, wdsF_hit r _ j (by omega)]
        simp
theorem split_wds : ∀ (n : Nat) (l : List UInt8), l.length ≤ n → splitK [32] 0 (count l [32]) l = wds l
  | n, l, hn => by
    by_cases h : index l [32] = -1
    · rw [count_miss h, splitK, wds, wdsF_miss l [] (by rw [← index_one]; exact h)]
      simp
    · have hg := index_ge l [32]
      obtain ⟨i, hi⟩ : ∃ i : Nat, index l [32] = i := ⟨(index l [32]).toNat, by omega⟩
      have hb : indexByte l 32 = i := by rw [← index_one]; exact hi
      rw [count_hit (by simp) hi, Nat.add_comm 1, splitK, if_neg (by simpa using h), hi, wds, wdsF_hit l [] i hb]
      simp only [List.length_singleton, Int.toNat_natCast, List.nil_append, Nat.add_zero]
      congr 1
      cases n with
      | zero =>
        have : l = [] := List.length_eq_zero_iff.1 (Nat.le_zero.1 hn)
        subst this
        rw [indexByte] at hb
        omega
      | succ n =>
        refine split_wds n _ ?_
        rw [List.length_drop]
        cases l with
        | nil => rw [indexByte] at hb; omega
        | cons a r => simp only [List.length_cons] at hn ⊢; omega
theorem wdsF_join : ∀ (l cur : List UInt8), join (wdsF cur l) [32] = cur ++ l
  | [], cur => by simp [wdsF, join_one]
  | c :: r, cur => by
    by_cases hc : c = 32
    · subst hc
      rw [wdsF, if_pos rfl, join_cons]
      have ih := wdsF_join r []
      cases e : wdsF [] r with
      | nil =>
        cases r with
        | nil => simp [wdsF] at e
        | cons x q =>
          rw [e, join_nil] at ih
          simp at ih
      | cons x q =>
        rw [e, join_cons] at ih
        simp only [List.nil_append] at ih
        simp only [joinTail, List.map_cons, List.flatten_cons, List.append_assoc] at ih ⊢
        rw [ih]
        simp
    · rw [wdsF, if_neg hc, wdsF_join r]
      simp
theorem wds_join (l : List UInt8) : join (wds l) [32] = l := wdsF_join l []
theorem wdsF_ne (l cur : List UInt8) : wdsF cur l ≠ [] := by
  induction l generalizing cur with
  | nil => simp [wdsF]
  | cons c r ih => rw [wdsF]; split <;> simp [ih]
theorem wdsF_plain : ∀ (l cur : List UInt8), (wdsF cur l).length = 1 → ∀ c ∈ l, c ≠ 32
  | [], cur, h => by simp
  | c :: r, cur, h => by
    by_cases hc : c = 32
    · rw [wdsF, if_pos hc] at h
      have := wdsF_ne r []
      cases e : wdsF [] r with
      | nil => exact absurd e this
      | cons x q => rw [e] at h; simp at h
    · rw [wdsF, if_neg hc] at h
      intro d hd
      rcases List.mem_cons.1 hd with rfl | hd
      · exact hc
      · exact wdsF_plain r _ h d hd
theorem wds_plain {l : List UInt8} : (wds l).length = 1 → ∀ c ∈ l, c ≠ 32 := wdsF_plain l []
theorem wdsF_app : ∀ (x cur r : List UInt8), (∀ c ∈ x, c ≠ 32) → wdsF cur (x ++ r) = wdsF (cur ++ x) r
  | [], cur, r, h => by simp
  | c :: x, cur, r, h => by
    rw [List.cons_append, wdsF, if_neg (h c (by simp)), wdsF_app x _ r (fun d hd => h d (by simp [hd]))]
    simp
theorem join_wds : ∀ l : List (List UInt8), l ≠ [] → (∀ x ∈ l, ∀ c ∈ x, c ≠ 32) → wds (join l [32]) = l
  | [], h, _ => absurd rfl h
  | [x], h, hx => by
    have := wdsF_app x [] [] (hx x (by simp))
    rw [List.append_nil, List.nil_append] at this
    rw [join_one, wds, this]; rfl
  | x :: y :: r, h, hx => by
    have ih := join_wds (y :: r) (by simp) (fun z hz => hx z (by simp [hz]))
    have e : join (x :: y :: r) [32] = x ++ 32 :: join (y :: r) [32] := by
      rw [join_cons, join_cons]
      simp [joinTail]
    rw [e, wds, wdsF_app x [] _ (hx x (by simp)), wdsF, if_pos rfl]
    rw [wds] at ih
    rw [ih]
    simp
theorem wdsF_len : ∀ (l cur : List UInt8), (wdsF cur l).length = l.count 32 + 1
  | [], cur => by simp [wdsF]
  | c :: r, cur => by
    by_cases hc : c = 32
    · rw [wdsF, if_pos hc, List.length_cons, wdsF_len r, hc, List.count_cons_self]
    · rw [wdsF, if_neg hc, wdsF_len r, List.count_cons_of_ne (by simpa using hc)]
/-- of a line's first places: the words that are done, and what stands of the next one -/
def wdsOf (l : List UInt8) : List (List UInt8) := (wds l).dropLast
def curOf (l : List UInt8) : List UInt8 := (wds l).getLast (wdsF_ne l [])
theorem wdsF_snoc : ∀ (l cur : List UInt8) (c : UInt8), wdsF cur (l ++ [c]) = if c = 32 then wdsF cur l ++ [[]] else (wdsF cur l).dropLast ++ [(wdsF cur l).getLast (wdsF_ne l cur) ++ [c]]
  | [], cur, c => by
    by_cases hc : c = 32
    · simp [wdsF, hc]
    · simp [wdsF, hc]
  | d :: r, cur, c => by
    by_cases hd : d = 32
    · have ih := wdsF_snoc r [] c
      have hn := wdsF_ne r []
      simp only [List.cons_append, wdsF, if_pos hd, ih]
      by_cases hc : c = 32
      · simp [hc]
      · rw [if_neg hc, if_neg hc, List.dropLast_cons_of_ne_nil hn, List.getLast_cons hn]
        rfl
    · have ih := wdsF_snoc r (cur ++ [d]) c
      simp only [List.cons_append, wdsF, if_neg hd, ih]
end Go.Proofs.YtdchmpbmaeoeoaaDoor
