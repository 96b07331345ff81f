/-
  The keys of a table are those that it finds, each once. No function is walked here.
-/
import Derived.Test.YtnhjnciadmgkeaaDoorKeys
namespace Go.Proofs.YtnhjnciadmgkeaaDoor
open Go.RowKit
set_option linter.unusedVariables false
theorem kcat_mem {bk : Nat → List Ent} {x : Int} : ∀ {n : Nat}, x ∈ kcat bk n ↔ ∃ e, inB bk n e ∧ e.key = x
  | 0 => ⟨(fun h => nomatch h), (fun ⟨e, ⟨i, hi, _⟩, _⟩ => absurd hi (Nat.not_lt_zero i))⟩
  | n + 1 => by
    show x ∈ kcat bk n ++ (bk n).map (·.key) ↔ _
    rw [List.mem_append, kcat_mem (n := n), List.mem_map]
    constructor
    · rintro (⟨e, ⟨i, hi, hm⟩, he⟩ | ⟨e, hm, he⟩)
      · exact ⟨e, ⟨i, by omega, hm⟩, he⟩
      · exact ⟨e, ⟨n, by omega, hm⟩, he⟩
    · rintro ⟨e, ⟨i, hi, hm⟩, he⟩
      by_cases hin : i = n
      · subst hin; exact .inr ⟨e, hm, he⟩
      · exact .inl ⟨e, ⟨i, by omega, hm⟩, he⟩
section
variable {w : World} {lo g k : Nat} {bk : Nat → List Ent}
theorem Arr.kcat_nodup (h : Arr w lo g k bk) : ∀ {n : Nat}, n ≤ 2 ^ k → (kcat bk n).Nodup
  | 0, _ => List.nodup_nil
  | n + 1, hn => by
    show (kcat bk n ++ (bk n).map (·.key)).Nodup
    rw [List.nodup_append]
    refine ⟨h.kcat_nodup (n := n) (by omega), h.nd n (by omega), fun x hx y hy e => ?_⟩
    obtain ⟨e1, ⟨i, hi, hm⟩, hk1⟩ := kcat_mem.1 hx
    obtain ⟨e2, hm2, hk2⟩ := List.mem_map.1 hy
    have a1 := h.sl i (by omega) e1 hm
    have a2 := h.sl n (by omega) e2 hm2
    rw [hk1] at a1
    rw [hk2, ← e] at a2
    omega
end
section
variable {w : World} {lo b gN gO : Nat} {T : Tb}
theorem keys_mem (h : TAt w lo b gN gO T) {key : Int} (hk : Wd key) : key ∈ T.keys ↔ (T.look key).isSome = true := by
  have k3 := h.k3
  have k30 := h.k30
  unfold Tb.keys Tb.look
  rw [List.mem_append, kcat_mem, kcat_mem, Option.isSome_map]
  constructor
  · rintro (⟨e, he, rfl⟩ | ⟨e, he, rfl⟩)
    · unfold Tb.fnd
      rw [h.now.in_fnd he]; rfl
    · unfold Tb.fnd
      cases hj : T.o with
      | none =>
        rw [so_none hj] at he
        obtain ⟨i, hi, _⟩ := he
        exact absurd hi (Nat.not_lt_zero i)
      | some j =>
        rw [so_some hj] at he
        rw [fo_some hj, (h.old j hj).arr.in_fnd he]
        cases fndB T.k T.bn e.key <;> rfl
  · intro hs
    obtain ⟨e, he⟩ := Option.isSome_iff_exists.1 hs
    obtain ⟨h1, h2⟩ := fnd_in h hk he
    rcases h1 with h1 | h1
    · exact .inl ⟨e, h1, h2⟩
    · exact .inr ⟨e, h1, h2⟩
theorem keys_nodup (h : TAt w lo b gN gO T) : T.keys.Nodup := by
  unfold Tb.keys
  rw [List.nodup_append]
  refine ⟨h.now.kcat_nodup (Nat.le_refl _), ?_, fun x hx y hy e => ?_⟩
  · cases hj : T.o with
    | none => rw [so_none hj]; exact List.nodup_nil
    | some j => rw [so_some hj]; exact (h.old j hj).arr.kcat_nodup (Nat.le_refl _)
  · obtain ⟨e1, h1, hk1⟩ := kcat_mem.1 hx
    obtain ⟨e2, h2, hk2⟩ := kcat_mem.1 hy
    cases hj : T.o with
    | none =>
      rw [so_none hj] at h2
      obtain ⟨i, hi, _⟩ := h2
      exact absurd hi (Nat.not_lt_zero i)
    | some j =>
      rw [so_some hj] at h2
      exact (h.old j hj).dis e1 e2 h1 h2 (by rw [hk1, hk2, e])
/-- two rising rows of the same numbers, each once, are one -/
theorem sorted_one {xs ys : List Int} (hx : xs.Pairwise (· < ·)) (hy : ys.Pairwise (· < ·)) (hm : ∀ x, x ∈ xs ↔ x ∈ ys) : xs = ys := by
  induction xs generalizing ys with
  | nil =>
    cases ys with
    | nil => rfl
    | cons y t => exact absurd ((hm y).2 (by simp)) (by simp)
  | cons x s ih =>
    cases ys with
    | nil => exact absurd ((hm x).1 (by simp)) (by simp)
    | cons y t =>
      rw [List.pairwise_cons] at hx hy
      have h1 : x = y := by
        have a := (hm x).1 (by simp)
        have b := (hm y).2 (by simp)
        rcases List.mem_cons.1 a with a | a
        · exact a
        · rcases List.mem_cons.1 b with b | b
          · exact b.symm
          · have := hx.1 y b
            have := hy.1 x a
            omega
      subst h1
      rw [ih hx.2 hy.2 fun z => ?_]
      have := hm z
      simp only [List.mem_cons] at this
      constructor
      · intro hz
        rcases this.1 (.inr hz) with e | e
        · have := hx.1 z hz; omega
        · exact e
      · intro hz
        rcases this.2 (.inr hz) with e | e
        · have := hy.1 z hz; omega
        · exact e
/-- a sorted row of unlike numbers rises -/
theorem rises {zs : List Int} (h : zs.Pairwise (· ≤ ·)) (hn : zs.Nodup) : zs.Pairwise (· < ·) :=
  (h.and hn).imp fun ⟨h1, h2⟩ => by have : _ ≠ _ := h2; omega
end
end Go.Proofs.YtnhjnciadmgkeaaDoor
