/-
  A handle that is stale stays stale: the plain facts.
-/
import Derived.Test.YtoopfoapkbjdkaaActs
namespace Go.Proofs.Ytoopfoapkbjdkaa
set_option linter.unusedVariables false

def Turns (S : SI) (n : Nat) : Prop := ∀ s ∈ S.L, s.turn ≤ n
structure Stale (S : SI) : Prop where
  zero : ∃ s, S.L[0]? = some s ∧ 1 ≤ s.turn ∧ (s.stands = true → 2 ≤ s.turn)

section
variable {S : SI} {n : Nat}
theorem Turns.at (h : Turns S n) (p : Nat) : S.turn p ≤ n := by
  unfold Slb.turn
  cases hp : S.L[p]? with
  | none => exact Nat.zero_le _
  | some s => exact h s (List.mem_of_getElem? hp)
theorem Turns.mono (h : Turns S n) {m : Nat} (hm : n ≤ m) : Turns S m := fun s hs => Nat.le_trans (h s hs) hm
theorem Turns.alloc (h : Turns S n) (v : Int) : Turns (S.alloc v) (n + 1) := by
  unfold Slb.alloc
  cases hf : S.fr.getLast? with
  | none =>
    intro s hs
    rcases List.mem_append.1 hs with hs | hs
    · have := h s hs; omega
    · simp at hs; subst hs; simp
  | some p =>
    intro s hs
    rcases mem_set_of hs with hs | rfl
    · have := h s hs; omega
    · have := h.at p; simp; omega
theorem Turns.free (h : Turns S n) (p : Nat) : Turns (S.free 0 p) n := by
  unfold Slb.free
  cases hp : S.L[p]? with
  | none => exact h
  | some s0 =>
    intro s hs
    rcases mem_set_of hs with hs | rfl
    · exact h s hs
    · exact h s0 (List.mem_of_getElem? hp)
theorem Turns.set (h : Turns S n) (p : Nat) (v : Int) : Turns (S.set p v) n := by
  unfold Slb.set
  cases hp : S.L[p]? with
  | none => exact h
  | some s0 =>
    intro s hs
    rcases mem_set_of hs with hs | rfl
    · exact h s hs
    · exact h s0 (List.mem_of_getElem? hp)
theorem Stale.names (h : Stale S) : S.names 0 1 = none := by
  obtain ⟨s, h1, h2, h3⟩ := h.zero
  cases hn : S.names 0 1 with
  | none => rfl
  | some s' =>
    obtain ⟨ha, hb⟩ := names_some.1 hn
    obtain ⟨_, hc, hd⟩ := node_some.1 ha
    rw [show (0 : Int).toNat = 0 from rfl, h1] at hc
    cases hc
    have := h3 hd
    omega
theorem Stale.alloc (h : Stale S) (v : Int) : Stale (S.alloc v) := by
  obtain ⟨s, h1, h2, h3⟩ := h.zero
  have hl := (List.getElem?_eq_some_iff.1 h1).1
  unfold Slb.alloc
  cases hf : S.fr.getLast? with
  | none => exact ⟨s, by simp only; rw [List.getElem?_append_left hl]; exact h1, h2, h3⟩
  | some p =>
    by_cases hp : p = 0
    · subst hp
      have ht : S.turn 0 = s.turn := by unfold Slb.turn; rw [h1]
      refine ⟨⟨s.turn + 1, true, v⟩, ?_, by simp, fun _ => by simp; omega⟩
      simp only
      rw [List.getElem?_set, if_pos rfl, if_pos hl, ht]
    · exact ⟨s, by simp only; rw [List.getElem?_set, if_neg hp]; exact h1, h2, h3⟩
theorem Stale.free (h : Stale S) (p : Nat) : Stale (S.free 0 p) := by
  obtain ⟨s, h1, h2, h3⟩ := h.zero
  have hl := (List.getElem?_eq_some_iff.1 h1).1
  unfold Slb.free
  cases hp : S.L[p]? with
  | none => exact h
  | some s0 =>
    by_cases h0 : p = 0
    · subst h0
      rw [h1] at hp; cases hp
      exact ⟨⟨s.turn, false, 0⟩, by simp only; rw [List.getElem?_set, if_pos rfl, if_pos hl], h2, fun h => by cases h⟩
    · exact ⟨s, by simp only; rw [List.getElem?_set, if_neg h0]; exact h1, h2, h3⟩
theorem Stale.place (h : Stale S) (h0 : S.place = 0) : 2 ≤ S.turn S.place + 1 := by
  obtain ⟨s, h1, h2, h3⟩ := h.zero
  rw [h0]
  unfold Slb.turn
  rw [h1]
  simp only
  omega
theorem alloc_names (hg : Good S) (v : Int) : (S.alloc v).names (S.place : Int) ((S.turn S.place + 1 : Nat) : Int) = some ⟨S.turn S.place + 1, true, v⟩ := by
  refine names_some.2 ⟨node_some.2 ⟨by omega, ?_, rfl⟩, rfl⟩
  rw [Int.toNat_natCast]
  unfold Slb.alloc Slb.place
  cases hf : S.fr.getLast? with
  | none =>
    have ht : S.turn S.L.length = 0 := by unfold Slb.turn; rw [List.getElem?_eq_none (Nat.le_refl _)]
    simp only [Option.getD_none, ht]
    rw [List.getElem?_append_right (Nat.le_refl _), Nat.sub_self]; rfl
  | some p =>
    obtain ⟨s, h1, _⟩ := hg.place_lt hf
    have hl := (List.getElem?_eq_some_iff.1 h1).1
    simp only [Option.getD_some]
    rw [List.getElem?_set, if_pos rfl, if_pos hl]
theorem place_le (hg : Good S) : S.place ≤ S.L.length := by
  unfold Slb.place
  cases hf : S.fr.getLast? with
  | none => exact Nat.le_refl _
  | some p =>
    obtain ⟨s, h1, _⟩ := hg.place_lt hf
    have hl := (List.getElem?_eq_some_iff.1 h1).1
    exact Nat.le_of_lt hl
end
end Go.Proofs.Ytoopfoapkbjdkaa
