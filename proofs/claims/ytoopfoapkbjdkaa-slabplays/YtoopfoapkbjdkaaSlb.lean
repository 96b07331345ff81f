/-
  A slab as one would say it: places with turns, and those that were freed. No program is named here.
-/
import Derived.Test.YtoopfoapkbjdkaaMid
namespace Go.Proofs.Ytoopfoapkbjdkaa
set_option linter.unusedVariables false

/-- what a place has -/
structure Spot (α : Type) where
  turn : Nat
  stands : Bool
  has : α
structure Slb (α : Type) where
  most : Nat
  c : Nat
  L : List (Spot α)
  fr : List Nat

def Spot.cells {α : Type} (enc : α → List Value) (s : Spot α) : List Value := .int .u32 (s.turn : Int) :: .bool s.stands :: enc s.has

structure Good {α : Type} (S : Slb α) : Prop where
  nodup : S.fr.Nodup
  mem : ∀ p, p ∈ S.fr ↔ ∃ s, S.L[p]? = some s ∧ s.stands = false
  count : S.L.countP (fun s => s.stands) + S.fr.length = S.L.length

section
variable {α : Type} {S : Slb α}
def Slb.len (S : Slb α) : Nat := S.L.countP (fun s => s.stands)
theorem Good.len_eq (h : Good S) : S.L.length - S.fr.length = S.len := by have := h.count; unfold Slb.len; omega
theorem Good.fr_le (h : Good S) : S.fr.length ≤ S.L.length := by have := h.count; omega

def Slb.free (S : Slb α) (z : α) (p : Nat) : Slb α :=
  match S.L[p]? with
  | some s => { S with L := S.L.set p ⟨s.turn, false, z⟩, fr := S.fr ++ [p] }
  | none => S
def Slb.set (S : Slb α) (p : Nat) (v : α) : Slb α :=
  match S.L[p]? with
  | some s => { S with L := S.L.set p ⟨s.turn, s.stands, v⟩ }
  | none => S
/-- where the next node is to stand, and its turn -/
def Slb.place (S : Slb α) : Nat := (S.fr.getLast?).getD S.L.length
def Slb.turn (S : Slb α) (p : Nat) : Nat := match S.L[p]? with | some s => s.turn | none => 0
def Slb.alloc (S : Slb α) (v : α) : Slb α :=
  match S.fr.getLast? with
  | some p => { S with L := S.L.set p ⟨S.turn p + 1, true, v⟩, fr := S.fr.dropLast }
  | none => { S with L := S.L ++ [⟨1, true, v⟩] }
/-- the node at a place -/
def Slb.node (S : Slb α) (p : Int) : Option (Spot α) := if 0 ≤ p then (S.L[p.toNat]?).filter (fun s => s.stands) else none

theorem node_some {p : Int} {s : Spot α} : S.node p = some s ↔ 0 ≤ p ∧ S.L[p.toNat]? = some s ∧ s.stands = true := by
  unfold Slb.node
  by_cases h0 : 0 ≤ p
  · rw [if_pos h0, Option.filter_eq_some_iff]; simp [h0]
  · rw [if_neg h0]; simp [h0]

theorem countP_set' {β : Type} {f : β → Bool} {l : List β} {p : Nat} {x y : β} (h : l[p]? = some x) : (l.set p y).countP f + (if f x then 1 else 0) = l.countP f + (if f y then 1 else 0) := by
  obtain ⟨hp, hx⟩ := List.getElem?_eq_some_iff.1 h
  subst hx
  rw [List.countP_set hp]
  have : (if f l[p] = true then 1 else 0) ≤ l.countP f := by
    split
    · next hf => exact List.countP_pos_iff.2 ⟨_, List.getElem_mem hp, hf⟩
    · omega
  omega

theorem Good.free (h : Good S) (z : α) {p : Nat} {s : Spot α} (hp : S.L[p]? = some s) (hs : s.stands = true) : Good (S.free z p) := by
  have hl := (List.getElem?_eq_some_iff.1 hp).1
  have hnf : p ∉ S.fr := fun hm => by
    obtain ⟨s', h1, h2⟩ := (h.mem p).1 hm
    rw [hp] at h1; cases h1; rw [hs] at h2; cases h2
  unfold Slb.free
  rw [hp]
  refine ⟨?_, fun q => ?_, ?_⟩
  · refine List.nodup_append.2 ⟨h.nodup, by simp, ?_⟩
    intro a ha b hb e
    simp at hb
    subst hb; subst e; exact hnf ha
  · simp only [List.mem_append, List.mem_singleton]
    rw [List.getElem?_set]
    by_cases hq : p = q
    · subst hq; simp [hl]
    · rw [if_neg hq, ← h.mem q]
      constructor
      · rintro (h' | h')
        · exact h'
        · exact absurd h'.symm hq
      · exact .inl
  · have := countP_set' (f := fun s : Spot α => s.stands) (y := ⟨s.turn, false, z⟩) hp
    have hc := h.count
    simp only [hs, if_true] at this
    simp only [List.length_set, List.length_append, List.length_cons, List.length_nil]
    simp at this ⊢
    omega
theorem Good.set (h : Good S) {p : Nat} (v : α) : Good (S.set p v) := by
  unfold Slb.set
  cases hp : S.L[p]? with
  | none => exact h
  | some s =>
    have hl := (List.getElem?_eq_some_iff.1 hp).1
    refine ⟨h.nodup, fun q => ?_, ?_⟩
    · simp only
      rw [h.mem q, List.getElem?_set]
      by_cases hq : p = q
      · subst hq; rw [hp, if_pos rfl, if_pos hl]; simp
      · rw [if_neg hq]
    · have := countP_set' (f := fun s : Spot α => s.stands) (y := ⟨s.turn, s.stands, v⟩) hp
      have hc := h.count
      simp only [List.length_set]
      simp only at this
      omega
theorem Good.place_lt (h : Good S) {p : Nat} (hp : S.fr.getLast? = some p) : ∃ s, S.L[p]? = some s ∧ s.stands = false :=
  (h.mem p).1 (List.mem_of_getLast? hp)
theorem Good.alloc (h : Good S) (v : α) : Good (S.alloc v) := by
  unfold Slb.alloc
  cases hf : S.fr.getLast? with
  | none =>
    have he : S.fr = [] := List.getLast?_eq_none_iff.1 hf
    refine ⟨h.nodup, fun q => ?_, ?_⟩
    · simp only
      rw [h.mem q, List.getElem?_append]
      constructor
      · rintro ⟨s, h1, h2⟩
        have := (List.getElem?_eq_some_iff.1 h1).1
        exact ⟨s, by rw [if_pos this]; exact h1, h2⟩
      · rintro ⟨s, h1, h2⟩
        by_cases hq : q < S.L.length
        · rw [if_pos hq] at h1; exact ⟨s, h1, h2⟩
        · rw [if_neg hq] at h1
          cases hqq : q - S.L.length with
          | zero => rw [hqq] at h1; simp at h1; subst h1; cases h2
          | succ n => rw [hqq] at h1; simp at h1
    · have hc := h.count
      simp only [List.countP_append, List.length_append, List.length_cons, List.length_nil]
      simp
      omega
  | some p =>
    obtain ⟨s, hp, hs⟩ := h.place_lt hf
    have hl := (List.getElem?_eq_some_iff.1 hp).1
    obtain ⟨fr', hfr⟩ : ∃ fr', S.fr = fr' ++ [p] := List.getLast?_eq_some_iff.1 hf
    have hn := h.nodup
    rw [hfr, List.nodup_append] at hn
    have hpn : p ∉ fr' := fun hm => hn.2.2 p hm p (by simp) rfl
    refine ⟨?_, fun q => ?_, ?_⟩
    · simp only [hfr, List.dropLast_concat]; exact hn.1
    · simp only [hfr, List.dropLast_concat]
      rw [List.getElem?_set]
      by_cases hq : p = q
      · subst hq; rw [if_pos rfl, if_pos hl]; simp [hpn]
      · rw [if_neg hq, ← h.mem q, hfr]
        simp only [List.mem_append, List.mem_singleton]
        constructor
        · exact .inl
        · rintro (h' | h')
          · exact h'
          · exact absurd h'.symm hq
    · have := countP_set' (f := fun s : Spot α => s.stands) (y := ⟨S.turn p + 1, true, v⟩) hp
      have hc := h.count
      rw [hfr] at hc
      simp only [hs] at this
      simp only [hfr, List.dropLast_concat, List.length_set, List.length_append, List.length_cons, List.length_nil] at hc ⊢
      simp at this
      omega
theorem alloc_len (S : Slb α) (v : α) : (S.alloc v).most = S.most ∧ (S.alloc v).c = S.c := by unfold Slb.alloc; split <;> exact ⟨rfl, rfl⟩
theorem free_len (S : Slb α) (z : α) (p : Nat) : (S.free z p).most = S.most ∧ (S.free z p).c = S.c := by unfold Slb.free; split <;> exact ⟨rfl, rfl⟩
theorem set_len (S : Slb α) (p : Nat) (v : α) : (S.set p v).most = S.most ∧ (S.set p v).c = S.c := by unfold Slb.set; split <;> exact ⟨rfl, rfl⟩
end
end Go.Proofs.Ytoopfoapkbjdkaa
