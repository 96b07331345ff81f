/-
  Heaps of numbers: exchanges, and what goes up or down. No program is named here.
-/
import Derived.Test.YthpcjgfbngemiaaReach
namespace Go.Proofs.Ythpcjgfbngemiaa
set_option linter.unusedVariables false
def sw (d : Nat → Int) (i j : Nat) : Nat → Int := fun k => if k = j then d i else if k = i then d j else d k
/-- exchanges within a and b, one behind the other -/
inductive PR (a b : Nat) (d : Nat → Int) : (Nat → Int) → Prop
  | refl : PR a b d d
  | step {d' : Nat → Int} {i j : Nat} : PR a b d d' → a ≤ i → i < b → a ≤ j → j < b → PR a b d (sw d' i j)
section
variable {a b a' b' : Nat} {d d' d'' : Nat → Int}
theorem PR.trans (h : PR a b d d') (k : PR a b d' d'') : PR a b d d'' := by
  induction k with
  | refl => exact h
  | step _ h1 h2 h3 h4 ih => exact ih.step h1 h2 h3 h4
theorem PR.wide (h : PR a b d d') (ha : a' ≤ a) (hb : b ≤ b') : PR a' b' d d' := by
  induction h with
  | refl => exact .refl
  | step _ h1 h2 h3 h4 ih => exact ih.step (by omega) (by omega) (by omega) (by omega)
theorem PR.one {i j : Nat} (h1 : a ≤ i) (h2 : i < b) (h3 : a ≤ j) (h4 : j < b) : PR a b d (sw d i j) := PR.refl.step h1 h2 h3 h4
theorem PR.out (h : PR a b d d') {k : Nat} (hk : ¬ (a ≤ k ∧ k < b)) : d' k = d k := by
  induction h with
  | refl => rfl
  | step _ h1 h2 h3 h4 ih => unfold sw; rw [if_neg (by rintro rfl; omega), if_neg (by rintro rfl; omega)]; exact ih
/-- what all have, all have -/
theorem PR.all (h : PR a b d d') {P : Int → Prop} (hp : ∀ k, a ≤ k → k < b → P (d k)) : ∀ k, a ≤ k → k < b → P (d' k) := by
  induction h with
  | refl => exact hp
  | step _ h1 h2 h3 h4 ih =>
    intro k hk1 hk2
    unfold sw
    split
    · exact ih _ h1 h2
    · split
      · exact ih _ h3 h4
      · exact ih k hk1 hk2
theorem PR.mem (h : PR a b d d') {k : Nat} (h1 : a ≤ k) (h2 : k < b) : ∃ m, a ≤ m ∧ m < b ∧ d' k = d m :=
  h.all (P := fun x => ∃ m, a ≤ m ∧ m < b ∧ x = d m) (fun m hm1 hm2 => ⟨m, hm1, hm2, rfl⟩) k h1 h2
end
def vals (d : Nat → Int) (n : Nat) : List Int := (List.range n).map d
theorem vals_sw (d : Nat → Int) {i j n : Nat} (hi : i < n) (hj : j < n) : (vals (sw d i j) n).Perm (vals d n) := by
  rw [List.perm_iff_count]
  intro x
  have key : ∀ (m : Nat) (d : Nat → Int), (vals d m).count x = ((List.range m).filter fun k => d k == x).length := by
    intro m d
    unfold vals
    rw [List.count, List.countP_map, List.countP_eq_length_filter]; rfl
  rw [key, key]
  by_cases hij : i = j
  · subst hij
    congr 2
    funext k
    unfold sw
    by_cases hk : k = i
    · subst hk; simp
    · simp [hk]
  · -- the places are exchanged
    have hfun : ∀ k, sw d i j k = d (if k = j then i else if k = i then j else k) := by
      intro k; unfold sw; split
      · rfl
      · split <;> rfl
    let s : Nat → Nat := fun k => if k = j then i else if k = i then j else k
    have hss : ∀ k, s (s k) = k := by
      intro k
      show (if (if k = j then i else if k = i then j else k) = j then i else if (if k = j then i else if k = i then j else k) = i then j else (if k = j then i else if k = i then j else k)) = k
      by_cases h1 : k = j
      · subst h1; simp [hij]
      · by_cases h2 : k = i
        · subst h2; simp [h1]
        · simp [h1, h2]
    have hs : ∀ k, s k < n ↔ k < n := by
      intro k
      show (if k = j then i else if k = i then j else k) < n ↔ _
      by_cases h1 : k = j
      · subst h1; simp [hi, hj]
      · by_cases h2 : k = i
        · subst h2; simp [h1, hi, hj]
        · simp [h1, h2]
    have hperm : (((List.range n).filter fun k => sw d i j k == x).map s).Perm ((List.range n).filter fun k => d k == x) := by
      rw [List.perm_ext_iff_of_nodup]
      · intro y
        simp only [List.mem_map, List.mem_filter, List.mem_range, hfun]
        constructor
        · rintro ⟨k, ⟨h1, h2⟩, rfl⟩
          exact ⟨(hs k).2 h1, h2⟩
        · rintro ⟨h1, h2⟩
          refine ⟨s y, ⟨(hs y).2 h1, ?_⟩, hss y⟩
          have : (if s y = j then i else if s y = i then j else s y) = y := hss y
          rw [this]; exact h2
      · refine List.pairwise_map.2 (List.Pairwise.imp ?_ (List.Pairwise.filter _ List.nodup_range))
        intro u v huv e
        exact huv (by rw [← hss u, ← hss v, e])
      · exact List.Pairwise.filter _ List.nodup_range
    have := hperm.length_eq
    rwa [List.length_map] at this
theorem PR.perm {n : Nat} {d d' : Nat → Int} (h : PR 0 n d d') : (vals d' n).Perm (vals d n) := by
  induction h with
  | refl => exact List.Perm.refl _
  | step _ h1 h2 h3 h4 ih => exact (vals_sw _ h2 h4).trans ih


def Heap (n : Nat) (d : Nat → Int) : Prop := ∀ i, 0 < i → i < n → d ((i - 1) / 2) ≤ d i
theorem Heap.least {n : Nat} {d : Nat → Int} (h : Heap n d) : ∀ i, i < n → d 0 ≤ d i := by
  intro i
  induction i using Nat.strongRecOn with
  | _ i ih =>
    intro hi
    by_cases h0 : i = 0
    · rw [h0]; exact Int.le_refl _
    · exact Int.le_trans (ih ((i - 1) / 2) (by omega) (by omega)) (h i (by omega) hi)
/-- a heap but for the place j, which is to go up -/
structure HUp (n j : Nat) (d : Nat → Int) : Prop where
  rest : ∀ i, 0 < i → i < n → i ≠ j → d ((i - 1) / 2) ≤ d i
  kids : ∀ i, 0 < i → i < n → (i - 1) / 2 = j → 0 < j → d ((j - 1) / 2) ≤ d i
theorem HUp.start {n : Nat} {d : Nat → Int} (h : Heap n d) : HUp (n + 1) n d := ⟨fun i h1 h2 h3 => h i h1 (by omega), fun i h1 h2 h3 h4 => by omega⟩
theorem HUp.step {n j : Nat} {d : Nat → Int} (h : HUp n j d) (h0 : 0 < j) (hj : j < n) (hl : d j < d ((j - 1) / 2)) : HUp n ((j - 1) / 2) (sw d ((j - 1) / 2) j) := by
  have hne : (j - 1) / 2 ≠ j := by omega
  have e1 : sw d ((j - 1) / 2) j j = d ((j - 1) / 2) := by simp [sw]
  have e2 : sw d ((j - 1) / 2) j ((j - 1) / 2) = d j := by simp [sw, hne]
  have e3 : ∀ k, k ≠ j → k ≠ (j - 1) / 2 → sw d ((j - 1) / 2) j k = d k := fun k h1 h2 => by simp [sw, h1, h2]
  refine ⟨fun i h1 h2 h3 => ?_, fun i h1 h2 h3 h4 => ?_⟩
  · by_cases hi : i = j
    · subst hi; rw [e1, e2]; omega
    · rw [e3 i hi h3]
      by_cases hp : (i - 1) / 2 = j
      · rw [hp, e1]; exact h.kids i h1 h2 hp h0
      · by_cases hp2 : (i - 1) / 2 = (j - 1) / 2
        · rw [hp2, e2]
          have := h.rest i h1 h2 hi
          rw [hp2] at this; omega
        · rw [e3 _ hp hp2]; exact h.rest i h1 h2 hi
  · have hq : ((j - 1) / 2 - 1) / 2 ≠ j := by omega
    have hq2 : ((j - 1) / 2 - 1) / 2 ≠ (j - 1) / 2 := by omega
    rw [e3 _ hq hq2]
    have hp := h.rest ((j - 1) / 2) h4 (by omega) hne
    by_cases hi : i = j
    · subst hi; rw [e1]; exact hp
    · rw [e3 i hi (by omega)]
      have := h.rest i h1 h2 hi
      rw [h3] at this; omega
theorem HUp.done {n j : Nat} {d : Nat → Int} (h : HUp n j d) (he : j = 0 ∨ d ((j - 1) / 2) ≤ d j) : Heap n d := fun i h1 h2 => by
  by_cases hi : i = j
  · subst hi
    rcases he with he | he
    · omega
    · exact he
  · exact h.rest i h1 h2 hi
/-- a heap but for the place i, which is to go down -/
structure HDn (n i : Nat) (d : Nat → Int) : Prop where
  rest : ∀ k, 0 < k → k < n → (k - 1) / 2 ≠ i → d ((k - 1) / 2) ≤ d k
  kids : ∀ k, 0 < k → k < n → (k - 1) / 2 = i → 0 < i → d ((i - 1) / 2) ≤ d k
theorem HDn.start {n : Nat} {d : Nat → Int} (h : Heap (n + 1) d) : HDn n 0 (sw d 0 n) := by
  refine ⟨fun k h1 h2 h3 => ?_, fun k h1 h2 h3 h4 => by omega⟩
  have e : ∀ q, q ≠ 0 → q ≠ n → sw d 0 n q = d q := fun q h1 h2 => by simp [sw, h1, h2]
  rw [e k (by omega) (by omega), e _ h3 (by omega)]
  exact h k h1 (by omega)
theorem HDn.step {n i j : Nat} {d : Nat → Int} (h : HDn n i d) (hj0 : 0 < j) (hj : j < n) (hp : (j - 1) / 2 = i) (hmin : ∀ k, 0 < k → k < n → (k - 1) / 2 = i → d j ≤ d k) (hl : d j < d i) : HDn n j (sw d i j) := by
  have hne : i ≠ j := by omega
  have e1 : sw d i j j = d i := by simp [sw]
  have e2 : sw d i j i = d j := by simp [sw, hne]
  have e3 : ∀ k, k ≠ j → k ≠ i → sw d i j k = d k := fun k h1 h2 => by simp [sw, h1, h2]
  refine ⟨fun k h1 h2 h3 => ?_, fun k h1 h2 h3 h4 => ?_⟩
  · by_cases hk : (k - 1) / 2 = i
    · rw [hk, e2]
      by_cases hkj : k = j
      · subst hkj; rw [e1]; omega
      · rw [e3 k hkj (by omega)]; exact hmin k h1 h2 hk
    · rw [e3 _ h3 hk]
      by_cases hki : k = i
      · subst hki; rw [e2]
        exact h.kids j hj0 hj hp h1
      · rw [e3 k (by rintro rfl; exact hk hp) hki]; exact h.rest k h1 h2 hk
  · rw [hp, e2, e3 k (by omega) (by omega)]
    have := h.rest k h1 h2 (by omega)
    rw [h3] at this; exact this
theorem HDn.done {n i : Nat} {d : Nat → Int} (h : HDn n i d) (hd : ∀ k, 0 < k → k < n → (k - 1) / 2 = i → d i ≤ d k) : Heap n d := fun k h1 h2 => by
  by_cases hk : (k - 1) / 2 = i
  · rw [hk]; exact hd k h1 h2 hk
  · exact h.rest k h1 h2 hk
theorem vals_len (d : Nat → Int) (n : Nat) : (vals d n).length = n := by unfold vals; simp
theorem vals_get (d : Nat → Int) {i n : Nat} (h : i < n) : (vals d n)[i]? = some (d i) := by
  unfold vals
  rw [List.getElem?_map, List.getElem?_range h]; rfl
theorem vals_of (l : List Int) : vals (fun i => l[i]?.getD 0) l.length = l := by
  refine List.ext_getElem? fun i => ?_
  by_cases h : i < l.length
  · rw [vals_get _ h, List.getElem?_eq_getElem h]; simp
  · rw [List.getElem?_eq_none (by rw [vals_len]; omega), List.getElem?_eq_none (by omega)]
theorem vals_succ (d : Nat → Int) (n : Nat) : vals d (n + 1) = vals d n ++ [d n] := by
  unfold vals
  rw [List.range_succ, List.map_append]; rfl
end Go.Proofs.Ythpcjgfbngemiaa
