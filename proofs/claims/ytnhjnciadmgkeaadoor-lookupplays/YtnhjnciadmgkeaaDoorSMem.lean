/-
  A row of numbers in which two are exchanged again and again: what it has, and when it is sorted. No program is named here.
-/
import Derived.Test.YtnhjnciadmgkeaaDoorMem
namespace Go.Proofs.YtnhjnciadmgkeaaDoor
open Go.RowKit
set_option linter.unusedVariables false

/-- the row -/
def DAt (w : World) (g n : Nat) (d : Nat → Int) : Prop :=
  ∃ cur : Array Value, w.heap[g]? = some (.cells cur 23 (0, 0)) ∧ n ≤ cur.size ∧ ∀ i, i < n → cur[i]? = some (.int .u64 (d i))
/-- two are exchanged -/
def sw (d : Nat → Int) (i j : Nat) : Nat → Int := fun k => if k = j then d i else if k = i then d j else d k
section
variable {w w' : World} {g n : Nat} {d : Nat → Int}
theorem DAt.cell (h : DAt w g n d) {i : Nat} (hi : i < n) : w.cell? ⟨g, i, none⟩ = some (.int .u64 (d i)) := by
  obtain ⟨cur, h1, h2, h3⟩ := h
  rw [cell_of_head h1]; exact h3 i hi
theorem DAt.free (h : DAt w g n d) (i : Nat) : w.frozen? ⟨g, i, none⟩ = false := by
  obtain ⟨cur, h1, h2, h3⟩ := h
  exact frozen_of_head h1 i
theorem DAt.lt (h : DAt w g n d) : g < w.heap.size := by
  obtain ⟨cur, h1, _⟩ := h
  exact (Array.getElem?_eq_some_iff.1 h1).1
theorem DAt.stay (h : DAt w g n d) (hb : w'.heap[g]? = w.heap[g]?) : DAt w' g n d := by
  obtain ⟨cur, h1, h2, h3⟩ := h
  exact ⟨cur, hb.trans h1, h2, h3⟩
theorem DAt.kept (h : DAt w g n d) (hg : w.grownBy w' none) : DAt w' g n d := h.stay (hg.block g h.lt (by simp))
theorem DAt.store (h : DAt w g n d) (i : Nat) (x : Int) : DAt (w.setCell ⟨g, i, none⟩ (.int .u64 x)) g n (fun k => if k = i then x else d k) := by
  obtain ⟨cur, h1, h2, h3⟩ := h
  refine ⟨cur.setIfInBounds i (.int .u64 x), heap_setCell_same w _ _ cur 23 _ h1, by simpa using h2, fun j hj => ?_⟩
  rw [Array.getElem?_setIfInBounds]
  by_cases hji : i = j
  · subst hji; rw [if_pos rfl, if_pos (by omega)]; simp
  · have hji' : ¬ j = i := fun e => hji e.symm
    rw [if_neg hji, h3 j hj]; simp [hji']
/-- an exchange as it is stored -/
theorem DAt.swap (h : DAt w g n d) (i j : Nat) : DAt ((w.setCell ⟨g, i, none⟩ (.int .u64 (d j))).setCell ⟨g, j, none⟩ (.int .u64 (d i))) g n (sw d i j) := by
  have := (h.store i (d j)).store j (d i)
  exact this
/-- nothing turns but the row -/
abbrev SW (g : Nat) (w w' : World) : Prop := But (fun k => k = g) w w'
theorem SW.swap (w : World) (g i j : Nat) (x y : Value) : SW g w ((w.setCell ⟨g, i, none⟩ x).setCell ⟨g, j, none⟩ y) := (But.of_set (X := fun k => k = g) w g i x rfl).trans (But.of_set (X := fun k => k = g) _ g j y rfl)
theorem SW.drewN (w : World) (g q : Nat) : SW g w (w.drewN q) := But.of_new (grown_drewN w q none)
end

/-- exchanges within a and b, one behind the other -/
inductive PR (a b : Nat) (d : Nat → Int) : (Nat → Int) → Prop
  | refl : PR a b d d
  | step {d' : Nat → Int} {i j : Nat} : PR a b d d' → a ≤ i → i < b → a ≤ j → j < b → PR a b d (sw d' i j)
section
variable {a b a' b' : Nat} {d d' d'' : Nat → Int}
theorem PR.trans (h : PR a b d d') (k : PR a b d' d'') : PR a b d d'' := by
  induction k with
  | refl => exact h
  | step _ h1 h2 h3 h4 ih => exact ih.step h1 h2 h3 h4
theorem PR.wide (h : PR a b d d') (ha : a' ≤ a) (hb : b ≤ b') : PR a' b' d d' := by
  induction h with
  | refl => exact .refl
  | step _ h1 h2 h3 h4 ih => exact ih.step (by omega) (by omega) (by omega) (by omega)
theorem PR.one {i j : Nat} (h1 : a ≤ i) (h2 : i < b) (h3 : a ≤ j) (h4 : j < b) : PR a b d (sw d i j) := PR.refl.step h1 h2 h3 h4
theorem PR.out (h : PR a b d d') {k : Nat} (hk : ¬ (a ≤ k ∧ k < b)) : d' k = d k := by
  induction h with
  | refl => rfl
  | step _ h1 h2 h3 h4 ih => unfold sw; rw [if_neg (by rintro rfl; omega), if_neg (by rintro rfl; omega)]; exact ih
/-- what all have, all have -/
theorem PR.all (h : PR a b d d') {P : Int → Prop} (hp : ∀ k, a ≤ k → k < b → P (d k)) : ∀ k, a ≤ k → k < b → P (d' k) := by
  induction h with
  | refl => exact hp
  | step _ h1 h2 h3 h4 ih =>
    intro k hk1 hk2
    unfold sw
    split
    · exact ih _ h1 h2
    · split
      · exact ih _ h3 h4
      · exact ih k hk1 hk2
theorem PR.mem (h : PR a b d d') {k : Nat} (h1 : a ≤ k) (h2 : k < b) : ∃ m, a ≤ m ∧ m < b ∧ d' k = d m :=
  h.all (P := fun x => ∃ m, a ≤ m ∧ m < b ∧ x = d m) (fun m hm1 hm2 => ⟨m, hm1, hm2, rfl⟩) k h1 h2
end
def vals (d : Nat → Int) (n : Nat) : List Int := (List.range n).map d
theorem vals_sw (d : Nat → Int) {i j n : Nat} (hi : i < n) (hj : j < n) : (vals (sw d i j) n).Perm (vals d n) := by
  rw [List.perm_iff_count]
  intro x
  have key : ∀ (m : Nat) (d : Nat → Int), (vals d m).count x = ((List.range m).filter fun k => d k == x).length := by
    intro m d
    unfold vals
    rw [List.count, List.countP_map, List.countP_eq_length_filter]; rfl
  rw [key, key]
  by_cases hij : i = j
  · subst hij
    congr 2
    funext k
    unfold sw
    by_cases hk : k = i
    · subst hk; simp
    · simp [hk]
  · -- the places are exchanged
    have hfun : ∀ k, sw d i j k = d (if k = j then i else if k = i then j else k) := by
      intro k; unfold sw; split
      · rfl
      · split <;> rfl
    let s : Nat → Nat := fun k => if k = j then i else if k = i then j else k
    have hss : ∀ k, s (s k) = k := by
      intro k
      show (if (if k = j then i else if k = i then j else k) = j then i else if (if k = j then i else if k = i then j else k) = i then j else (if k = j then i else if k = i then j else k)) = k
      by_cases h1 : k = j
      · subst h1; simp [hij]
      · by_cases h2 : k = i
        · subst h2; simp [h1]
        · simp [h1, h2]
    have hs : ∀ k, s k < n ↔ k < n := by
      intro k
      show (if k = j then i else if k = i then j else k) < n ↔ _
      by_cases h1 : k = j
      · subst h1; simp [hi, hj]
      · by_cases h2 : k = i
        · subst h2; simp [h1, hi, hj]
        · simp [h1, h2]
    have hperm : (((List.range n).filter fun k => sw d i j k == x).map s).Perm ((List.range n).filter fun k => d k == x) := by
      rw [List.perm_ext_iff_of_nodup]
      · intro y
        simp only [List.mem_map, List.mem_filter, List.mem_range, hfun]
        constructor
        · rintro ⟨k, ⟨h1, h2⟩, rfl⟩
          exact ⟨(hs k).2 h1, h2⟩
        · rintro ⟨h1, h2⟩
          refine ⟨s y, ⟨(hs y).2 h1, ?_⟩, hss y⟩
          have : (if s y = j then i else if s y = i then j else s y) = y := hss y
          rw [this]; exact h2
      · refine List.pairwise_map.2 (List.Pairwise.imp ?_ (List.Pairwise.filter _ List.nodup_range))
        intro u v huv e
        exact huv (by rw [← hss u, ← hss v, e])
      · exact List.Pairwise.filter _ List.nodup_range
    have := hperm.length_eq
    rwa [List.length_map] at this
theorem PR.perm {n : Nat} {d d' : Nat → Int} (h : PR 0 n d d') : (vals d' n).Perm (vals d n) := by
  induction h with
  | refl => exact List.Perm.refl _
  | step _ h1 h2 h3 h4 ih => exact (vals_sw _ h2 h4).trans ih

/-- rising from a to b -/
def Srt (a b : Nat) (d : Nat → Int) : Prop := ∀ i j, a ≤ i → i ≤ j → j < b → d i ≤ d j
theorem Srt.of_next {a b : Nat} {d : Nat → Int} (h : ∀ i, a ≤ i → i + 1 < b → d i ≤ d (i + 1)) : Srt a b d := by
  intro i j hi hij hj
  induction j with
  | zero => rw [show i = 0 by omega]; exact Int.le_refl _
  | succ j ih =>
    by_cases he : i = j + 1
    · rw [he]; exact Int.le_refl _
    · exact Int.le_trans (ih (by omega) (by omega)) (h j (by omega) hj)
theorem Srt.vals {n : Nat} {d : Nat → Int} (h : Srt 0 n d) : (vals d n).Pairwise (· ≤ ·) := by
  unfold YtnhjnciadmgkeaaDoor.vals
  rw [List.pairwise_map]
  refine List.Pairwise.imp_of_mem ?_ (List.pairwise_lt_range (n := n))
  intro i j hi hj hij
  exact h i j (Nat.zero_le _) (by omega) (List.mem_range.1 hj)
end Go.Proofs.YtnhjnciadmgkeaaDoor
