/-
  What a set's numbers, as a rising list, become when one is put in or dropped; how many are below one; slices that read as such lists.
-/
import Derived.Test.YtjdapbianbikpaaDoorRef2
namespace Go.Proofs.YtjdapbianbikpaaDoor
open Go.ChangeShapes Go.WideShapes Go.ChangeAt Go.RowKit
set_option linter.unusedVariables false
set_option linter.unusedSimpArgs false

/-- numbers, as integers -/
def ci (xs : List Nat) : List Int := xs.map fun n : Nat => (n : Int)
theorem ci_length (xs : List Nat) : (ci xs).length = xs.length := by simp [ci]
theorem zvals_ci (xs : List Nat) : zvals (ci xs) = ivals xs := by simp [zvals, ci, ivals, List.map_map]
theorem ci_get (xs : List Nat) (k : Nat) : (ci xs)[k]?.getD 0 = ((xs[k]?.getD 0 : Nat) : Int) := by
  unfold ci; rw [List.getElem?_map]; cases xs[k]? <;> rfl
theorem ci_inj {xs ys : List Nat} : ci xs = ci ys ↔ xs = ys := by
  unfold ci
  refine ⟨fun h => ?_, fun h => by rw [h]⟩
  exact List.map_inj_right (fun a b h => by omega) |>.1 h
theorem ci_take (xs : List Nat) (k : Nat) : (ci xs).take k = ci (xs.take k) := by simp [ci, List.map_take]
theorem ci_drop (xs : List Nat) (k : Nat) : (ci xs).drop k = ci (xs.drop k) := by simp [ci, List.map_drop]
theorem ci_append (xs ys : List Nat) : ci (xs ++ ys) = ci xs ++ ci ys := by simp [ci]
theorem ci_filter (f : Int → Bool) (xs : List Nat) : (ci xs).filter f = ci (xs.filter fun n => f (n : Int)) := by
  unfold ci; rw [List.filter_map]; rfl
theorem ci_contains (xs : List Nat) (i : Int) : hasB (ci xs) i = (decide (0 ≤ i) && decide (i.toNat ∈ xs)) := by
  unfold hasB ci
  rw [Bool.eq_iff_iff]
  simp only [List.contains_iff_mem, List.mem_map, Bool.and_eq_true, decide_eq_true_eq]
  refine ⟨fun ⟨n, hn, he⟩ => ⟨by omega, by rw [← he]; simpa using hn⟩, fun ⟨h0, h⟩ => ⟨i.toNat, h, by omega⟩⟩

theorem els_take_cn (m : Nat → Bool) {i N : Nat} (h : i ≤ N) : (els m N).take (cn m i) = els m i := by
  obtain ⟨r, hr⟩ := els_prefix m h
  rw [← hr, ← els_length m i, List.take_left']
  rfl
theorem els_drop_cn (m : Nat → Bool) {i N : Nat} (h : i ≤ N) : (els m N).drop (cn m i) = ((List.range (N - i)).map (i + ·)).filter m := by
  obtain ⟨d, rfl⟩ := Nat.exists_eq_add_of_le h
  have e : els m (i + d) = els m i ++ ((List.range d).map (i + ·)).filter m := by
    unfold els; rw [List.range_add, List.filter_append]
  rw [e, ← els_length m i, List.drop_left', Nat.add_sub_cancel_left]
  rfl
theorem els_drop_ge (m : Nat → Bool) {i N : Nat} (h : i ≤ N) : ∀ t ∈ (els m N).drop (cn m i), i ≤ t := by
  rw [els_drop_cn m h]
  intro t ht
  obtain ⟨j, _, rfl⟩ := List.mem_map.1 (List.mem_filter.1 ht).1
  omega
/-- how many of a set's numbers are below one -/
theorem els_below (m : Nat → Bool) (N : Nat) (i : Nat) : ((els m N).filter fun t => decide (t < i)).length = cn m (min i N) := by
  by_cases h : i ≤ N
  · rw [Nat.min_eq_left h, ← List.take_append_drop (cn m i) (els m N), List.filter_append]
    rw [List.filter_eq_self.2, List.filter_eq_nil_iff.2, List.append_nil, els_take_cn m h, els_length]
    · intro t ht; have := els_drop_ge m h t ht; simp; omega
    · intro t ht; rw [els_take_cn m h] at ht; simpa using (els_mem.1 ht).1
  · rw [Nat.min_eq_right (by omega), List.filter_eq_self.2, els_length]
    intro t ht; have := (els_mem.1 ht).1; simp; omega
/-- the place at which a number is put into a rising list -/
theorem place_eq (m : Nat → Bool) {i N k : Nat} (h : i ≤ N) (hk : k ≤ (els m N).length) (h1 : ∀ j, j < k → (els m N)[j]?.getD 0 < i) (h2 : k < (els m N).length → i ≤ (els m N)[k]?.getD 0) : k = cn m i := by
  have hc : cn m i ≤ (els m N).length := by rw [els_length]; exact cn_mono m h
  have lo : ∀ j, j < cn m i → (els m N)[j]?.getD 0 < i := by
    intro j hj
    have : (els m N)[j]? = (els m i)[j]? := by rw [← els_take_cn m h, List.getElem?_take, if_pos hj]
    rw [this, List.getElem?_eq_getElem (by rw [els_length]; exact hj)]
    exact (els_mem.1 (List.getElem_mem _)).1
  have hi : ∀ j, cn m i ≤ j → j < (els m N).length → i ≤ (els m N)[j]?.getD 0 := by
    intro j hj hl
    rw [List.getElem?_eq_getElem hl]
    refine els_drop_ge m h _ ?_
    rw [List.mem_iff_getElem?]
    exact ⟨j - cn m i, by rw [List.getElem?_drop, show cn m i + (j - cn m i) = j by omega, List.getElem?_eq_getElem hl]; rfl⟩
  rcases Nat.lt_trichotomy k (cn m i) with hlt | heq | hgt
  · have a := lo k hlt
    have b := h2 (by omega)
    omega
  · exact heq
  · have a := h1 (cn m i) hgt
    have b := hi (cn m i) (Nat.le_refl _) (by omega)
    omega
/-- one is put in -/
theorem els_with (m : Nat → Bool) {i N : Nat} (h : i < N) : (els m N).take (cn m i) ++ [i] ++ ((els m N).drop (cn m i)).filter (fun t => decide (t ≠ i)) = els (fun j => m j || decide (j = i)) N := by
  rw [els_take_cn m (by omega), els_drop_cn m (by omega)]
  obtain ⟨d, rfl⟩ := Nat.exists_eq_add_of_lt h
  have e1 : els (fun j => m j || decide (j = i)) (i + d + 1) = els (fun j => m j || decide (j = i)) i ++ ((List.range (d + 1)).map (i + ·)).filter (fun j => m j || decide (j = i)) := by
    unfold els; rw [Nat.add_assoc, List.range_add, List.filter_append]
  have e0 : els (fun j => m j || decide (j = i)) i = els m i := els_congr fun j hj => by
    have : j ≠ i := by omega
    simp [this]
  rw [e1, e0]
  rw [List.append_assoc]
  congr 1
  rw [show i + d + 1 - i = d + 1 by omega, List.range_succ_eq_map, List.map_cons, Nat.add_zero, List.filter_cons, List.filter_cons]
  simp only [List.map_map]
  have key : ∀ (f g : Nat → Bool), (∀ j, f (i + (j + 1)) = g (i + (j + 1))) → ((List.range d).map ((fun x => i + x) ∘ Nat.succ)).filter f = ((List.range d).map ((fun x => i + x) ∘ Nat.succ)).filter g := by
    intro f g hfg
    refine List.filter_congr fun t ht => ?_
    obtain ⟨j, _, rfl⟩ := List.mem_map.1 ht
    exact hfg j
  have e2 : ((List.range d).map ((fun x => i + x) ∘ Nat.succ)).filter (fun j => m j || decide (j = i)) = ((List.range d).map ((fun x => i + x) ∘ Nat.succ)).filter m :=
    key _ _ fun j => by simp
  cases hm : m i with
  | true => simp [hm, e2]; exact key _ _ fun j => by simp
  | false => simp [hm, e2]; exact key _ _ fun j => by simp
/-- one is dropped -/
theorem els_without (m : Nat → Bool) (i N : Nat) : (els m N).filter (fun t => decide (t ≠ i)) = els (fun j => m j && !decide (j = i)) N := by
  unfold els
  rw [List.filter_filter]
  refine List.filter_congr fun j _ => ?_
  by_cases h : j = i <;> simp [h]

/-! ### slices that read as such lists -/
/-- the slice v, whose row (if it has one) lies from base on, reads as the numbers xs -/
def NatRow (base : Nat) (W : World) (v : Value) (xs : List Nat) : Prop := W.ownsRow base 3 1 v xs.length (ivals xs)
theorem NatRow.slice {base : Nat} {W : World} {v : Value} {xs : List Nat} (h : NatRow base W v xs) : ∃ A cap, v = .slice A xs.length cap ∧ RowAt .i64 (fun b => base ≤ b) W A (ci xs) ∧ xs.length ≤ cap := by
  rcases h.2 with ⟨rfl, h0⟩ | ⟨g, cap, cur, rfl, hbg, hgb, hlc, hcm, hcs, htk⟩
  · have : xs = [] := List.eq_nil_of_length_eq_zero h0
    subst this
    exact ⟨none, 0, rfl, .inl rfl, Nat.le_refl _⟩
  · refine ⟨_, cap, rfl, .inr ⟨g, 0, rfl, (Array.getElem?_eq_some_iff.1 hgb).1, hbg, fun i hi => ?_⟩, hlc⟩
    rw [ci_length] at hi
    have hc := World.ownsRow.cells h (g := g) rfl i (.int .i64 ((xs[i]?.getD 0 : Nat) : Int)) (by
      unfold ivals; rw [List.getElem?_map, List.getElem?_eq_getElem hi]; rfl)
    rw [Go.WideShapes.add_plain] at hc
    rw [hc, ci_get]
theorem NatRow.kept {base : Nat} {W W' : World} {v : Value} {xs : List Nat} {row : Option Nat} (h : NatRow base W v xs) (hg : W.grownBy W' row) (hr : ∀ r, row = some r → r < base) : NatRow base W' v xs := by
  refine World.ownsRow.kept h hg ?_
  rcases h.2 with ⟨rfl, _⟩ | ⟨g, cap, cur, rfl, hbg, _⟩
  · exact .inl rfl
  · refine .inr fun e => ?_
    have := hr g e.symm; omega
theorem NatRow.of_list {w W : World} {base : Nat} {v : Value} {xs : List Nat} (h : W.ownsRow w.heap.size 3 1 v (ci xs).length (zvals (ci xs))) (hb : base ≤ w.heap.size) : NatRow base W v xs := by
  rw [zvals_ci, ci_length] at h
  exact owns_base h hb
theorem NatRow.nil (base : Nat) (W : World) : NatRow base W (.slice none 0 0) [] := World.ownsRow_nil _ _ _ _
theorem RowAt.take {S : Nat → Prop} {W : World} {A : Option Addr} {zs : List Int} (h : RowAt .i64 S W A zs) (k : Nat) : RowAt .i64 S W A (zs.take k) := by
  rcases h with rfl | ⟨b, off, rfl, hlt, hS, hc⟩
  · left; simp
  · right
    refine ⟨b, off, rfl, hlt, hS, fun i hi => ?_⟩
    rw [List.length_take] at hi
    rw [hc i (by omega), List.getElem?_take, if_pos (by omega)]
end Go.Proofs.YtjdapbianbikpaaDoor
