/-
  Blocks are sorted by their places: slices.SortFunc at blocks.
-/
import Derived.Test.YthpcjgfbngemiaaByPlace
namespace Go.Proofs.Ythpcjgfbngemiaa
open Go.ChangeShapes Go.WideShapes Go.ChangeAt Go.RowKit
set_option linter.unusedVariables false
/-- which of two blocks is told first -/
def ltB (a b : Int × Int × Int) : Prop := a.2.1 < b.2.1 ∨ (a.2.1 = b.2.1 ∧ a.1 < b.1)
instance (a b : Int × Int × Int) : Decidable (ltB a b) := inferInstanceAs (Decidable (_ ∨ _))
theorem ltOf_cfB (a b : Int × Int × Int) : ltOf cfB a b = decide (ltB a b) := by
  unfold ltOf cfB orI cmpI ltB
  by_cases h1 : a.2.1 < b.2.1
  · simp [h1]
  · by_cases h2 : b.2.1 < a.2.1
    · have : ¬ a.2.1 = b.2.1 := by omega
      simp [h1, h2, this]
    · have : a.2.1 = b.2.1 := by omega
      by_cases h3 : a.1 < b.1
      · simp [this, h3]
      · by_cases h4 : b.1 < a.1 <;> simp [this, h3, h4]
theorem swoB : Go.Sort.SWO (ltOf cfB) where
  irrefl x := by rw [ltOf_cfB]; simp [ltB]
  trans x y z h1 h2 := by rw [ltOf_cfB] at *; simp only [decide_eq_true_eq] at *; unfold ltB at *; omega
  ntrans x y z h1 h2 := by rw [ltOf_cfB] at *; simp only [decide_eq_false_iff_not] at *; unfold ltB at *; omega
theorem flat_list (l : List (Int × Int × Int)) : (Go.Sort.flatK kenc 3 l.toArray).toList = rvals kenc l := by
  refine List.ext_getElem? fun j => ?_
  by_cases hj : j < l.length * 3
  · have hk : j / 3 < l.length := by omega
    have h1 : l[j / 3]? = some l[j / 3] := List.getElem?_eq_getElem hk
    have h2 := rvals_get kenc_len h1 (j := j % 3) (by omega)
    rw [show j / 3 * 3 + j % 3 = j by omega] at h2
    rw [h2]
    have h3 := Go.Sort.get_flatK kenc 3 l.toArray j (by simpa using hj)
    have hs : j < (Go.Sort.flatK kenc 3 l.toArray).size := by rw [Go.Sort.size_flatK]; simpa using hj
    rw [getElem!_pos (Go.Sort.flatK kenc 3 l.toArray) j hs] at h3
    rw [Array.getElem?_toList, Array.getElem?_eq_getElem hs, h3]
    have e1 : l.toArray[j / 3]! = l[j / 3] := by rw [getElem!_pos l.toArray (j / 3) (by simpa using hk)]; simp
    rw [e1]
    have h4 : j % 3 < (kenc l[j / 3]).length := by rw [kenc_len]; omega
    rw [getElem!_pos (kenc l[j / 3]) (j % 3) h4, List.getElem?_eq_getElem h4]
  · rw [List.getElem?_eq_none (by rw [Array.length_toList, Go.Sort.size_flatK]; simpa using hj), List.getElem?_eq_none (by rw [rvals_len kenc_len]; omega)]
section
variable {w : World} {lo g c : Nat} {l : List (Int × Int × Int)}
def SortPost (w : World) (lo g c : Nat) (l : List (Int × Int × Int)) (e : Ending) (w' : World) : Prop :=
  e = .returned (.tuple #[]) ∧ ∃ l' : List (Int × Int × Int), l'.Perm l ∧ l'.Pairwise (fun a b => ¬ ltB b a) ∧ w'.ownsRow lo 59 3 (.slice (some ⟨g, 0, none⟩) l.length c) l.length (rvals kenc l') ∧ w.grownBy w' (some g)
theorem sort_at (h : w.ownsRow lo 59 3 (.slice (some ⟨g, 0, none⟩) l.length c) l.length (rvals kenc l)) (hn : l.length ≤ 1000000) :
    Calls Try.prog 32 #[.slice (some ⟨g, 0, none⟩) l.length c, .func (.func 33) #[] #[]] w (SortPost w lo g c l) := by
  have eg : ∀ args w, (callFunc 33 args).run Try.prog w = .ok (.enter 33 args) w := enters_of Try.func33 (by kernel_rfl) rfl
  have hH : Go.Sort.HoldsK kenc 3 w g 0 l.toArray := fun j hj => by
    rw [Go.Sort.size_flatK] at hj
    have hj' : j < l.length * 3 := by simpa using hj
    refine ⟨?_, h.frozenAt _⟩
    rw [Nat.zero_add, h.cellAt j hj', ← flat_list]
    have hs : j < (Go.Sort.flatK kenc 3 l.toArray).size := by rw [Go.Sort.size_flatK]; exact hj
    rw [Array.getElem?_toList, Array.getElem?_eq_getElem hs, getElem!_pos (Go.Sort.flatK kenc 3 l.toArray) j hs]; rfl
  have hcon := AnyQ.slices_SortFunc sortB 3 Try.isAgg59 Try.sizeOf59 kenc kenc_len kenc_one cfB swoB 33 #[] g 0 c l.toArray w eg (fun _ _ _ _ x y => byPlace_at x y _) hH (h.lt g rfl).2 (by simp; omega)
  change Calls Try.prog 32 _ _ _ at hcon
  rw [List.size_toArray] at hcon
  refine hcon.mono ?_
  rintro e w' ⟨rfl, d', n, os, hp, hs, rfl⟩
  rcases h.2 with ⟨e, _⟩ | ⟨g', cap', cur, e, hbg, hgb, hnc, hcm, hcs, ht⟩
  · simp at e
  · simp only [Value.slice.injEq, Option.some.injEq, Addr.mk.injEq, and_true, true_and] at e
    obtain ⟨rfl, rfl⟩ := e
    have hsz : d'.size = l.length := by have := hp.1; simpa using this
    have hlt : g < w.heap.size := (h.lt g rfl).2
    refine ⟨rfl, d'.toList, ?_, ?_, ⟨by rw [rvals_len kenc_len, Array.length_toList, hsz], .inr ⟨g, c, Go.Sort.putCells id 0 (Go.Sort.flatK kenc 3 d') cur, rfl, hbg, ?_, hnc, hcm, ?_, ?_⟩⟩, ?_⟩
    · have h3 := hp.2.2
      have e1 : d'.extract 0 l.length = d' := by rw [← hsz]; simp
      have e2 : l.toArray.extract 0 l.length = l.toArray := by simp
      rw [e1, e2] at h3
      simpa using h3
    · refine List.pairwise_iff_getElem.2 fun i j hi hj hij => ?_
      have := hs i j (Nat.zero_le _) hij (by rw [Array.length_toList, hsz] at hj; exact hj)
      rw [ltOf_cfB] at this
      have e1 : d'[i]! = d'.toList[i] := by rw [getElem!_pos d' i (by simpa using hi)]; simp
      have e2 : d'[j]! = d'.toList[j] := by rw [getElem!_pos d' j (by simpa using hj)]; simp
      rw [e1, e2] at this
      simpa using this
    · show ((w.heap.modify g (Go.Sort.onCells (Go.Sort.putCells id 0 (Go.Sort.flatK kenc 3 d')))) ++ os)[g]? = _
      rw [Array.getElem?_append_left (by simpa using hlt), Array.getElem?_modify, if_pos rfl, hgb]
      rfl
    · unfold Go.Sort.putCells; simpa using hcs
    · refine List.ext_getElem? fun j => ?_
      rw [List.getElem?_take]
      by_cases hj : j < l.length * 3
      · rw [if_pos hj]
        have hjc : j < cur.size := by rw [hcs]; have := Nat.mul_le_mul_right 3 hnc; omega
        have hjf : j < (Go.Sort.flatK kenc 3 d').size := by rw [Go.Sort.size_flatK, hsz]; exact hj
        have hfl := flat_list d'.toList
        rw [Array.toArray_toList] at hfl
        rw [← hfl, Array.getElem?_toList, Array.getElem?_toList]
        unfold Go.Sort.putCells
        rw [Array.getElem?_mapIdx, Array.getElem?_eq_getElem hjc, Array.getElem?_eq_getElem hjf]
        simp only [Option.map_some, Nat.zero_le, true_and, Nat.zero_add, Nat.sub_zero]
        rw [if_pos hjf, getElem!_pos (Go.Sort.flatK kenc 3 d') j hjf]; rfl
      · rw [if_neg hj, List.getElem?_eq_none (by rw [rvals_len kenc_len, Array.length_toList, hsz]; omega)]
    · refine ⟨rfl, rfl, rfl, ?_, fun k hk hkr => ?_⟩
      · show w.heap.size ≤ ((w.heap.modify g _) ++ os).size
        simp
      · show ((w.heap.modify g _) ++ os)[k]? = _
        rw [Array.getElem?_append_left (by simpa using hk), Array.getElem?_modify, if_neg (fun e => hkr (by rw [e]))]
end
end Go.Proofs.Ythpcjgfbngemiaa
