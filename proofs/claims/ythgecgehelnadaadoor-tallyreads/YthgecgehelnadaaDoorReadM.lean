/-
  Which counts a text's words are, plain.
-/
import Derived.Test.YthgecgehelnadaaDoorText
import Derived.Test.YthgecgehelnadaaDoorDRead
namespace Go.Proofs.YthgecgehelnadaaDoor
open Go.Shelf Go.RowKit Go.Sort
open Go.Lib hiding intOf
set_option linter.unusedVariables false
def rdAt (ws : List (List UInt8)) (j : Nat) : Option Nat := rd (ws.getD (2 * j + 1) [])
def okAt (ws : List (List UInt8)) (j : Nat) : Prop := ws.getD (2 * j) [] = nms.getD j [] ∧ (rdAt ws j).isSome = true
def Good (ws : List (List UInt8)) : Prop := ws.length = 20 ∧ ∀ j, j < 10 → okAt ws j
def numAt (ws : List (List UInt8)) (j : Nat) : Int := (((rdAt ws j).getD 0 : Nat) : Int)
def nums (ws : List (List UInt8)) : List Int := (List.range 10).map (numAt ws)
theorem nums_len (ws : List (List UInt8)) : (nums ws).length = 10 := by simp [nums]
theorem nums_get (ws : List (List UInt8)) (j : Nat) (h : j < 10) : (nums ws)[j]'(by rw [nums_len]; exact h) = numAt ws j := by simp [nums]
theorem numAt_u64 (ws : List (List UInt8)) (j : Nat) : 0 ≤ numAt ws j ∧ numAt ws j < 18446744073709551616 := by
  unfold numAt
  cases e : rdAt ws j with
  | none => simp
  | some u =>
    have := rd_lt e
    simp only [Option.getD_some]
    omega
theorem nums_u64 (ws : List (List UInt8)) : U64s (nums ws) := fun x hx => by
  obtain ⟨j, _, rfl⟩ := List.mem_map.1 hx
  exact numAt_u64 ws j
theorem getD_of {l : List (List UInt8)} {i : Nat} (h : i < l.length) : l.getD i [] = l[i] := by
  rw [List.getD_eq_getElem?_getD, List.getElem?_eq_getElem h]
  rfl
/-- what is good is told so -/
theorem good_W (ws : List (List UInt8)) (h : Good ws) : W (nums ws) = ws := by
  have hl := W_len (nums ws) (nums_len ws)
  refine List.ext_getElem (by rw [hl, h.1]) fun i h1 h2 => ?_
  have hi : i < 20 := by omega
  have hk : i / 2 < 10 := by omega
  obtain ⟨e1, e2⟩ := W_even (nums ws) (nums_len ws) (i / 2) hk
  obtain ⟨g1, g2⟩ := h.2 (i / 2) hk
  rw [nums_get ws _ hk] at e2
  rcases (show i = 2 * (i / 2) ∨ i = 2 * (i / 2) + 1 by omega) with e | e
  · have a1 : ws[i] = ws.getD (2 * (i / 2)) [] := by rw [← e, getD_of h2]
    rw [a1, g1, getD_of (l := nms) hk]
    refine Eq.trans ?_ e1
    congr 1
  · have a1 : ws[i] = ws.getD (2 * (i / 2) + 1) [] := by rw [← e, getD_of h2]
    have a2 : (W (nums ws))[i] = decDigits (numAt ws (i / 2)).toNat := by rw [← e2]; congr 1
    rw [a1]
    refine Eq.trans a2 ?_
    cases e3 : rdAt ws (i / 2) with
    | none => rw [e3] at g2; cases g2
    | some u =>
      have := (rd_some.1 e3).2
      rw [← this, numAt, e3]
      simp
theorem W_good (c : List Int) (hc : c.length = 10) (hu : U64s c) : Good (W c) ∧ nums (W c) = c := by
  have hl := W_len c hc
  have key : ∀ j (hj : j < 10), (W c).getD (2 * j) [] = nms.getD j [] ∧ rdAt (W c) j = some (c[j]'(by omega)).toNat := fun j hj => by
    obtain ⟨e1, e2⟩ := W_even c hc j hj
    refine ⟨by rw [getD_of (by omega), getD_of (l := nms) hj, e1], ?_⟩
    rw [rdAt, getD_of (by omega), e2]
    have := hu _ (List.getElem_mem (show j < c.length by omega))
    exact rd_some.2 ⟨by omega, rfl⟩
  refine ⟨⟨hl, fun j hj => ⟨(key j hj).1, by rw [(key j hj).2]; rfl⟩⟩, ?_⟩
  refine List.ext_getElem (by rw [nums_len, hc]) fun i h1 h2 => ?_
  have hi : i < 10 := by omega
  rw [nums_get _ _ hi, numAt, (key i hi).2]
  have := hu _ (List.getElem_mem h2)
  simp only [Option.getD_some]
  omega
/-- good, or not told so -/
theorem good_iff (s : ByteArray) : Good (wds s.data.toList) ↔ ((wds s.data.toList).length = 20 ∧ ptx (nums (wds s.data.toList)) = s) := by
  constructor
  · intro h
    refine ⟨h.1, ?_⟩
    rw [ptx, good_W _ h, wds_join, mkS_of]
  · rintro ⟨_, h⟩
    have e := wds_ptx (nums (wds s.data.toList)) (nums_len _) (nums_u64 _)
    rw [h] at e
    rw [e]
    exact (W_good _ (nums_len _) (nums_u64 _)).1
end Go.Proofs.YthgecgehelnadaaDoor
