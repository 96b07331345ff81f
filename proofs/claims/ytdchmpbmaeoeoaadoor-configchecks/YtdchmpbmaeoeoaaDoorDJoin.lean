/-
  Words joined.
-/
import Derived.Test.YtdchmpbmaeoeoaaDoorDRow
import Derived.Test.YtdchmpbmaeoeoaaDoorLayJ
import Derived.Shelf.Strings.OnBuilder
namespace Go.Proofs.YtdchmpbmaeoeoaaDoor
open Go.Shelf Go.RowKit Go.Sort
open Go.Lib hiding intOf
set_option linter.unusedVariables false
theorem lJx : Builder.Extra Tryd.prog lJ_ren where
  sizeBuilder := by kernel_rfl
  liesBuilder := by kernel_rfl
  t5 := Tryd.underlying5
  a5 := Tryd.isAgg5
  z5 := Tryd.sizeOf5
  v5 := Tryd.zeroValue5
  infoByte := by kernel_rfl
  cellsByte := by kernel_rfl
  sizeByte := by kernel_rfl
  neB5 := by decide
theorem join32_none (A : Option Addr) (cap : Nat) (w : World) : Calls Tryd.prog 30 #[.slice A 0 cap, .string ⟨#[32]⟩] w fun e w' => e = .returned (.string (mkS (join [] [32]))) ∧ Below w.heap.size w w' := by
  have c0 : Calls Tryd.prog 30 #[.slice A 0 cap, .string ⟨#[32]⟩] w fun e w' => e = .returned (.string ⟨#[]⟩) ∧ w' = w := Any.strings_Join_none lJ lJx A cap ⟨#[32]⟩ w
  exact c0.mono fun e w' ⟨h1, h2⟩ => ⟨h1, h2 ▸ Below.refl _ _⟩
theorem join32_some (b off cap : Nat) (xs : List ByteArray) (w : World) (hc : ∀ (j : Nat) x, xs[j]? = some x → w.cell? ⟨b, off + j, none⟩ = some (.string x)) (hb : b < w.heap.size) (h1 : xs.length ≤ 100000) (h2 : xs.length ≤ cap)
    (h3 : (join (xs.map (·.data.toList)) [32]).length ≤ 1000000) : Calls Tryd.prog 30 #[.slice (some ⟨b, off, none⟩) xs.length cap, .string ⟨#[32]⟩] w fun e w' => e = .returned (.string (mkS (join (xs.map (·.data.toList)) [32]))) ∧ Below w.heap.size w w' :=
  Any.strings_Join lJ lJx b off cap xs ⟨#[32]⟩ w hc hb (Nat.le_trans h1 (by decide)) h2 (Nat.le_trans h3 (by decide))
theorem join32_at (l : List (List UInt8)) (A : Option Addr) (cap : Nat) (hcap : l.length ≤ cap) (hlen : (join l [32]).length ≤ 1000000) (h50 : l.length ≤ 100000) (w : World) (h : SRow w A l) :
    Calls Tryd.prog 30 #[.slice A l.length cap, .string ⟨#[32]⟩] w fun e w' => e = .returned (.string (mkS (join l [32]))) ∧ Below w.heap.size w w' := by
  by_cases h0 : l.length = 0
  · have hl := List.length_eq_zero_iff.1 h0
    subst hl
    exact join32_none A cap w
  · rcases h with e | ⟨b, off, rfl, hc⟩
    · rw [e] at h0; exact absurd rfl h0
    · have c := join32_some b off cap (l.map mkS) w (fun j x hx => by
        have hj : j < l.length := by have := (List.getElem?_eq_some_iff.1 hx).1; simpa using this
        rw [hc j hj]
        rw [List.getElem?_map, List.getElem?_eq_getElem hj] at hx
        injection hx with hx
        rw [← hx]) (by exact Lib.lt_of_cell (hc 0 (by omega))) (by rw [List.length_map]; exact h50) (by rw [List.length_map]; exact hcap) (by rw [map_mkS]; exact hlen)
      rw [map_mkS, List.length_map] at c
      exact c
/-- the program's Join -/
theorem join_at (l : List (List UInt8)) (A : Option Addr) (n cap : Nat) (hn : n = l.length) (hcap : n ≤ cap) (hlen : (join l [32]).length ≤ 1000000) (h50 : n ≤ 100000) (w : World) (h : SRow w A l) (t : ByteArray) (ht : t = mkS (join l [32])) :
    Calls Tryd.prog 24 #[.slice A n cap] w fun e w' => e = .returned (.string t) ∧ Below w.heap.size w w' := by
  have c : Calls Tryd.prog 30 #[.slice A n cap, .string ⟨#[32]⟩] w fun e w' => e = .returned (.string t) ∧ Below w.heap.size w w' := by
    subst hn ht
    exact join32_at l A cap hcap hlen h50 w h
  clear h ht hlen hn hcap h50
  go_enter Tryd.func24, Tryd.ntmps24
  go_wp2_with fail
  refine c.mono ?_
  rintro e w' ⟨rfl, hb⟩
  go_wp2
  go_ret
  exact ⟨rfl, hb⟩
end Go.Proofs.YtdchmpbmaeoeoaaDoor
