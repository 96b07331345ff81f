/-
  The document's vault: its rows; Used, Find, number, ahead.
-/
import Derived.Test.YthpcjgfbngemiaaGet
import Derived.Test.YthpcjgfbngemiaaHeap
import Derived.Test.YthpcjgfbngemiaaAddGap
import Derived.LoopTactic
namespace Go.Proofs.Ythpcjgfbngemiaa
open Go.ChangeShapes Go.WideShapes Go.ChangeAt Go.RowKit
set_option linter.unusedVariables false
set_option maxRecDepth 100000
abbrev RB := Int × Int × ByteArray
/-- the slice at A reads as the document's blocks -/
def RRow (w : World) (A : Option Addr) (l : List RB) : Prop :=
  l = [] ∨ ∃ g off, A = some ⟨g, off, none⟩ ∧ ∀ i x, l[i]? = some x → w.cell? ⟨g, off + i * 3, none⟩ = some (.int .i64 x.1) ∧ w.cell? ⟨g, off + i * 3 + 1, none⟩ = some (.int .i64 x.2.1) ∧ w.cell? ⟨g, off + i * 3 + 2, none⟩ = some (.string x.2.2)
theorem RRow.kept {w w' : World} {A : Option Addr} {l : List RB} (h : RRow w A l) (hg : w.grownBy w' none) : RRow w' A l := by
  rcases h with h | ⟨b, off, rfl, hc⟩
  · exact .inl h
  · refine .inr ⟨b, off, rfl, fun i a hi => ?_⟩
    obtain ⟨h0, h1, h2⟩ := hc i a hi
    exact ⟨hg.cell h0 (by simp), hg.cell h1 (by simp), hg.cell h2 (by simp)⟩
theorem RRow.some {w : World} {A : Option Addr} {l : List RB} (h : RRow w A l) {i : Nat} {x : RB} (hi : l[i]? = some x) :
    ∃ g off, A = some ⟨g, off, none⟩ ∧ w.cell? ⟨g, off + i * 3, none⟩ = some (.int .i64 x.1) ∧ w.cell? ⟨g, off + i * 3 + 1, none⟩ = some (.int .i64 x.2.1) ∧ w.cell? ⟨g, off + i * 3 + 2, none⟩ = some (.string x.2.2) := by
  rcases h with rfl | ⟨g, off, rfl, hc⟩
  · simp at hi
  · exact ⟨g, off, rfl, hc i x hi⟩
/-- the document's vault, as a value -/
def refV (room packs moved : Int) (A : Option Addr) (n c : Nat) : Value := .agg #[.int .i64 room, .int .i64 packs, .int .i64 moved, .slice A n c]
def rU (l : List RB) : Nat := (l.map fun x => x.2.2.size).sum
theorem rU_take {l : List RB} {k : Nat} {x : RB} (h : l[k]? = some x) : rU (l.take (k + 1)) = rU (l.take k) + x.2.2.size := by
  unfold rU
  rw [List.take_add_one, h]
  simp
theorem rU_le (l : List RB) (k : Nat) : rU (l.take k) ≤ rU l := by
  unfold rU
  conv => rhs; rw [← List.take_append_drop k l, List.map_append, List.sum_append]
  omega
set_option maxHeartbeats 400000 in
theorem rused_at {w : World} {A : Option Addr} {l : List RB} (hr : RRow w A l) (n c : Nat) (hn : l.length = n) (h1 : n ≤ 100000) (hu : rU l ≤ 100000000) (room packs moved : Int) :
    Calls Try.prog 24 #[refV room packs moved A n c] w fun e w' => e = .returned (.int .i64 (rU l : Int)) ∧ w.grownBy w' none := by
  have hga := World.grownBy_alloc w (.cells #[.int .i64 room, .int .i64 packs, .int .i64 moved, .slice A n c] 30) none
  have HR := Lib.hid (hr.kept hga)
  have HG := Lib.hid hga
  have HN := Lib.hid (And.intro hn hu)
  unfold refV
  clear hr hga hn hu
  go_enter Try.func24, Try.ntmps24
  go_wp2
  go_loop [3, 4] (fun u i => ∃ k : Nat, k ≤ n ∧ i = .int .i64 (k : Int) ∧ u = .int .i64 (rU (l.take k) : Int)) (fun _ i => n - (intOf i).toNat)
  case atStart => exact ⟨0, by omega, by go_num, by simp [rU]⟩
  case round =>
    obtain ⟨k, hk, rfl, rfl⟩ := hrel
    obtain ⟨q, hq⟩ : ∃ q, q = rU (l.take k) := ⟨_, rfl⟩
    have hq1 : q ≤ 100000000 := by rw [hq]; exact Nat.le_trans (rU_le l k) HN.out.2
    by_cases hlt : k < n
    · obtain ⟨x, HX⟩ : ∃ x, Hid (l[k]? = some x) := ⟨_, Lib.hid (List.getElem?_eq_getElem (by rw [HN.out.1]; exact hlt))⟩
      obtain ⟨g, off, rfl, c0, c1, c2⟩ := HR.out.some HX.out
      have HU := Lib.hid (rU_take HX.out)
      have hq2 : q + x.2.2.size ≤ 100000000 := by rw [hq, ← HU.out]; exact Nat.le_trans (rU_le l _) HN.out.2
      obtain ⟨s, hs⟩ : ∃ s, s = x.2.2 := ⟨_, rfl⟩
      rw [← hs] at c2 hq2
      rw [← hq]
      have HQ := Lib.hid (And.intro hq hs)
      clear hq hs c0 c1
      go_wp2
      go_round
      case rel => exact ⟨k + 1, by omega, by go_num, by rw [HU.out, ← HQ.out.1, ← HQ.out.2]; go_num⟩
      case measure => simp only [intOf]; omega
    · have e : l.take k = l := by rw [List.take_of_length_le]; have := HN.out.1; omega
      rw [e] at hq ⊢
      rw [← hq]
      have HQ := Lib.hid hq
      clear hq e
      go_wp2
      go_ret
      exact ⟨by rw [← HQ.out]; rfl, HG.out⟩
/-- the place of a number's block in the list; -1: there is none -/
def rF (l : List RB) (i : Int) : Int := match l.findIdx? (fun x => x.1 == i) with
  | some k => (k : Int)
  | none => -1
theorem rF_none {l : List RB} {i : Int} (h : ∀ x ∈ l, x.1 ≠ i) : rF l i = -1 := by
  unfold rF
  rw [List.findIdx?_eq_none_iff.2 (fun x hx => by simpa using h x hx)]
theorem rF_some {l : List RB} {i : Int} {k : Nat} {x : RB} (hk : l[k]? = some x) (hx : x.1 = i) (hno : ∀ j y, j < k → l[j]? = some y → y.1 ≠ i) : rF l i = (k : Int) := by
  unfold rF
  have hkl : k < l.length := (List.getElem?_eq_some_iff.1 hk).1
  rw [List.findIdx?_eq_some_iff_getElem.2 ⟨hkl, by
    have := (List.getElem?_eq_some_iff.1 hk).2
    simp [this, hx], fun j hj => by
    simpa using hno j _ hj (List.getElem?_eq_getElem (by omega))⟩]
set_option maxHeartbeats 400000 in
theorem rfind_at {w : World} {A : Option Addr} {l : List RB} (hr : RRow w A l) (n c : Nat) (hn : l.length = n) (h1 : n ≤ 100000) (room packs moved i : Int) :
    Calls Try.prog 11 #[refV room packs moved A n c, .int .i64 i] w fun e w' => e = .returned (.int .i64 (rF l i)) ∧ w.grownBy w' none := by
  have hga := World.grownBy_alloc w (.cells #[.int .i64 room, .int .i64 packs, .int .i64 moved, .slice A n c] 30) none
  have HR := Lib.hid (hr.kept hga)
  have HG := Lib.hid hga
  have HN := Lib.hid hn
  unfold refV
  clear hr hga hn
  go_enter Try.func11, Try.ntmps11
  go_wp2
  go_loop [5] (fun i' => ∃ k : Nat, k ≤ n ∧ i' = .int .i64 (k : Int) ∧ Hid (∀ j y, j < k → l[j]? = some y → y.1 ≠ i)) (fun i' => n - (intOf i').toNat)
  case atStart => exact ⟨0, by omega, by go_num, Lib.hid (fun j y hj => by omega)⟩
  case round =>
    obtain ⟨k, hk, rfl, HK⟩ := hrel
    by_cases hlt : k < n
    · obtain ⟨x, HX⟩ : ∃ x, Hid (l[k]? = some x) := ⟨_, Lib.hid (List.getElem?_eq_getElem (by rw [HN.out]; exact hlt))⟩
      obtain ⟨g, off, rfl, c0, c1, c2⟩ := HR.out.some HX.out
      obtain ⟨y, hy⟩ : ∃ y, y = x.1 := ⟨_, rfl⟩
      rw [← hy] at c0
      have HY := Lib.hid hy
      clear hy c1 c2
      by_cases he : y = i
      · have HE : Hid (rF l i = (k : Int)) := Lib.hid (rF_some HX.out (by rw [← HY.out]; exact he) HK.out)
        have heb : (y == i) = true := by simpa using he
        clear he
        go_wp2
        go_ret
        exact ⟨by rw [HE.out]; rfl, HG.out⟩
      · have heb : (y == i) = false := by simpa using he
        have HNE := Lib.hid he
        clear he
        go_wp2
        go_round
        case rel =>
          refine ⟨k + 1, by omega, by go_num, Lib.hid (fun j z hj hz => ?_)⟩
          by_cases e : j = k
          · subst e
            rw [HX.out] at hz
            injection hz with hz
            subst hz
            rw [← HY.out]
            exact HNE.out
          · exact HK.out j z (by omega) hz
        case measure => simp only [intOf]; omega
    · have HE : Hid (rF l i = -1) := Lib.hid (rF_none fun x hx => by
        obtain ⟨j, hj⟩ := List.mem_iff_getElem?.1 hx
        have := (List.getElem?_eq_some_iff.1 hj).1
        exact HK.out j x (by have := HN.out; omega) hj)
      go_wp2
      go_ret
      exact ⟨by rw [HE.out]; rfl, HG.out⟩
end Go.Proofs.Ythpcjgfbngemiaa
