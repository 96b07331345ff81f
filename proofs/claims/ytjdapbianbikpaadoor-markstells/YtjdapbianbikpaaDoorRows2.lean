/-
  Slices of integers that are only read; what a set has that numbers of a list were put into.
-/
import Derived.Test.YtjdapbianbikpaaDoorNew
namespace Go.Proofs.YtjdapbianbikpaaDoor
open Go.ChangeShapes Go.WideShapes Go.ChangeAt Go.RowKit
set_option linter.unusedVariables false

/-- the slice at A reads as the numbers zs; its block is one of S -/
def RowAt (k : IntKind) (S : Nat → Prop) (w : World) (A : Option Addr) (zs : List Int) : Prop :=
  zs = [] ∨ ∃ b off, A = some ⟨b, off, none⟩ ∧ b < w.heap.size ∧ S b ∧ ∀ i, i < zs.length → w.cell? ⟨b, off + i, none⟩ = some (.int k (zs[i]?.getD 0))
theorem RowAt.kept {k : IntKind} {S : Nat → Prop} {w w' : World} {A : Option Addr} {zs : List Int} {row : Option Nat} (h : RowAt k S w A zs) (hg : w.grownBy w' row) (hr : ∀ r, row = some r → ¬ S r) : RowAt k S w' A zs := by
  rcases h with h | ⟨b, off, rfl, hlt, hS, hc⟩
  · exact .inl h
  · refine .inr ⟨b, off, rfl, Nat.lt_of_lt_of_le hlt hg.size, hS, fun i hi => ?_⟩
    exact hg.cell (hc i hi) (fun e => hr b e.symm hS)
theorem RowAt.weaken {k : IntKind} {S T : Nat → Prop} {w : World} {A : Option Addr} {zs : List Int} (h : RowAt k S w A zs) (hST : ∀ b, b < w.heap.size → S b → T b) : RowAt k T w A zs := by
  rcases h with h | ⟨b, off, rfl, hlt, hS, hc⟩
  · exact .inl h
  · exact .inr ⟨b, off, rfl, hlt, hST b hlt hS, hc⟩
/-- an element, as a loop reads it -/
theorem RowAt.some {k : IntKind} {S : Nat → Prop} {w : World} {A : Option Addr} {zs : List Int} (h : RowAt k S w A zs) (h0 : 0 < zs.length) :
    ∃ b off, A = some ⟨b, off, none⟩ ∧ b < w.heap.size ∧ S b ∧ ∀ i, i < zs.length → w.cell? ⟨b, off + i, none⟩ = some (.int k (zs[i]?.getD 0)) := by
  rcases h with rfl | h
  · simp at h0
  · exact h
theorem take_more (zs : List Int) (k : Nat) (h : k < zs.length) : zs.take (k + 1) = zs.take k ++ [zs[k]?.getD 0] := by
  rw [List.take_succ_eq_append_getElem h]; simp [h]

/-- the numbers of a list, as a set has them -/
def mof (zs : List Int) : Nat → Bool := fun j => zs.contains (j : Int)
theorem mof_nil : mof [] = fun _ => false := by funext j; rfl
theorem mof_put (zs : List Int) (z : Int) (n : Nat) (h0 : 0 ≤ z) (h1 : z < n) :
    (fun j => mof zs j || decide (0 ≤ z ∧ z < (n : Int) ∧ j = z.toNat)) = mof (zs ++ [z]) := by
  funext j
  unfold mof
  have e : (0 ≤ z ∧ z < (n : Int) ∧ j = z.toNat) ↔ (j : Int) = z := by omega
  rw [Bool.eq_iff_iff]
  simp only [Bool.or_eq_true, decide_eq_true_eq, List.contains_iff_mem, List.mem_append, List.mem_singleton, e]
theorem grown_below {a b : World} {N : Nat} {row : Option Nat} (h : a.grownBy b row) (hN : N ≤ a.heap.size) (hr : ∀ r, row = some r → N ≤ r) : Below N a b :=
  (Below.refl N a).grown h hN hr

/-- a slice of integers that came in -/
def IsRow (k : IntKind) (w : World) (a : Option Addr) (len cap : Nat) (zs : List Int) : Prop :=
  (a = none ∧ len = 0 ∧ cap = 0 ∧ zs = []) ∨
  ∃ x, a = some x ∧ len ≤ cap ∧ cap ≤ maxLen ∧ zs.length = cap ∧ (∀ i, i < zs.length → w.cell? (x.add i) = some (.int k (zs.getD i 0))) ∧ ∀ n ∈ zs, (Lit.int k n).wf = true
theorem IsRow.row {k : IntKind} {w : World} {a : Option Addr} {len cap : Nat} {zs : List Int} (h : IsRow k w a len cap zs) :
    ∃ ys : List Int, ys.length = len ∧ (∀ n ∈ ys, (Lit.int k n).wf = true) ∧ RowAt k (fun b => b < w.heap.size) w a ys := by
  rcases h with ⟨rfl, rfl, rfl, rfl⟩ | ⟨x, rfl, hl, hm, hz, hc, hw⟩
  · exact ⟨[], rfl, by simp, .inl rfl⟩
  · refine ⟨zs.take len, by simp; omega, fun n hn => hw n (List.mem_of_mem_take hn), ?_⟩
    by_cases h0 : len = 0
    · left; subst h0; simp
    · right
      obtain ⟨b, off, rfl, hc'⟩ := ints_at hc (by omega)
      have hlt : b < w.heap.size := block_lt_of_cell (hc' 0 (by omega))
      refine ⟨b, off, rfl, hlt, hlt, fun i hi => ?_⟩
      have hi' : i < len := by simp at hi; omega
      rw [hc' i (by omega), List.getElem?_take, if_pos hi']
      simp
end Go.Proofs.YtjdapbianbikpaaDoor
