/-
  Blocks in order are one list alone. No walk.
-/
import Derived.Test.YthpcjgfbngemiaaPackV
namespace Go.Proofs.Ythpcjgfbngemiaa
set_option linter.unusedVariables false
theorem sorted_one {V : Vl} (h : VM V 0 0) {l t : List (Int × Int × Int)} (hl : l.Perm (alive V.bk)) (hls : l.Pairwise fun a b => ¬ ltB b a) (ht : t.Perm (alive V.bk)) (hts : t.Pairwise fun a b => ¬ ltB b a) : l = t := by
  have hbl : ∀ p ∈ alive V.bk, ∃ i a m : Nat, p = ((i : Int), (a : Int), (m : Int)) ∧ Blk V i a m := fun p hm => by
    obtain ⟨h1, h2⟩ := alive_mem.1 hm
    obtain ⟨k, hk⟩ := List.mem_iff_getElem?.1 h1
    rcases h.kin k p hk with h3 | ⟨a, m, rfl, h3, h4⟩
    · exact absurd h3 h2
    · exact ⟨k, a, m, rfl, hk⟩
  refine List.Perm.eq_of_pairwise (le := fun a b => ¬ ltB b a) (fun a b ha hb h1 h2 => ?_) hls hts (hl.trans ht.symm)
  obtain ⟨i, x, m, rfl, b1⟩ := hbl a (hl.mem_iff.1 ha)
  obtain ⟨j, y, n, rfl, b2⟩ := hbl b (ht.mem_iff.1 hb)
  unfold ltB at h1 h2
  dsimp only at h1 h2
  obtain rfl : i = j := by omega
  obtain ⟨rfl, rfl⟩ := b1.eq b2
  rfl
/-- the list that Blocks tells -/
theorem VM.one {V : Vl} (h : VM V 0 0) : ∃ L : List (Int × Int × Int), ∀ l : List (Int × Int × Int), l.Perm (alive V.bk) → l.Pairwise (fun a b => ¬ ltB b a) → l = L := by
  by_cases hex : ∃ l : List (Int × Int × Int), l.Perm (alive V.bk) ∧ l.Pairwise (fun a b => ¬ ltB b a)
  · obtain ⟨L, h1, h2⟩ := hex
    exact ⟨L, fun l h3 h4 => sorted_one h h3 h4 h1 h2⟩
  · exact ⟨[], fun l h1 h2 => absurd ⟨l, h1, h2⟩ hex⟩
end Go.Proofs.Ythpcjgfbngemiaa
