/-
  A line's words.
-/
import Derived.Test.YtdchmpbmaeoeoaaDoorDRow
import Derived.Test.YtdchmpbmaeoeoaaDoorDEnv
import Derived.Test.YtdchmpbmaeoeoaaDoorLayS
import Derived.Shelf.Small.Strs
import Derived.Shelf.Strings.Split
import Derived.Shelf.Strings.SplitShaped
namespace Go.Proofs.YtdchmpbmaeoeoaaDoor
open Go.Shelf Go.RowKit Go.Sort
open Go.Lib hiding intOf
set_option linter.unusedVariables false
theorem words_cells (s : ByteArray) : ((splitB ⟨#[32]⟩ 0 (countB s ⟨#[32]⟩) s).map Value.string) = svals (wds s.data.toList) := by
  have h := splitB_data ⟨#[32]⟩ 0 (countB s ⟨#[32]⟩) s
  have e : splitK (⟨#[32]⟩ : ByteArray).data.toList 0 (countB s ⟨#[32]⟩) s.data.toList = wds s.data.toList := split_wds s.data.toList.length s.data.toList (Nat.le_refl _)
  rw [e] at h
  rw [← h, svals, List.map_map]
  rfl
theorem words_len (s : ByteArray) : countB s ⟨#[32]⟩ + 1 = (wds s.data.toList).length := by
  rw [wds, wdsF_len]
  show count s.data.toList [32] + 1 = _
  rw [count_one]
theorem words_at (s : ByteArray) (hs : s.size ≤ 1000000) (n : Nat) (hn : n = (wds s.data.toList).length) (w : World) (he : Env w) :
    Calls Tryd.prog 21 #[.string s] w fun e w' => e = .returned (.slice (some ⟨w.heap.size, 0, none⟩) n n) ∧ w' = w.alloc (.cells (svals (wds s.data.toList)).toArray 9) := by
  obtain ⟨m, hm⟩ := he.ml
  have c31 : Calls Tryd.prog 28 #[.string s, .string ⟨#[32]⟩] w fun e w' => e = .returned (.slice (some ⟨w.heap.size, 0, none⟩) n n) ∧ w' = w.alloc (.cells (svals (wds s.data.toList)).toArray 9) := by
    have c0 : Calls Tryd.prog 28 #[.string s, .string ⟨#[32]⟩] w _ := Any.strings_Split { lS with } lS.i9 s ⟨#[32]⟩ m w (by omega) hm (by decide)
    refine c0.mono fun e w' ⟨h1, h2⟩ => ?_
    rw [words_cells] at h2
    rw [words_len, ← hn] at h1
    exact ⟨h1, h2⟩
  clear hm hn
  go_enter Tryd.func21, Tryd.ntmps21
  go_wp2_with fail
  refine c31.mono ?_
  rintro e w' ⟨rfl, rfl⟩
  go_wp2
  go_ret
  exact ⟨rfl, rfl⟩
/-- the program's Words -/
theorem words_row (s : ByteArray) (hs : s.size ≤ 1000000) (n : Nat) (hn : n = (wds s.data.toList).length) (w : World) (he : Env w) :
    Calls Tryd.prog 21 #[.string s] w fun e w' => ∃ A cap, e = .returned (.slice A n cap) ∧ SRow w' A (wds s.data.toList) ∧ Below w.heap.size w w' :=
  (words_at s hs n hn w he).mono fun e w' ⟨h1, h2⟩ => ⟨_, _, h1, h2 ▸ alloc_srow w _, h2 ▸ (Below.refl _ _).alloc (Nat.le_refl _) _⟩
end Go.Proofs.YtdchmpbmaeoeoaaDoor
