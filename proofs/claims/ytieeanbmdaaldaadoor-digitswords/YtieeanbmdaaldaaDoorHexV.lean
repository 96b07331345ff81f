/-
  Bytes read: ReadHex; a line's words: Words.
-/
import Derived.Test.YtieeanbmdaaldaaDoorHex
import Derived.Test.YtieeanbmdaaldaaDoorLayX
import Derived.Test.YtieeanbmdaaldaaDoorLayS
import Derived.Test.YtieeanbmdaaldaaDoorWordsM
import Derived.Test.YtieeanbmdaaldaaDoorRefR
import Derived.Shelf.Small.Strs
import Derived.Shelf.Strings.Split
namespace Go.Proofs.YtieeanbmdaaldaaDoor
open Go.Shelf Go.RowKit Go.Sort
open Go.Lib hiding intOf
set_option linter.unusedVariables false
theorem hexV_at (c : UInt8) (C V : Int) (hC : C = (c.toNat : Int)) (hV : V = hv c) (w : World) : Calls Tryd.prog 29 #[.int .u8 C] w fun e w' => e = .returned (.int .i64 V) ∧ w = w' := by
  have c38 : Calls Tryd.prog 38 #[.string ⟨#[48, 49, 50, 51, 52, 53, 54, 55, 56, 57, 97, 98, 99, 100, 101, 102]⟩, .int .u8 C] w fun e w' => e = .returned (.int .i64 V) ∧ w = w' := by
    have c0 : Calls Tryd.prog 38 #[.string ⟨#[48, 49, 50, 51, 52, 53, 54, 55, 56, 57, 97, 98, 99, 100, 101, 102]⟩, .int .u8 C] w _ := Any.strings_IndexByte lX ⟨#[48, 49, 50, 51, 52, 53, 54, 55, 56, 57, 97, 98, 99, 100, 101, 102]⟩ C w
    refine c0.mono fun e w' ⟨h1, h2⟩ => ⟨?_, h2.symm⟩
    rw [h1, hV, hv, hC, Int.toNat_natCast]
    have e : c.toNat.toUInt8 = c := UInt8.ofNat_toNat
    rw [e]
    rfl
  clear hC hV
  go_enter Tryd.func29, Tryd.ntmps29
  go_wp2_with (go_at_call 38; refine c38.mono ?_; rintro e w' ⟨rfl, rfl⟩)
  go_ret
  exact ⟨rfl, rfl⟩
/-- a row of strings -/
def svals (l : List (List UInt8)) : List Value := l.map fun x => .string ⟨x.toArray⟩
theorem svals_len (l : List (List UInt8)) : (svals l).length = l.length := by simp [svals]
theorem words_cells (s : ByteArray) : ((splitB ⟨#[32]⟩ 0 (countB s ⟨#[32]⟩) s).map Value.string) = svals (wds s.data.toList) := by
  have h := splitB_data ⟨#[32]⟩ 0 (countB s ⟨#[32]⟩) s
  have e : splitK (⟨#[32]⟩ : ByteArray).data.toList 0 (countB s ⟨#[32]⟩) s.data.toList = wds s.data.toList := split_wds s.data.toList.length s.data.toList (Nat.le_refl _)
  rw [e] at h
  rw [← h, svals, List.map_map]
  rfl
theorem words_len (s : ByteArray) : countB s ⟨#[32]⟩ + 1 = (wds s.data.toList).length := by
  rw [wds, wdsF_len]
  show count s.data.toList [32] + 1 = _
  rw [count_one]
end Go.Proofs.YtieeanbmdaaldaaDoor
