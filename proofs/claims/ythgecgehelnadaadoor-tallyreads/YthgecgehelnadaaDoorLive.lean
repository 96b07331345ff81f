/-
  The document's example.
-/
import Derived.Test.YthgecgehelnadaaDoorPrn
import Derived.Laws.DeepStrings4
namespace Go.Proofs.YthgecgehelnadaaDoor
open Go.Shelf Go.RowKit Go.Sort
open Go.Lib hiding intOf
set_option linter.unusedVariables false
def c3 : List Int := [3, 0, 0, 0, 0, 0, 0, 0, 0, 0]
def t15 : List UInt8 := [104, 105, 116, 115, 32, 51, 32, 109, 105, 115, 115, 101, 115, 32, 48]
theorem ptx3 : ∃ r, join (W c3) [32] = t15 ++ 32 :: r := by
  have e3 : decDigits 3 = [51] := dec_small 3 (by decide)
  have e0 : decDigits 0 = [48] := dec_small 0 (by decide)
  refine ⟨join (wk (nms.drop 2) (c3.drop 2) 8) [32], ?_⟩
  have h : W c3 = [[104, 105, 116, 115], decDigits 3, [109, 105, 115, 115, 101, 115], decDigits 0] ++ wk (nms.drop 2) (c3.drop 2) 8 := rfl
  rw [h, e3, e0]
  have hd : wk (nms.drop 2) (c3.drop 2) 8 = [114, 97, 105, 115, 101, 100] :: (wk (nms.drop 2) (c3.drop 2) 8).tail := rfl
  rw [hd]
  simp [join_cons, joinTail, t15]
set_option maxHeartbeats 1000000 in
set_option maxRecDepth 100000 in
theorem alive_at (w : World) (he : EnvT w) : Calls Tryd.prog 6 #[] w fun e w' => e = .returned (.bool true) ∧ Below w.heap.size w w' := by
  have c18 := prn_at c3 rfl (fun x hx => by simp [c3] at hx; rcases hx with rfl | rfl <;> decide) w he
  obtain ⟨r, hr⟩ := ptx3
  obtain ⟨T, hT⟩ : ∃ T, T = ptx c3 := ⟨_, rfl⟩
  rw [← hT] at c18
  have hTl : T = mkS (t15 ++ 32 :: r) := by rw [hT, ptx, hr]
  have hsz : T.size = 16 + r.length := by rw [hTl, mkS_size]; simp [t15]; omega
  have h15 : (15 : Int) < (T.size : Int) := by omega
  have hsl : ∀ V, (Instr.slice 9 (.string T) none (some (.int .i64 15)) none).run Tryd.prog V = .ok (.string ⟨#[104, 105, 116, 115, 32, 51, 32, 109, 105, 115, 115, 101, 115, 32, 48]⟩) V := fun V => by
    rw [run_slice_string_h (P := Tryd.prog) V 9 T Tryd.underlying9 .i64 15 (by omega) (by omega)]
    have e : T.extract 0 (15 : Int).toNat = ⟨#[104, 105, 116, 115, 32, 51, 32, 109, 105, 115, 115, 101, 115, 32, 48]⟩ := by
      apply ByteArray.ext
      rw [hTl]
      apply Array.toList_inj.1
      rw [ByteArray.data_extract, Array.toList_extract, List.extract_eq_take_drop]
      simp [mkS, t15]
    rw [e]
  have hb := bl_eq ⟨#[104, 105, 116, 115, 32, 51, 32, 109, 105, 115, 115, 101, 115, 32, 48]⟩
  clear hTl hsz hT hr
  go_enter Tryd.func6, Tryd.ntmps6
  go_wp2_with fail
  refine c18.mono ?_
  rintro e w2 ⟨rfl, hb2⟩
  go_wp2
  go_ret
  exact ⟨rfl, hb2⟩
end Go.Proofs.YthgecgehelnadaaDoor
