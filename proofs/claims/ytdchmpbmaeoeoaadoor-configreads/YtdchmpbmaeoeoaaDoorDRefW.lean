/-
  The document's Words.
-/
import Derived.Test.YtdchmpbmaeoeoaaDoorDRow
namespace Go.Proofs.YtdchmpbmaeoeoaaDoor
open Go.Shelf Go.RowKit Go.Sort
open Go.Lib hiding intOf
set_option linter.unusedVariables false
theorem take_more (l : List UInt8) (k : Nat) (h : k < l.length) : l.take (k + 1) = l.take k ++ [l[k]] := by rw [List.take_add_one, List.getElem?_eq_getElem h]; rfl
theorem drop_take_snoc (l : List UInt8) (f k : Nat) (hf : f ≤ k) (hk : k < l.length) : (l.take (k + 1)).drop f = (l.take k).drop f ++ [l[k]] := by
  rw [take_more l k hk, List.drop_append_of_le_length (by simp; omega)]
theorem ext_list (s : ByteArray) (f k : Nat) : s.extract f k = mkS ((s.data.toList.take k).drop f) := by
  apply ByteArray.ext
  apply Array.toList_inj.1
  rw [ByteArray.data_extract, Array.toList_extract, List.extract_eq_take_drop]
  simp [mkS, List.drop_take]
set_option maxHeartbeats 400000 in
set_option maxRecDepth 100000 in
theorem rwords_at (s : ByteArray) (hs : s.size ≤ 100000) (n : Nat) (hn : n = (wds s.data.toList).length) (w : World) :
    Calls Tryd.prog 22 #[.string s] w fun e w' => ∃ A cap, e = .returned (.slice A n cap) ∧ SRow w' A (wds s.data.toList) ∧ Below w.heap.size w w' := by
  have HN := Lib.hid hn
  clear hn
  go_enter Tryd.func22, Tryd.ntmps22
  go_wp2
  go_loopw [3, 4, 5] (fun v fr i wr => ∃ (k f : Nat) (done : List (List UInt8)), k ≤ s.size ∧ f ≤ k ∧ i = .int .i64 (k : Int) ∧ fr = .int .i64 (f : Int) ∧ Hid (wdsF [] (s.data.toList.take k) = done ++ [(s.data.toList.take k).drop f] ∧ done.length ≤ k) ∧ Hid (wr.ownsRow w.heap.size 9 1 v done.length (svals done) ∧ Below w.heap.size w wr)) (fun _ _ i _ => s.size - (intOf i).toNat)
  case atStart => exact ⟨0, 0, [], by omega, by omega, by go_num, by go_num, Lib.hid ⟨by simp [wdsF], by simp⟩, Lib.hid ⟨by simpa [svals] using World.ownsRow_nil w w.heap.size 9 1, Below.refl _ _⟩⟩
  case round =>
    obtain ⟨k, f, done, hk, hf, rfl, rfl, HK, HO⟩ := hrel
    by_cases hlt : k < s.size
    · have hkl : k < s.data.toList.length := by rw [size_list]; exact hlt
      have HS := Lib.hid (wdsF_snoc (s.data.toList.take k) [] s.data.toList[k])
      by_cases h32 : ((s[k].toNat : Nat) : Int) = 32
      · have hc : s.data.toList[k] = 32 := by
          have : s[k] = 32 := UInt8.toNat.inj (by rw [show ((32 : UInt8).toNat) = 32 from rfl]; omega)
          exact this
        have HW : Hid (wdsF [] (s.data.toList.take (k + 1)) = (done ++ [(s.data.toList.take k).drop f]) ++ [(s.data.toList.take (k + 1)).drop (k + 1)]) := Lib.hid (by
          rw [take_more _ k hkl, HS.out, if_pos hc, HK.out.1, ← take_more _ k hkl]
          congr 2
          rw [List.drop_of_length_le (by simp; omega)])
        obtain ⟨x, hx⟩ : ∃ x, x = s.extract f k := ⟨_, rfl⟩
        have hsl := slice_two s f k hf (by omega) (k : Int) rfl x hx
        obtain ⟨v', w2, hrun, ho2, hb2⟩ := appS ((s.data.toList.take k).drop f) x (by rw [hx, ext_list]) HO.out.1 HO.out.2.size (by have := HK.out.2; omega)
        have HR := Lib.hid hrun
        have HO2 := Lib.hid (And.intro ho2 (HO.out.2.trans hb2))
        clear hrun ho2 hb2 hx hc
        go_wp2_with (at_builtin; refine append_run rfl (.tmp 16) (.tmp 21) 48 rfl rfl rfl HR.out ?_)
        go_round
        case rel =>
          refine ⟨k + 1, k + 1, done ++ [(s.data.toList.take k).drop f], by omega, by omega, by go_num, by go_num, Lib.hid ⟨HW.out, by have := HK.out.2; simp; omega⟩, Lib.hid ⟨?_, HO2.out.2⟩⟩
          have := HO2.out.1
          simpa using this
        case measure => simp only [intOf]; omega
      · have hc : ¬ s.data.toList[k] = 32 := fun e => h32 (by
          have e2 : s[k] = 32 := e
          rw [e2]; rfl)
        have HW : Hid (wdsF [] (s.data.toList.take (k + 1)) = done ++ [(s.data.toList.take (k + 1)).drop f]) := Lib.hid (by
          rw [take_more _ k hkl, HS.out, if_neg hc, ← take_more _ k hkl, drop_take_snoc _ f k hf hkl]
          simp only [HK.out.1, List.dropLast_concat, List.getLast_append, List.getLast_singleton]
          simp)
        have hne : (((s[k].toNat : Nat) : Int) == 32) = false := by simpa using h32
        clear hc
        go_wp2
        go_round
        case rel => exact ⟨k + 1, f, done, by omega, by omega, by go_num, by go_num, Lib.hid ⟨HW.out, by have := HK.out.2; omega⟩, Lib.hid HO.out⟩
        case measure => simp only [intOf]; omega
    · have hks : k = s.size := by omega
      have e : s.data.toList.take k = s.data.toList := by rw [List.take_of_length_le]; rw [size_list]; omega
      obtain ⟨x, hx⟩ : ∃ x, x = s.extract f s.size := ⟨_, rfl⟩
      have hxx : x = mkS ((s.data.toList.take k).drop f) := by rw [hx, ext_list, hks]
      obtain ⟨v', w2, hrun, ho2, hb2⟩ := appS ((s.data.toList.take k).drop f) x hxx HO.out.1 HO.out.2.size (by have := HK.out.2; omega)
      have hW : done ++ [(s.data.toList.take k).drop f] = wds s.data.toList := by rw [← HK.out.1, e]; rfl
      rw [hW] at ho2
      obtain ⟨A, cap, hv, hr⟩ := owns_srow ho2
      rw [← HN.out] at hv
      subst hv
      have HR := Lib.hid hrun
      have HF := Lib.hid (And.intro hr (HO.out.2.trans hb2))
      have hsl : ∀ W, (Instr.slice 9 (.string s) (some (.int .i64 (f : Int))) none none).run Tryd.prog W = .ok (.string x) W := fun W => by
        rw [hx]
        have := run_slice_string_l (P := Tryd.prog) W 9 s Tryd.underlying9 .i64 (f : Int) (by omega) (by omega)
        simpa using this
      clear hrun ho2 hb2 hr hW hxx e hx
      go_wp2_with (at_builtin; refine append_run rfl (.tmp 25) (.tmp 29) 48 rfl rfl rfl HR.out ?_)
      go_ret
      exact ⟨_, _, rfl, HF.out.1, HF.out.2⟩
end Go.Proofs.YtdchmpbmaeoeoaaDoor
