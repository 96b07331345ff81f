/-
  The document's Read.
-/
import Derived.Test.YtdchmpbmaeoeoaaDoorDRefN
import Derived.Test.YtdchmpbmaeoeoaaDoorDEnv
import Derived.Test.YtdchmpbmaeoeoaaDoorDRow
namespace Go.Proofs.YtdchmpbmaeoeoaaDoor
open Go.Shelf Go.RowKit Go.Sort
open Go.Lib hiding intOf
set_option linter.unusedVariables false
theorem at_list (s : ByteArray) (k : Nat) (hlt : k < s.size) : s.data.toList[k]? = some s[k] := by
  rw [List.getElem?_eq_getElem (by rw [size_list]; exact hlt)]
  rfl
theorem take_list (s : ByteArray) (k : Nat) (hlt : k < s.size) : s.data.toList.take (k + 1) = s.data.toList.take k ++ [s[k]] := by
  rw [List.take_add_one, at_list s k hlt]
  rfl
set_option maxHeartbeats 400000 in
set_option maxRecDepth 100000 in
theorem rread_at (s : ByteArray) (w : World) :
    Calls Tryd.prog 29 #[.string s] w fun e w' => e = .returned (tupR (rd s.data.toList)) ∧ Below w.heap.size w w' := by
  by_cases hlen : 20 < s.size
  · have e : rd s.data.toList = none := rd_long (by rw [size_list]; exact hlen)
    rw [e]
    have hlen' : (20 : Int) < (s.size : Int) := by omega
    go_enter Tryd.func29, Tryd.ntmps29
    go_wp2
    go_ret2
    exact ⟨rfl, Below.refl _ _⟩
  · obtain ⟨R, hR⟩ : ∃ R, R = rd s.data.toList := ⟨_, rfl⟩
    rw [← hR]
    have HR := Lib.hid hR
    clear hR
    go_enter Tryd.func29, Tryd.ntmps29
    go_wp2
    go_loop [4, 5] (fun n i => ∃ (k : Nat) (a : Int), k ≤ s.size ∧ i = .int .i64 (k : Int) ∧ n = .int .u64 a ∧ Hid (a = (vf 0 (s.data.toList.take k) : Nat))) (fun _ i => s.size - (intOf i).toNat)
    case atStart => exact ⟨0, 0, by omega, by go_num, rfl, Lib.hid (by simp [vf])⟩
    case round =>
      obtain ⟨k, a, hk, rfl, rfl, HA⟩ := hrel
      by_cases hlt : k < s.size
      · have HC := Lib.hid (And.intro (take_list s k hlt) (List.mem_of_getElem? (at_list s k hlt)))
        have HB := Lib.hid (s[k].toNat_lt)
        by_cases hb : ((s[k].toNat : Nat) : Int) < 48
        · have HE := Lib.hid (HR.out.trans (rd_bad HC.out.2 (by omega)))
          go_wp2
          go_ret2
          exact ⟨by rw [HE.out]; rfl, Below.refl _ _⟩
        · by_cases hb2 : 57 < ((s[k].toNat : Nat) : Int)
          · have HE := Lib.hid (HR.out.trans (rd_bad HC.out.2 (by omega)))
            go_wp2
            go_ret2
            exact ⟨by rw [HE.out]; rfl, Below.refl _ _⟩
          · go_wp2
            go_round
            case rel =>
              refine ⟨k + 1, _, hlt, by go_num, rfl, Lib.hid ?_⟩
              rw [HC.out.1, vf_app, HA.out, IntKind.wrap_u64, IntKind.wrap_u64]
              omega
            case measure => simp only [intOf]; omega
      · obtain rfl : k = s.size := by omega
        have hl := vf_lt 0 (by decide) s.data.toList
        have e0 : s.data.toList.take s.size = s.data.toList := by rw [← size_list]; exact List.take_length
        have hA : a = (vf 0 s.data.toList : Nat) := by rw [HA.out, e0]
        have c := rprint_at (vf 0 s.data.toList) hl w
        rw [← hA] at c
        obtain ⟨d, hd⟩ : ∃ d, d = dstr (vf 0 s.data.toList) := ⟨_, rfl⟩
        rw [← hd] at c
        have Hs := Lib.hid (And.intro hA (And.intro hd hl))
        clear hA hd hl e0 HA
        by_cases e : d = s
        · have HE : Hid (R = some (vf 0 s.data.toList)) := Lib.hid (HR.out.trans (rd_eq (dstr_eq.1 (Hs.out.2.1.symm.trans e))))
          have he := bl_eq s
          rw [e] at c
          clear e
          go_wp2_with fail
          refine c.mono ?_
          rintro e w1 ⟨rfl, hb1⟩
          go_wp2
          go_ret2
          exact ⟨by rw [HE.out, tupR, ← Hs.out.1]; rfl, hb1⟩
        · have HE : Hid (R = none) := Lib.hid (HR.out.trans (rd_ne fun h => e (Hs.out.2.1.trans (dstr_eq.2 h))))
          have he := bl_ne e
          clear e
          go_wp2_with fail
          refine c.mono ?_
          rintro e w1 ⟨rfl, hb1⟩
          go_wp2
          go_ret2
          exact ⟨by rw [HE.out]; rfl, hb1⟩
end Go.Proofs.YtdchmpbmaeoeoaaDoor
