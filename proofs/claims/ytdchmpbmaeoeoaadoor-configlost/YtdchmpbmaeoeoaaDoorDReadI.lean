/-
  Texts read: ReadInt.
-/
import Derived.Test.YtdchmpbmaeoeoaaDoorDEnv
import Derived.Test.YtdchmpbmaeoeoaaDoorDInt
import Derived.Test.YtdchmpbmaeoeoaaDoorLayA
import Derived.Shelf.Strconv.ErrVarAll
namespace Go.Proofs.YtdchmpbmaeoeoaaDoor
open Go.Shelf Go.RowKit Go.Sort
open Go.Lib hiding intOf
set_option linter.unusedVariables false
def tupI : Option Int → Value
  | some u => .tuple #[.int .i64 u, .bool true]
  | none => .tuple #[.int .i64 0, .bool false]
theorem istr_eq {u : Int} {s : ByteArray} : istr u = s ↔ itoa u = s.data.toList := by
  constructor
  · rintro rfl; simp [istr]
  · intro h; rw [istr, h]
set_option maxHeartbeats 400000 in
set_option maxRecDepth 100000 in
theorem readInt_at (s : ByteArray) (hs : s.size ≤ 1000000) (w : World) (he : Env w) :
    Calls Tryd.prog 27 #[.string s] w fun e w' => e = .returned (tupI (rdi s.data.toList)) ∧ Below w.heap.size w w' := by
  cases h : atoiAll s.data.toList with
  | ok u =>
    have hu : Is64 u := atoiAll_bounds h
    have c1 : ∀ W, Calls Tryd.prog 33 #[.string s] W fun e w' => e = .returned (.tuple #[.int .i64 u, .nilIface]) ∧ Below W.heap.size W w' := fun W => by
      have c0 : Calls Tryd.prog 33 #[.string s] W _ := Any.strconv_Atoi_ok lA s (by omega) u h W
      refine c0.mono fun e w' ⟨h1, h2⟩ => ⟨h1, ?_⟩
      rcases h2 with rfl | ⟨t, rfl⟩
      · exact Below.refl _ _
      · exact Lib.bytesWorld_below _ _ _
    have c2 : ∀ W, Env W → Calls Tryd.prog 25 #[.int .i64 u] W fun e w' => e = .returned (.string (istr u)) ∧ Below W.heap.size W w' := fun W hW => int_at u hu W hW.toEnvT
    obtain ⟨r, hr⟩ : ∃ r, r = rdi s.data.toList := ⟨_, rfl⟩
    rw [← hr]
    have hrv : r = if istr u = s then some u else none := by
      rw [hr, rdi, h]
      dsimp only
      by_cases e : itoa u = s.data.toList
      · rw [if_pos e, if_pos (istr_eq.2 e)]
      · rw [if_neg e, if_neg (fun h => e (istr_eq.1 h))]
    clear hr h
    have Hu := Lib.hid hu
    clear hu
    obtain ⟨d, hd⟩ : ∃ d, d = istr u := ⟨_, rfl⟩
    rw [← hd] at c2 hrv
    clear hd
    by_cases e : d = s
    · rw [if_pos e] at hrv
      have HR := Lib.hid hrv
      clear hrv
      subst e
      go_enter Tryd.func27, Tryd.ntmps27
      go_wp2_with fail
      refine (c1 _).mono ?_
      rintro e w1 ⟨rfl, hb1⟩
      go_wp2_with fail
      refine (c2 _ (he.kept hb1)).mono ?_
      rintro e w2 ⟨rfl, hb2⟩
      go_wp2
      go_ret2
      rw [HR.out, tupI]
      exact ⟨rfl, hb1.trans (hb2.mono hb1.size)⟩
    · rw [if_neg e] at hrv
      have HR := Lib.hid hrv
      have hne := bl_ne e
      clear hrv e
      go_enter Tryd.func27, Tryd.ntmps27
      go_wp2_with fail
      refine (c1 _).mono ?_
      rintro e w1 ⟨rfl, hb1⟩
      go_wp2_with fail
      refine (c2 _ (he.kept hb1)).mono ?_
      rintro e w2 ⟨rfl, hb2⟩
      go_wp2
      go_ret2
      rw [HR.out]
      exact ⟨rfl, hb1.trans (hb2.mono hb1.size)⟩
  | «syntax» =>
    have hm : rdi s.data.toList = none := by rw [rdi, h]
    obtain ⟨tp, p, hv⟩ := he.syn
    have c1 : Calls Tryd.prog 33 #[.string s] w _ := Any.strconv_Atoi_syntax_var lA s (by omega) h tp p w hv
    rw [hm]
    go_enter Tryd.func27, Tryd.ntmps27
    go_wp2_with fail
    refine c1.mono ?_
    rintro e w1 ⟨N, rfl, _, _, hb1⟩
    go_wp2
    go_ret2
    exact ⟨rfl, hb1⟩
  | range =>
    have hm : rdi s.data.toList = none := by rw [rdi, h]
    obtain ⟨tp, p, hv⟩ := he.rng
    have c1 : Calls Tryd.prog 33 #[.string s] w _ := Any.strconv_Atoi_range_var lA s (by omega) h tp p w hv
    rw [hm]
    go_enter Tryd.func27, Tryd.ntmps27
    go_wp2_with fail
    refine c1.mono ?_
    rintro e w1 ⟨N, rfl, _, _, hb1⟩
    go_wp2
    go_ret2
    exact ⟨rfl, hb1⟩
end Go.Proofs.YtdchmpbmaeoeoaaDoor
