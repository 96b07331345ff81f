/-
  Texts read: Read.
-/
import Derived.Test.YthgecgehelnadaaDoorDFmt
import Derived.Test.YthgecgehelnadaaDoorLayU
import Derived.Shelf.Strconv.ErrVarAll
import Derived.Shelf.Pu.ErrVarParseUint
import Derived.Lib.AtoiErrMem
import Derived.Lib.ParseIntBCases
namespace Go.Proofs.YthgecgehelnadaaDoor
open Go.Shelf Go.RowKit Go.Sort
open Go.Lib hiding intOf
set_option linter.unusedVariables false
/-- what the calls lean on: the table of powers, the two errors, the library's own number -/
structure Env (w : World) : Prop extends EnvT w where
  syn : ∃ tp p, w.var? Tryd.prog "strconv.ErrSyntax" = some #[.iface tp p]
  rng : ∃ tp p, w.var? Tryd.prog "strconv.ErrRange" = some #[.iface tp p]
  ml : ∃ m, w.cell? ⟨3, 0, none⟩ = some (.int .i64 m)
theorem Env.kept {w w' : World} (h : Env w) (hb : Below w.heap.size w w') : Env w' := by
  obtain ⟨h1, ⟨a, b, h2⟩, ⟨c, d, h3⟩, ⟨m, h4⟩⟩ := h
  exact ⟨h1.kept hb, ⟨a, b, var_kept h2 hb⟩, ⟨c, d, var_kept h3 hb⟩, ⟨m, by rw [hb.cell (by exact Lib.lt_of_cell h4)]; exact h4⟩⟩
def tupR : Option Nat → Value
  | some u => .tuple #[.int .u64 (u : Int), .bool true]
  | none => .tuple #[.int .u64 0, .bool false]
theorem dstr_eq {u : Nat} {s : ByteArray} : dstr u = s ↔ decDigits u = s.data.toList := by
  constructor
  · rintro rfl; simp [dstr]
  · intro h; rw [dstr, h]
set_option maxHeartbeats 400000 in
set_option maxRecDepth 100000 in
theorem read_at (s : ByteArray) (hs : s.size ≤ 1000000) (w : World) (he : Env w) :
    Calls Tryd.prog 27 #[.string s] w fun e w' => e = .returned (tupR (rd s.data.toList)) ∧ Below w.heap.size w w' := by
  cases h : parseUintB 64 s.data.toList with
  | ok u =>
    have hu : u < 18446744073709551616 := by have := parseUintB_le h; omega
    have hm : parseMag s.data.toList = .ok u := by rw [← parseUintB_64]; exact h
    have c1 : ∀ W, Calls Tryd.prog 35 #[.string s, .int .i64 10, .int .i64 64] W fun e w' => e = .returned (.tuple #[.int .u64 (u : Int), .nilIface]) ∧ Below W.heap.size W w' := fun W => by
      have c0 : Calls Tryd.prog 35 #[.string s, .int .i64 10, .int .i64 64] W _ := Any.strconv_ParseUint_10_at64_ok lU s (by omega) u h W
      refine c0.mono fun e w' ⟨h1, h2⟩ => ⟨h1, ?_⟩
      rcases h2 with rfl | rfl
      · exact Below.refl _ _
      · exact Lib.bytesWorld_below _ _ _
    have c2 : ∀ W, Env W → Calls Tryd.prog 24 #[.int .u64 (u : Int)] W fun e w' => e = .returned (.string (dstr u)) ∧ Below W.heap.size W w' := fun W hW => print_at u hu W hW.toEnvT
    obtain ⟨r, hr⟩ : ∃ r, r = rd s.data.toList := ⟨_, rfl⟩
    rw [← hr]
    have hrv : r = if dstr u = s then some u else none := by
      rw [hr, rd, hm]
      dsimp only
      by_cases e : decDigits u = s.data.toList
      · rw [if_pos e, if_pos (dstr_eq.2 e)]
      · rw [if_neg e, if_neg (fun h => e (dstr_eq.1 h))]
    clear hr hm h
    have Hu := Lib.hid hu
    clear hu
    obtain ⟨U, hU⟩ : ∃ U : Int, U = (u : Int) := ⟨_, rfl⟩
    rw [← hU] at c1 c2
    have HU := Lib.hid hU
    obtain ⟨d, hd⟩ : ∃ d, d = dstr u := ⟨_, rfl⟩
    rw [← hd] at c2 hrv
    clear hU hd
    by_cases e : d = s
    · rw [if_pos e] at hrv
      have HR := Lib.hid hrv
      clear hrv
      subst e
      go_enter Tryd.func27, Tryd.ntmps27
      go_wp2_with fail
      refine (c1 _).mono ?_
      rintro e w1 ⟨rfl, hb1⟩
      go_wp2_with fail
      refine (c2 _ (he.kept hb1)).mono ?_
      rintro e w2 ⟨rfl, hb2⟩
      go_wp2
      go_ret2
      rw [HR.out, tupR, HU.out]
      exact ⟨rfl, hb1.trans (hb2.mono hb1.size)⟩
    · rw [if_neg e] at hrv
      have HR := Lib.hid hrv
      have hne := bl_ne e
      clear hrv e
      go_enter Tryd.func27, Tryd.ntmps27
      go_wp2_with fail
      refine (c1 _).mono ?_
      rintro e w1 ⟨rfl, hb1⟩
      go_wp2_with fail
      refine (c2 _ (he.kept hb1)).mono ?_
      rintro e w2 ⟨rfl, hb2⟩
      go_wp2
      go_ret2
      rw [HR.out]
      exact ⟨rfl, hb1.trans (hb2.mono hb1.size)⟩
  | «syntax» =>
    have hm : rd s.data.toList = none := by rw [rd, ← parseUintB_64, h]
    obtain ⟨tp, p, hv⟩ := he.syn
    have c1 : Calls Tryd.prog 35 #[.string s, .int .i64 10, .int .i64 64] w _ := Any.strconv_ParseUint_10_at64_syntax_var lU s (by omega) h tp p w hv
    rw [hm]
    go_enter Tryd.func27, Tryd.ntmps27
    go_wp2_with fail
    refine c1.mono ?_
    rintro e w1 ⟨N, rfl, _, _, hb1⟩
    go_wp2
    go_ret2
    exact ⟨rfl, hb1⟩
  | range =>
    have hm : rd s.data.toList = none := by rw [rd, ← parseUintB_64, h]
    obtain ⟨tp, p, hv⟩ := he.rng
    have c1 : Calls Tryd.prog 35 #[.string s, .int .i64 10, .int .i64 64] w _ := Any.strconv_ParseUint_10_at64_range_var lU s (by omega) h tp p w hv
    rw [hm]
    go_enter Tryd.func27, Tryd.ntmps27
    go_wp2_with fail
    refine c1.mono ?_
    rintro e w1 ⟨N, rfl, _, _, hb1⟩
    go_wp2
    go_ret2
    exact ⟨rfl, hb1⟩
end Go.Proofs.YthgecgehelnadaaDoor
