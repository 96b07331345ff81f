/-
  What the calls lean on: the table, the sentinels, the library's own number (Env).
-/
import Derived.Test.YtdchmpbmaeoeoaaDoorDEnvT
import Derived.Lib.AtoiErrMem
import Derived.Lib.ParseIntBCases
namespace Go.Proofs.YtdchmpbmaeoeoaaDoor
open Go.Shelf Go.RowKit Go.Sort
open Go.Lib hiding intOf
set_option linter.unusedVariables false
/-- what the calls lean on: the table of powers, the two errors, the library's own number -/
structure Env (w : World) : Prop extends EnvT w where
  syn : ∃ tp p, w.var? Tryd.prog "strconv.ErrSyntax" = some #[.iface tp p]
  rng : ∃ tp p, w.var? Tryd.prog "strconv.ErrRange" = some #[.iface tp p]
  ml : ∃ m, w.cell? ⟨2, 0, none⟩ = some (.int .i64 m)
theorem Env.kept {w w' : World} (h : Env w) (hb : Below w.heap.size w w') : Env w' := by
  obtain ⟨h1, ⟨a, b, h2⟩, ⟨c, d, h3⟩, ⟨m, h4⟩⟩ := h
  exact ⟨h1.kept hb, ⟨a, b, var_kept h2 hb⟩, ⟨c, d, var_kept h3 hb⟩, ⟨m, by rw [hb.cell (by exact Lib.lt_of_cell h4)]; exact h4⟩⟩
def tupR : Option Nat → Value
  | some u => .tuple #[.int .u64 (u : Int), .bool true]
  | none => .tuple #[.int .u64 0, .bool false]
theorem dstr_eq {u : Nat} {s : ByteArray} : dstr u = s ↔ decDigits u = s.data.toList := by
  constructor
  · rintro rfl; simp [dstr]
  · intro h; rw [dstr, h]
end Go.Proofs.YtdchmpbmaeoeoaaDoor
