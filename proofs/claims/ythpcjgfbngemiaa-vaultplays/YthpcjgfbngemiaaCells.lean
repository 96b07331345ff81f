/-
  copy, clear and append over rows of structs; rows of gaps and of blocks. No function is walked here.
-/
import Derived.Test.YthpcjgfbngemiaaBase
import Derived.Test.YthpcjgfbngemiaaChecked
import Derived.Laws.CopyRow
import Derived.Lib.AppendZerosOnto
import Derived.Lib.Overlaps
namespace Go.Proofs.Ythpcjgfbngemiaa
open Go.ChangeShapes Go.WideShapes Go.ChangeAt Go.RowKit
set_option linter.unusedVariables false
section
variable {P : Program}
theorem run_copy_rowK (w : World) (dT sT ty elem : TypeId) (k g o dLen dCap : Nat) (a : Addr) (sLen sCap : Nat) (cur : Array Value) (t : TypeId) (cs : List Value) (m : Nat)
    (hu : P.underlying dT = some (.slice elem)) (hs : (P.info? elem).map (·.size) = some k)
    (hg : w.heap[g]? = some (.cells cur t (0, 0))) (hm : m = Nat.min sLen dLen) (hn : cs.length = m * k)
    (hsrc : ∀ j v, cs[j]? = some v → w.cell? (a.add j) = some v) (hfit : o + cs.length ≤ cur.size) (h1 : ∀ v ∈ cs, v.oneCell' = true) :
    (Builtin.copy_ #[dT, sT] ty #[.slice (some ⟨g, o, none⟩) dLen dCap, .slice (some a) sLen sCap]).run P w =
      .ok (goInt m) (w.setRow g (cur.toList.take o ++ cs ++ cur.toList.drop (o + cs.length)).toArray) := by
  have hl := run_loadCells_list (P := P) w a cs hsrc
  have hst := run_storeCells_at P g o t cs 0 cur w hg (by simpa using hfit) h1
  cases hq : P.info? elem with
  | none => simp [hq] at hs
  | some i =>
    have hi : i.size = k := by simpa [hq] using hs
    simp [Builtin.copy_, run_underlying hu, Builtin.lenOf, Builtin.firstCells, sizeOf, typeInfo, hq, hi, ← hm, ← hn, hl, hst]
theorem run_clear_rowK (w : World) (t e ty : TypeId) (z : Value) (ht : P.underlying t = some (.slice e)) (hv : ∀ w, (zeroValue e).run P w = .ok z w) (h1 : ∀ v ∈ z.cells, v.oneCell' = true) (g o c : Nat) (cur : Array Value) (t' : TypeId)
    (hg : w.heap[g]? = some (.cells cur t' (0, 0))) (hfit : o + z.cells.size ≤ cur.size) :
    (Builtin.clear_ #[t] ty #[.slice (some ⟨g, o, none⟩) 1 c]).run P w = .ok (.tuple #[]) (w.setRow g (cur.toList.take o ++ z.cells.toList ++ cur.toList.drop (o + z.cells.size)).toArray) := by
  have hzc : (Builtin.zeroCells z.cells 1).toList = z.cells.toList := by
    simp [Builtin.zeroCells]
    apply List.ext_getElem
    · simp
    · intro i h1 h2
      simp at h1
      simp [Nat.mod_eq_of_lt h1, h1]
  have hst := run_storeCells_at P g o t' z.cells.toList 0 cur w hg (by simpa using hfit) (by simpa using h1)
  simp only [Nat.add_zero, Array.length_toList] at hst
  simp [Builtin.clear_, run_underlying ht, hv, hzc, hst]
end
theorem grown_setRow {w : World} {g : Nat} (cs : Array Value) : w.grownBy (w.setRow g cs) (some g) := ⟨rfl, rfl, rfl, by simp, fun k _ hk => setRow_other w g k _ (fun e => hk (by simp [e]))⟩
/-! ### gaps -/
def genc (p : Int × Int) : List Value := [.int .i64 p.1, .int .i64 p.2]
abbrev gvals (l : List (Int × Int)) : List Value := rvals genc l
theorem genc_len (x : Int × Int) : (genc x).length = 2 := rfl
theorem gvals_len (l : List (Int × Int)) : (gvals l).length = l.length * 2 := rvals_len genc_len l
theorem gvals_append (a b : List (Int × Int)) : gvals (a ++ b) = gvals a ++ gvals b := rvals_append a b
theorem gvals_take (l : List (Int × Int)) (k : Nat) : gvals (l.take k) = (gvals l).take (k * 2) := rvals_take genc_len l k
theorem gvals_drop (l : List (Int × Int)) (k : Nat) : gvals (l.drop k) = (gvals l).drop (k * 2) := rvals_drop genc_len l k
theorem genc_one : ∀ x, ∀ v ∈ genc x, v.oneCell' = true := fun x v hv => by simp [genc] at hv; rcases hv with rfl | rfl <;> rfl
theorem info76 : (Try.prog.info? 76).map (fun i => (i.zero, i.size, i.bytes)) = some (some (.agg #[.int .i64 0, .int .i64 0]), 2, 16) := by kernel_rfl
theorem size76 : (Try.prog.info? 76).map (·.size) = some 2 := by kernel_rfl
theorem info_parts {P : Program} {t : TypeId} {z : Value} {a b : Nat} (h : (P.info? t).map (fun i => (i.zero, i.size, i.bytes)) = some (some z, a, b)) : ∃ i, P.info? t = some i ∧ i.zero = some z ∧ i.size = a ∧ i.bytes = b := by
  cases hq : P.info? t with
  | none => rw [hq] at h; cases h
  | some i =>
    rw [hq] at h
    simp at h
    exact ⟨i, rfl, h.1, h.2.1, h.2.2⟩
theorem zero76 (w : World) : (zeroValue 76).run Try.prog w = .ok (.agg #[.int .i64 0, .int .i64 0]) w := by
  obtain ⟨i, h1, h2, _⟩ := info_parts info76
  simp [zeroValue, typeInfo, h1, h2]
/-- a row of gaps -/
def GRow (w : World) (lo : Nat) (v : Value) (l : List (Int × Int)) : Prop := w.ownsRow lo 76 2 v l.length (gvals l)
section
variable {w w' : World} {lo g c : Nat} {l : List (Int × Int)} {v : Value}
theorem GRow.cells (h : GRow w lo (.slice (some ⟨g, 0, none⟩) l.length c) l) {i : Nat} {p : Int × Int} (hi : l[i]? = some p) : w.cell? ⟨g, i * 2, none⟩ = some (.int .i64 p.1) ∧ w.cell? ⟨g, i * 2 + 1, none⟩ = some (.int .i64 p.2) := by
  have hl : i < l.length := (List.getElem?_eq_some_iff.1 hi).1
  have h0 := h.cellAt (i * 2) (by omega)
  have h1 := h.cellAt (i * 2 + 1) (by omega)
  exact ⟨h0.trans (rvals_get genc_len hi (j := 0) (by omega)), h1.trans (rvals_get genc_len hi (j := 1) (by omega))⟩
theorem ix54 (g p n c : Nat) (hp : p < n) (w : World) : (Instr.indexAt 54 (Value.slice (some { block := g, off := 0 }) n c) (Value.int .i64 p)).run Try.prog w = .ok (.pointer (some ⟨g, p * 2, none⟩)) w := by
  simp [go_sem, hp]
theorem ld76 {g o : Nat} {x y : Int} {w : World} (h1 : w.cell? ⟨g, o, none⟩ = some (.int .i64 x)) (h2 : w.cell? ⟨g, o + 1, none⟩ = some (.int .i64 y)) :
    (loadVar 76 ⟨g, o, none⟩).run Try.prog w = .ok (.agg #[.int .i64 x, .int .i64 y]) w :=
  run_loadVar_mid (P := Try.prog) w g o 76 [.int .i64 x, .int .i64 y] _ (fun j v hv => by
    have hj : j < 2 := (List.getElem?_eq_some_iff.1 hv).1
    obtain rfl | rfl : j = 0 ∨ j = 1 := by omega
    · simp at hv; subst hv; exact h1
    · simp at hv; subst hv; exact h2) Try.underlying76 rfl (by kernel_rfl)
end
end Go.Proofs.Ythpcjgfbngemiaa
