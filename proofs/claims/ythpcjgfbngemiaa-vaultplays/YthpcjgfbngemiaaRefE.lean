/-
  The document's vault: rows of blocks are built.
-/
import Derived.Test.YthpcjgfbngemiaaRefD
namespace Go.Proofs.Ythpcjgfbngemiaa
open Go.ChangeShapes Go.WideShapes Go.ChangeAt Go.RowKit
set_option linter.unusedVariables false
set_option maxRecDepth 100000
def renc (x : RB) : List Value := [.int .i64 x.1, .int .i64 x.2.1, .string x.2.2]
theorem renc_len (x : RB) : (renc x).length = 3 := rfl
theorem renc_one : ∀ x, ∀ v ∈ renc x, v.oneCell' = true := fun x v hv => by simp [renc] at hv; rcases hv with rfl | rfl | rfl <;> rfl
theorem info63 : (Try.prog.info? 63).map (fun i => (i.zero, i.size, i.bytes)) = some (some (.agg #[.int .i64 0, .int .i64 0, .string ⟨#[]⟩]), 3, 32) := by kernel_rfl
/-- blocks are appended -/
theorem appR {w : World} {base n : Nat} {v : Value} {l l2 : List RB} (ho : w.ownsRow base 63 3 v n (rvals renc l)) (hb : base ≤ w.heap.size) (a : Addr) (m c : Nat) (hm : l2.length = m) (hn : n + m ≤ 100000)
    (hc : ∀ j u, (rvals renc l2)[j]? = some u → w.cell? (a.add j) = some u) :
    ∃ D c' w1, (Builtin.append_ #[28, 28] 28 #[v, .slice (some a) m c]).run Try.prog w = .ok (.slice D (n + m) c') w1 ∧ w1.ownsRow base 63 3 (.slice D (n + m) c') (n + m) (rvals renc (l ++ l2)) ∧ Below base w w1 := by
  obtain ⟨i0, hi0, hz0, hz1, hz2⟩ := info_parts info63
  obtain ⟨v', w', hrun, h1, hg, _⟩ := run_append_own (P := Try.prog) w base 28 28 63 i0 _ 3 32 Try.underlying28 hi0 hz0 hz1 hz2 rfl (by decide) v n (rvals renc l) ho a m c (rvals renc l2) (by rw [rvals_len renc_len, hm]) hc (rvals_one renc_one _) (by unfold maxLen; omega) (by omega) hb
  obtain ⟨D, c', rfl⟩ := owns_slice h1
  exact ⟨D, c', w', hrun, by rw [rvals_append]; exact h1, (Below.refl base w).grown hg hb fun k hk => (ho.lt k hk).1⟩
/-- one block that was just laid -/
theorem appR1 {w : World} {base n : Nat} {v : Value} {l : List RB} (x : RB) (ho : w.ownsRow base 63 3 v n (rvals renc l)) (hb : base ≤ w.heap.size) (hn : n + 1 ≤ 100000) :
    ∃ D c' w1, (Builtin.append_ #[28, 28] 28 #[v, .slice (some ⟨w.heap.size, 0, none⟩) 1 1]).run Try.prog (w.alloc (.cells #[.int .i64 x.1, .int .i64 x.2.1, .string x.2.2] 63)) = .ok (.slice D (n + 1) c') w1 ∧ w1.ownsRow base 63 3 (.slice D (n + 1) c') (n + 1) (rvals renc (l ++ [x])) ∧ Below base w w1 := by
  obtain ⟨D, c', w1, h1, h2, h3⟩ := appR (l2 := [x]) (ho.alloc (.cells #[.int .i64 x.1, .int .i64 x.2.1, .string x.2.2] 63)) (by simp; omega) ⟨w.heap.size, 0, none⟩ 1 1 rfl hn (fun j u hu => by
    rw [Go.WideShapes.add_plain]
    have := cell_of_head (heap_alloc_new w (.cells #[.int .i64 x.1, .int .i64 x.2.1, .string x.2.2] 63)) j
    rw [Nat.zero_add, this]
    have e : rvals renc [x] = [.int .i64 x.1, .int .i64 x.2.1, .string x.2.2] := by simp [rvals, renc]
    rw [e] at hu
    simpa using hu)
  exact ⟨D, c', w1, h1, h2, ((Below.refl base w).alloc hb _).trans h3⟩
/-- what is built is a row -/
theorem owns_rrow {w : World} {base n c : Nat} {A : Option Addr} {l : List RB} (ho : w.ownsRow base 63 3 (.slice A n c) n (rvals renc l)) : l.length = n ∧ RRow w A l := by
  have h1 := ho.1
  rw [rvals_len renc_len] at h1
  have hl : l.length = n := by omega
  refine ⟨hl, ?_⟩
  by_cases h0 : n = 0
  · exact .inl (List.length_eq_zero_iff.1 (hl.trans h0))
  · obtain ⟨g, cap, e⟩ := owns_some ho (by omega)
    injection e with e1 _ _
    subst e1
    refine .inr ⟨g, 0, rfl, fun i x hi => ?_⟩
    have hil : i < n := by have := (List.getElem?_eq_some_iff.1 hi).1; omega
    have kc := fun j (hj : j < 3) => (ho.cellAt (i * 3 + j) (by omega)).trans (rvals_get renc_len hi hj)
    refine ⟨?_, ?_, ?_⟩
    · rw [Nat.zero_add]; exact kc 0 (by omega)
    · rw [Nat.zero_add]; exact kc 1 (by omega)
    · rw [Nat.zero_add]; exact kc 2 (by omega)
/-- the cells of a row from a place on -/
theorem rrow_drop {w : World} {g off k : Nat} {l : List RB} (h : ∀ i x, l[i]? = some x → w.cell? ⟨g, off + i * 3, none⟩ = some (.int .i64 x.1) ∧ w.cell? ⟨g, off + i * 3 + 1, none⟩ = some (.int .i64 x.2.1) ∧ w.cell? ⟨g, off + i * 3 + 2, none⟩ = some (.string x.2.2)) :
    ∀ j u, (rvals renc (l.drop k))[j]? = some u → w.cell? ((⟨g, off + k * 3, none⟩ : Addr).add j) = some u := fun j u hu => by
  rw [Go.WideShapes.add_plain]
  have hj : j < (l.drop k).length * 3 := by
    have := (List.getElem?_eq_some_iff.1 hu).1
    rw [rvals_len renc_len] at this
    exact this
  have hq : j / 3 < (l.drop k).length := by omega
  have hx := List.getElem?_eq_getElem hq
  have h2 := rvals_get renc_len hx (j := j % 3) (by omega)
  rw [show j / 3 * 3 + j % 3 = j by omega, hu] at h2
  have hx2 : l[k + j / 3]? = some (l.drop k)[j / 3] := by rw [← hx, List.getElem?_drop]
  obtain ⟨c0, c1, c2⟩ := h _ _ hx2
  rcases (show j % 3 = 0 ∨ j % 3 = 1 ∨ j % 3 = 2 by omega) with e | e | e
  · rw [e] at h2
    rw [show off + k * 3 + j = off + (k + j / 3) * 3 by omega, c0, h2]; rfl
  · rw [e] at h2
    rw [show off + k * 3 + j = off + (k + j / 3) * 3 + 1 by omega, c1, h2]; rfl
  · rw [e] at h2
    rw [show off + k * 3 + j = off + (k + j / 3) * 3 + 2 by omega, c2, h2]; rfl
/-- a list of blocks, and one more -/
def rW (l : List RB) (x : RB) : List RB := l.takeWhile (fun y => rA y x) ++ x :: l.dropWhile (fun y => rA y x)
end Go.Proofs.Ythpcjgfbngemiaa
