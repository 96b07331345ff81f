/-
  Rows of bytes: what is handed in, what is built.
-/
import Derived.Test.YtieeanbmdaaldaaDoorFmt
import Derived.Test.YtieeanbmdaaldaaDoorHexM
import Derived.Laws.AppendOwn
import Derived.Laws.OwnMore
import Derived.Laws.MakeOwn
import Derived.Laws.BytesArg
import Derived.Laws.IdiomStrings
import Derived.Below
import Derived.OwnWalk
import Derived.Deep.RegionLaw
namespace Go.Proofs.YtieeanbmdaaldaaDoor
open Go.Shelf Go.RowKit Go.Sort
open Go.Lib hiding intOf
set_option linter.unusedVariables false
/-- an append whose run is known, in a plain walk -/
theorem append_run {P : Program} {w : World} {ops : Array Oper} {rest : List Oper} {o : Oper} {a : Act} {Q : Exit → Act → World → Prop} (hg : o.guard = none) (s x : Operand) (t : TypeId)
    (hop : o.op = Op.call { callee := Callee.builtin Builtin.append, args := #[s, x], argTypes := #[t, t] }) {v u v' : Value} {w' : World} (hs : a.eval s = v) (hx : a.eval x = u)
    (hrun : (Builtin.append_ #[t, t] o.type #[v, u]).run P w = .ok v' w') (hK : wpList P ops Q rest (a.put o.dst v') w') : wpList P ops Q (o :: rest) a w := by
  refine wpList_plain hg fun K k => ?_
  unfold Oper.wp
  simp [execOp, hop, resolve, invoke, builtin, hs, hx, hrun, Result.andThen]
  exact k _ _ hK
/-- the same as a step of a region that draws its order -/
theorem step_append_run {P : Program} {w : World} {ops : Array Oper} {o : Oper} {a : Act} {K : Act → World → Prop} {Q : Exit → Act → World → Prop} {E : Prop} (hgd : o.guard = none) (s x : Operand) (t : TypeId)
    (hop : o.op = Op.call { callee := Callee.builtin Builtin.append, args := #[s, x], argTypes := #[t, t] }) {v u v' : Value} {w' : World} (hs : a.eval s = v) (hx : a.eval x = u)
    (hrun : (Builtin.append_ #[t, t] o.type #[v, u]).run P w = .ok v' w') (hK : K (a.put o.dst v') w') : if Region.wanted o (yielded ops a.tmps) = true then Oper.wp P o a w K Q else E := by
  have hw : Region.wanted o (yielded ops a.tmps) = true := by simp [Region.wanted, hgd]
  rw [if_pos hw]
  unfold Oper.wp
  simp [execOp, hop, resolve, invoke, builtin, hs, hx, hrun, Result.andThen]
  exact hK
def bvals (l : List UInt8) : List Value := l.map fun c => .int .u8 (c.toNat : Int)
theorem bvals_len (l : List UInt8) : (bvals l).length = l.length := by simp [bvals]
theorem bvals_app (l r : List UInt8) : bvals (l ++ r) = bvals l ++ bvals r := by simp [bvals]
theorem info5 : (Tryd.prog.info? 5).map (fun i => (i.zero, i.size, i.bytes)) = some (some (.int .u8 0), 1, 1) := by kernel_rfl
theorem info_parts {P : Program} {e : TypeId} {z : Value} {s b : Nat} (h : (P.info? e).map (fun i => (i.zero, i.size, i.bytes)) = some (some z, s, b)) : ∃ i, P.info? e = some i ∧ i.zero = some z ∧ i.size = s ∧ i.bytes = b := by
  cases hi : P.info? e with
  | none => rw [hi] at h; cases h
  | some i =>
    rw [hi] at h
    simp only [Option.map_some, Option.some.injEq, Prod.mk.injEq] at h
    exact ⟨i, rfl, h.1, h.2.1, h.2.2⟩
theorem grown_below {base : Nat} {w w' : World} {v : Value} {n : Nat} {xs : List Value} {e s : Nat} (ho : w.ownsRow base e s v n xs) (hg : w.grownBy w' v.ownBlock) (hb : base ≤ w.heap.size) : Below base w w' :=
  (Below.refl base w).grown hg hb fun k hk => (ho.lt k hk).1
theorem appB {w : World} {base n m c : Nat} {v : Value} {l new : List UInt8} (ho : w.ownsRow base 5 1 v n (bvals l)) (hb : base ≤ w.heap.size) (hn : n + m ≤ 1000000) (a : Addr) (hm : new.length = m)
    (hc : ∀ j u, (bvals new)[j]? = some u → w.cell? (a.add j) = some u) :
    ∃ v' w1, (Builtin.append_ #[32, 32] 32 #[v, .slice (some a) m c]).run Tryd.prog w = .ok v' w1 ∧ w1.ownsRow base 5 1 v' (n + m) (bvals (l ++ new)) ∧ Below base w w1 := by
  obtain ⟨i0, hi, hz0, hz1, hz2⟩ := info_parts info5
  obtain ⟨v', w1, h1, h2, h3, _⟩ := run_append_own (P := Tryd.prog) w base 32 32 5 i0 (.int .u8 0) 1 1 Tryd.underlying32 hi hz0 hz1 hz2 rfl (by decide) v n (bvals l) ho a m c (bvals new) (by rw [bvals_len, hm, Nat.mul_one]) hc
    (fun u hu => by obtain ⟨z, _, rfl⟩ := List.mem_map.1 hu; rfl) (by unfold maxLen; omega) (by omega) hb
  exact ⟨v', w1, h1, by rw [bvals_app]; exact h2, grown_below ho h3 hb⟩
/-- one byte that was just laid -/
theorem app1 {w : World} {base n : Nat} {v : Value} {l : List UInt8} (x : UInt8) (ho : w.ownsRow base 5 1 v n (bvals l)) (hb : base ≤ w.heap.size) (hn : n + 1 ≤ 1000000) :
    ∃ v' w1, (Builtin.append_ #[32, 32] 32 #[v, .slice (some ⟨w.heap.size, 0, none⟩) 1 1]).run Tryd.prog (w.alloc (.cells #[.int .u8 (x.toNat : Int)] 5)) = .ok v' w1 ∧ w1.ownsRow base 5 1 v' (n + 1) (bvals (l ++ [x])) ∧ Below base w w1 := by
  obtain ⟨v', w1, h1, h2, h3⟩ := appB (c := 1) (ho.alloc (.cells #[.int .u8 (x.toNat : Int)] 5)) (by simp; omega) hn ⟨w.heap.size, 0, none⟩ (new := [x]) rfl (fun j u hu => by
    have hj : j < 1 := (List.getElem?_eq_some_iff.1 hu).1
    obtain rfl : j = 0 := by omega
    simp [bvals] at hu
    subst hu
    rw [Lib.add_plain, World.cell?_alloc_new]
    rfl)
  exact ⟨v', w1, h1, h2, ((Below.refl base w).alloc hb _).trans h3⟩
/-- two bytes that were just laid, in a region that draws its order -/
theorem app2 {w : World} {base n : Nat} {v : Value} {l : List UInt8} (x y : UInt8) (ho : w.ownsRow base 5 1 v n (bvals l)) (hb : base ≤ w.heap.size) (hn : n + 2 ≤ 1000000) :
    ∃ v' w1, (Builtin.append_ #[32, 32] 32 #[v, .slice (some ⟨w.heap.size, 0, none⟩) 2 2]).run Tryd.prog ((w.alloc (.cells #[.int .u8 (x.toNat : Int), .int .u8 (y.toNat : Int)] 5)).drew) = .ok v' w1 ∧ w1.ownsRow base 5 1 v' (n + 2) (bvals (l ++ [x, y])) ∧ Below base w w1 := by
  have ho2 : ((w.alloc (.cells #[.int .u8 (x.toNat : Int), .int .u8 (y.toNat : Int)] 5)).drew).ownsRow base 5 1 v n (bvals l) := ho.alloc (.cells #[.int .u8 (x.toNat : Int), .int .u8 (y.toNat : Int)] 5)
  obtain ⟨v', w1, h1, h2, h3⟩ := appB (c := 2) ho2 (by show base ≤ (w.alloc _).heap.size; simp; omega) hn ⟨w.heap.size, 0, none⟩ (new := [x, y]) rfl (fun j u hu => by
    have hj : j < 2 := (List.getElem?_eq_some_iff.1 hu).1
    show (w.alloc _).cell? _ = _
    rw [Lib.add_plain, World.cell?_alloc_new]
    rcases (show j = 0 ∨ j = 1 by omega) with rfl | rfl
    · simp [bvals] at hu; subst hu; rfl
    · simp [bvals] at hu; subst hu; rfl)
  exact ⟨v', w1, h1, h2, (((Below.refl base w).alloc hb _).drew).trans h3⟩
theorem makeB (c : Nat) (z : Int) (hz : z = (c : Int)) (hc : c ≤ 1000000) (w : World) : ∃ w1, (Instr.makeSlice 32 (.int .i64 0) (.int .i64 z)).run Tryd.prog w = .ok (.slice (some ⟨w.heap.size, 0, none⟩) 0 c) w1 ∧ w1.ownsRow w.heap.size 5 1 (.slice (some ⟨w.heap.size, 0, none⟩) 0 c) 0 (bvals []) ∧ Below w.heap.size w w1 := by
  obtain ⟨i0, hi, hz0, hz1, hz2⟩ := info_parts info5
  obtain ⟨w1, h1, h2, h3⟩ := run_make_own (P := Tryd.prog) w w.heap.size 32 5 i0 (.int .u8 0) 1 Tryd.underlying32 hi hz0 hz1 .i64 .i64 c (by rw [hz2]; omega) (by unfold maxLen; omega) (Nat.le_refl _)
  exact ⟨w1, by rw [hz]; exact h1, h2, (Below.refl _ _).grown h3 (Nat.le_refl _) fun k hk => by cases hk⟩
/-- what is built, as a string -/
theorem conv_own {w : World} {base n : Nat} {v : Value} {l : List UInt8} (ho : w.ownsRow base 5 1 v n (bvals l)) : (convert 32 9 v).run Tryd.prog w = .ok (.string ⟨l.toArray⟩) w := by
  obtain ⟨h1, h2⟩ := ho
  rw [bvals_len, Nat.mul_one] at h1
  rcases h2 with ⟨rfl, rfl⟩ | ⟨g, cap, cur, rfl, hg, hh, hcap, hm, hs, ht⟩
  · obtain rfl := List.length_eq_zero_iff.1 h1
    exact run_convert_bytes_nil w 32 5 Tryd.underlying32 Tryd.underlying5 0 0 9 Tryd.underlying9
  · subst h1
    refine run_convert_bytes_back w 32 9 5 ⟨g, 0, none⟩ cap l Tryd.underlying32 Tryd.underlying5 Tryd.underlying9 fun j hj => ?_
    rw [Lib.add_plain]
    have hx : (bvals l)[j]? = some (.int .u8 (l[j].toNat : Int)) := by simp [bvals, hj]
    rw [← ht, Nat.mul_one, List.getElem?_take, if_pos hj] at hx
    simp only [World.cell?, hh, Nat.zero_add]
    simpa using hx
/-- bytes that are handed in -/
def BRow (w : World) (A : Option Addr) (l : List UInt8) : Prop := l = [] ∨ ∃ b off, A = some ⟨b, off, none⟩ ∧ ∀ j (hj : j < l.length), w.cell? ⟨b, off + j, none⟩ = some (.int .u8 (l[j].toNat : Int))
theorem BRow.kept {w w' : World} {A : Option Addr} {l : List UInt8} (h : BRow w A l) (hb : Below w.heap.size w w') : BRow w' A l := by
  rcases h with h | ⟨b, off, e, h⟩
  · exact .inl h
  · exact .inr ⟨b, off, e, fun j hj => by rw [hb.cell (by exact Lib.lt_of_cell (h j hj))]; exact h j hj⟩
theorem conv_row {w : World} {A : Option Addr} {l : List UInt8} (h : BRow w A l) (cap : Nat) : (convert 32 9 (.slice A l.length cap)).run Tryd.prog w = .ok (.string ⟨l.toArray⟩) w := by
  rcases h with rfl | ⟨b, off, rfl, h⟩
  · rw [run_convert_bytes_string w 32 9 5 A ([] : List UInt8).length cap Tryd.underlying32 Tryd.underlying5 Tryd.underlying9]
    cases A <;> simp [Conv.bytesToString] <;> rfl
  · refine run_convert_bytes_back w 32 9 5 ⟨b, off, none⟩ cap l Tryd.underlying32 Tryd.underlying5 Tryd.underlying9 fun j hj => ?_
    rw [Lib.add_plain]
    exact h j hj
theorem own_row {w : World} {base n : Nat} {v : Value} {l : List UInt8} (ho : w.ownsRow base 5 1 v n (bvals l)) : ∃ A cap, v = .slice A l.length cap ∧ BRow w A l := by
  obtain ⟨h1, h2⟩ := ho
  rw [bvals_len, Nat.mul_one] at h1
  rcases h2 with ⟨rfl, rfl⟩ | ⟨g, cap, cur, rfl, hg, hh, hcap, hm, hs, ht⟩
  · exact ⟨none, 0, by rw [h1], .inl (List.length_eq_zero_iff.1 h1)⟩
  · subst h1
    refine ⟨_, cap, rfl, .inr ⟨g, 0, rfl, fun j hj => ?_⟩⟩
    have hx : (bvals l)[j]? = some (.int .u8 (l[j].toNat : Int)) := by simp [bvals, hj]
    rw [← ht, Nat.mul_one, List.getElem?_take, if_pos hj] at hx
    simp only [World.cell?, hh, Nat.zero_add]
    simpa using hx
end Go.Proofs.YtieeanbmdaaldaaDoor
