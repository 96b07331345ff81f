/-
  Rows of strings.
-/
import Derived.Test.YtdchmpbmaeoeoaaDoorDEnvT
import Derived.Test.YtdchmpbmaeoeoaaDoorDWordsM
import Derived.Laws.AppendOwn
import Derived.Laws.OwnMore
import Derived.Laws.MakeOwn
import Derived.Laws.BytesArg
import Derived.Laws.IdiomStrings
import Derived.Laws.Strings3
import Derived.Laws.DeepStrings4
import Derived.Below
import Derived.OwnWalk
import Derived.Deep.RegionLaw
import Derived.Deep.RegionHeld3
import Derived.BigRegion
namespace Go.Proofs.YtdchmpbmaeoeoaaDoor
open Go.Shelf Go.RowKit Go.Sort
open Go.Lib hiding intOf
set_option linter.unusedVariables false
theorem size_list (s : ByteArray) : s.data.toList.length = s.size := by rw [Array.length_toList]; rfl
/-- an append whose run is known, in a plain walk -/
theorem append_run {P : Program} {w : World} {ops : Array Oper} {rest : List Oper} {o : Oper} {a : Act} {Q : Exit → Act → World → Prop} (hg : o.guard = none) (s x : Operand) (t : TypeId)
    (hop : o.op = Op.call { callee := Callee.builtin Builtin.append, args := #[s, x], argTypes := #[t, t] }) {v u v' : Value} {w' : World} (hs : a.eval s = v) (hx : a.eval x = u)
    (hrun : (Builtin.append_ #[t, t] o.type #[v, u]).run P w = .ok v' w') (hK : wpList P ops Q rest (a.put o.dst v') w') : wpList P ops Q (o :: rest) a w := by
  refine wpList_plain hg fun K k => ?_
  unfold Oper.wp
  simp [execOp, hop, resolve, invoke, builtin, hs, hx, hrun, Result.andThen]
  exact k _ _ hK
/-- the same as a step of a region that draws its order -/
theorem step_append_run {P : Program} {w : World} {ops : Array Oper} {o : Oper} {a : Act} {K : Act → World → Prop} {Q : Exit → Act → World → Prop} {E : Prop} (hgd : o.guard = none) (s x : Operand) (t : TypeId)
    (hop : o.op = Op.call { callee := Callee.builtin Builtin.append, args := #[s, x], argTypes := #[t, t] }) {v u v' : Value} {w' : World} (hs : a.eval s = v) (hx : a.eval x = u)
    (hrun : (Builtin.append_ #[t, t] o.type #[v, u]).run P w = .ok v' w') (hK : K (a.put o.dst v') w') : if Region.wanted o (yielded ops a.tmps) = true then Oper.wp P o a w K Q else E := by
  have hw : Region.wanted o (yielded ops a.tmps) = true := by simp [Region.wanted, hgd]
  rw [if_pos hw]
  unfold Oper.wp
  simp [execOp, hop, resolve, invoke, builtin, hs, hx, hrun, Result.andThen]
  exact hK
theorem info_parts {P : Program} {e : TypeId} {z : Value} {s b : Nat} (h : (P.info? e).map (fun i => (i.zero, i.size, i.bytes)) = some (some z, s, b)) : ∃ i, P.info? e = some i ∧ i.zero = some z ∧ i.size = s ∧ i.bytes = b := by
  cases hi : P.info? e with
  | none => rw [hi] at h; cases h
  | some i =>
    rw [hi] at h
    simp only [Option.map_some, Option.some.injEq, Prod.mk.injEq] at h
    exact ⟨i, rfl, h.1, h.2.1, h.2.2⟩
theorem grown_below {base : Nat} {w w' : World} {v : Value} {n : Nat} {xs : List Value} {e s : Nat} (ho : w.ownsRow base e s v n xs) (hg : w.grownBy w' v.ownBlock) (hb : base ≤ w.heap.size) : Below base w w' :=
  (Below.refl base w).grown hg hb fun k hk => (ho.lt k hk).1
theorem below_grown {w w' : World} (h : Below w.heap.size w w') : w.grownBy w' none := ⟨h.os, h.tape, h.output, h.size, fun k hk _ => h.block k hk⟩
theorem below_drew {w : World} {B : Nat} {w' : World} (h : Below B w w') (n : Nat) : Below B w (w'.drewN n) := ⟨h.os, h.tape, h.output, h.size, h.block⟩
theorem own_below {w w' : World} {base n : Nat} {v : Value} {xs : List Value} {e s : Nat} (ho : w.ownsRow base e s v n xs) (h : Below w.heap.size w w') : w'.ownsRow base e s v n xs := by
  refine ho.kept (below_grown h) ?_
  cases e : v.ownBlock with
  | none => exact .inl rfl
  | some k => exact .inr (by simp)
theorem slice_two (s : ByteArray) (i j : Nat) (h1 : i ≤ j) (h2 : j ≤ s.size) (J : Int) (hJ : J = (j : Int)) (f : ByteArray) (hf : f = s.extract i j) (W : World) :
    (Instr.slice 9 (.string s) (some (.int .i64 (i : Int))) (some (.int .i64 J)) none).run Tryd.prog W = .ok (.string f) W := by
  subst hJ hf
  rw [run_slice_string_if W 9 s .i64 .i64 _ _ Tryd.underlying9, if_pos ⟨by omega, by omega⟩, if_pos ⟨by omega, by omega⟩]
  simp
/-- a row of strings -/
def svals (l : List (List UInt8)) : List Value := l.map fun x => .string ⟨x.toArray⟩
theorem svals_len (l : List (List UInt8)) : (svals l).length = l.length := by simp [svals]
def mkS (x : List UInt8) : ByteArray := ⟨x.toArray⟩
theorem mkS_list (x : List UInt8) : (mkS x).data.toList = x := by simp [mkS]
theorem mkS_of (s : ByteArray) : mkS s.data.toList = s := by apply ByteArray.ext; simp [mkS]
/-- strings that are read -/
def SRow (w : World) (A : Option Addr) (l : List (List UInt8)) : Prop := l = [] ∨ ∃ b off, A = some ⟨b, off, none⟩ ∧ ∀ j (hj : j < l.length), w.cell? ⟨b, off + j, none⟩ = some (.string (mkS l[j]))
theorem SRow.kept {w w' : World} {A : Option Addr} {l : List (List UInt8)} (h : SRow w A l) (hb : Below w.heap.size w w') : SRow w' A l := by
  rcases h with h | ⟨b, off, e, h⟩
  · exact .inl h
  · exact .inr ⟨b, off, e, fun j hj => by rw [hb.cell (by exact Lib.lt_of_cell (h j hj))]; exact h j hj⟩
theorem svals_app (l r : List (List UInt8)) : svals (l ++ r) = svals l ++ svals r := by simp [svals]
theorem info9 : (Tryd.prog.info? 9).map (fun i => (i.zero, i.size, i.bytes)) = some (some (.string ⟨#[]⟩), 1, 16) := by kernel_rfl
theorem appS {w : World} {base n : Nat} {v : Value} {l : List (List UInt8)} (x : List UInt8) (s : ByteArray) (hs : s = mkS x) (ho : w.ownsRow base 9 1 v n (svals l)) (hb : base ≤ w.heap.size) (hn : n + 1 ≤ 1000000) :
    ∃ v' w1, (Builtin.append_ #[48, 48] 48 #[v, .slice (some ⟨w.heap.size, 0, none⟩) 1 1]).run Tryd.prog (w.alloc (.cells #[.string s] 9)) = .ok v' w1 ∧ w1.ownsRow base 9 1 v' (n + 1) (svals (l ++ [x])) ∧ Below base w w1 := by
  obtain ⟨i0, hi, hz0, hz1, hz2⟩ := info_parts info9
  obtain ⟨v', w1, h1, h2, h3, _⟩ := run_append_own (P := Tryd.prog) (w.alloc (.cells #[.string s] 9)) base 48 48 9 i0 (.string ⟨#[]⟩) 1 16 Tryd.underlying48 hi hz0 hz1 hz2 rfl (by decide) v n (svals l) (ho.alloc _) ⟨w.heap.size, 0, none⟩ 1 1 (svals [x]) rfl (fun j u hu => by
    have hj : j < 1 := (List.getElem?_eq_some_iff.1 hu).1
    obtain rfl : j = 0 := by omega
    simp [svals] at hu
    subst hu
    rw [Lib.add_plain, World.cell?_alloc_new, hs]
    rfl) (fun u hu => by obtain ⟨z, _, rfl⟩ := List.mem_map.1 hu; rfl) (by unfold maxLen; omega) (by omega) (by simp; omega)
  exact ⟨v', w1, h1, by rw [svals_app]; exact h2, ((Below.refl base w).alloc hb _).trans (grown_below (ho.alloc _) h3 (by simp; omega))⟩
theorem owns_srow {w : World} {base n : Nat} {v : Value} {l : List (List UInt8)} (ho : w.ownsRow base 9 1 v n (svals l)) : ∃ A cap, v = .slice A l.length cap ∧ SRow w A l := by
  obtain ⟨h1, h2⟩ := ho
  rw [svals_len, Nat.mul_one] at h1
  rcases h2 with ⟨rfl, rfl⟩ | ⟨g, cap, cur, rfl, hg, hh, hcap, hm, hs, ht⟩
  · exact ⟨none, 0, by rw [h1], .inl (List.length_eq_zero_iff.1 h1)⟩
  · subst h1
    refine ⟨_, cap, rfl, .inr ⟨g, 0, rfl, fun j hj => ?_⟩⟩
    have hx : (svals l)[j]? = some (.string (mkS l[j])) := by simp [svals, hj, mkS]
    rw [← ht, Nat.mul_one, List.getElem?_take, if_pos hj] at hx
    simp only [World.cell?, hh, Nat.zero_add]
    simpa using hx
theorem alloc_srow (w : World) (l : List (List UInt8)) : SRow (w.alloc (.cells (svals l).toArray 9)) (some ⟨w.heap.size, 0, none⟩) l := by
  refine .inr ⟨_, 0, rfl, fun j hj => ?_⟩
  rw [World.cell?_alloc_new]
  have hx : (svals l)[j]? = some (.string (mkS l[j])) := by simp [svals, hj, mkS]
  simpa using hx
theorem map_mkS (l : List (List UInt8)) : (l.map mkS).map (·.data.toList) = l := by
  rw [List.map_map]
  exact (List.map_congr_left (g := id) (fun x _ => mkS_list x)).trans (List.map_id l)
theorem join_snoc (l : List (List UInt8)) (x : List UInt8) : join (l ++ [x]) [32] = if l.length = 0 then x else join l [32] ++ [32] ++ x := by
  cases l with
  | nil => simp [join_one]
  | cons a r =>
    rw [List.cons_append, join_cons, join_cons, if_neg (by simp)]
    simp [joinTail]
theorem str_join (a b : List UInt8) : (mkS a ++ mkS b : ByteArray) = mkS (a ++ b) := by
  apply ByteArray.ext
  simp [mkS, ByteArray.data_append]
theorem mkS_size (a : List UInt8) : (mkS a).size = a.length := by rw [← size_list, mkS_list]
end Go.Proofs.YtdchmpbmaeoeoaaDoor
