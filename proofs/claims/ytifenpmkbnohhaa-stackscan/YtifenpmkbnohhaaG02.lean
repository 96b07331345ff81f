/-
  Rows of pages and rows of keys, as raw values: read, kept, appended to.
  The document's rows: Find, Has, Less, More, Without, Top, Many.
  The document's rows: Less, More, Without, Top.
  The document's rows: Top.
  A state in a block of its own: twenty cells; the world while a function goes on with it.
  The world while a function goes on with a state in a box of its own.
  A region that draws its order, whose first n operations read and make memory of their own in any order (a class of worlds), and whose last ones follow each other. No program is named here.
  Worlds that only grow; regions that draw their order.
  The document's states: Small, room, Is, Kept, New, gone.
-/
import Derived.Test.YtifenpmkbnohhaaProg
import Derived.Test.YtifenpmkbnohhaaG01
import Derived.Laws.AppendOwn
import Derived.Laws.OwnMore
import Derived.Laws.MakeOwn
import Derived.Laws.ResultCell
import Derived.Laws.StructEq
import Derived.Deep.WholeRow
import Derived.Deep.MidRow
import Derived.Lib.Hide
import Derived.Lib.AtoiErrMem
import Derived.Below
import Derived.Deep.Draws
import Derived.Lib.ItoaMem
import Derived.WalkKit
import Derived.BigCall
import Derived.BigGuard
import Derived.BigRegion
import Derived.BigQuiet
import Derived.Deep.QuietTactic
import Derived.Deep.Quiet
import Derived.StillTail
import Derived.StillTailTactics
namespace Go.Proofs.Ytifenpmkbnohhaa
open Go.RowKit
open Go.Proofs.StackM
set_option linter.unusedVariables false
/-- an append whose run is known, in a plain walk -/
theorem append_run {P : Program} {w : World} {ops : Array Oper} {rest : List Oper} {o : Oper} {a : Act} {Q : Exit → Act → World → Prop} (hg : o.guard = none) (s x : Operand) (t : TypeId)
    (hop : o.op = Op.call { callee := Callee.builtin Builtin.append, args := #[s, x], argTypes := #[t, t] }) {v u v' : Value} {w' : World} (hs : a.eval s = v) (hx : a.eval x = u)
    (hrun : (Builtin.append_ #[t, t] o.type #[v, u]).run P w = .ok v' w') (hK : wpList P ops Q rest (a.put o.dst v') w') : wpList P ops Q (o :: rest) a w := by
  refine wpList_plain hg fun K k => ?_
  unfold Oper.wp
  simp [execOp, hop, resolve, invoke, builtin, hs, hx, hrun, Result.andThen]
  exact k _ _ hK
theorem info_parts {P : Program} {e : TypeId} {z : Value} {s b : Nat} (h : (P.info? e).map (fun i => (i.zero, i.size, i.bytes)) = some (some z, s, b)) : ∃ i, P.info? e = some i ∧ i.zero = some z ∧ i.size = s ∧ i.bytes = b := by
  cases hi : P.info? e with
  | none => rw [hi] at h; cases h
  | some i =>
    rw [hi] at h
    simp only [Option.map_some, Option.some.injEq, Prod.mk.injEq] at h
    exact ⟨i, rfl, h.1, h.2.1, h.2.2⟩
theorem grown_below {base : Nat} {w w' : World} {v : Value} {n : Nat} {xs : List Value} {e s : Nat} (ho : w.ownsRow base e s v n xs) (hg : w.grownBy w' v.ownBlock) (hb : base ≤ w.heap.size) : Below base w w' :=
  (Below.refl base w).grown hg hb fun k hk => (ho.lt k hk).1
theorem below_grown {w w' : World} (h : Below w.heap.size w w') : w.grownBy w' none := ⟨h.os, h.tape, h.output, h.size, fun k hk _ => h.block k hk⟩
theorem below_drew {w : World} {B : Nat} {w' : World} (h : Below B w w') (n : Nat) : Below B w (w'.drewN n) := ⟨h.os, h.tape, h.output, h.size, h.block⟩
theorem own_below {w w' : World} {base n : Nat} {v : Value} {xs : List Value} {e s : Nat} (ho : w.ownsRow base e s v n xs) (h : Below w.heap.size w w') : w'.ownsRow base e s v n xs := by
  refine ho.kept (below_grown h) ?_
  cases e : v.ownBlock with
  | none => exact .inl rfl
  | some k => exact .inr (by simp)
theorem alloc_below (w : World) (o : Obj) : Below w.heap.size w (w.alloc o) := (Below.refl _ _).alloc (Nat.le_refl _) _
theorem alloc_in {B : Nat} {w w' : World} (h : Below B w w') (hB : B ≤ w'.heap.size) (o : Obj) : Below B w (w'.alloc o) := h.alloc hB o
/-- a row that is read: the values, one behind the other -/
def VRow (w : World) (A : Option Addr) (cap : Nat) (vs : List Value) : Prop := (A = none ∧ cap = 0 ∧ vs = []) ∨ ∃ b off, A = some ⟨b, off, none⟩ ∧ ∀ j (hj : j < vs.length), w.cell? ⟨b, off + j, none⟩ = some vs[j]
theorem VRow.kept {w w' : World} {A : Option Addr} {cap : Nat} {vs : List Value} (h : VRow w A cap vs) (hb : Below w.heap.size w w') : VRow w' A cap vs := by
  rcases h with h | ⟨b, off, e, h⟩
  · exact .inl h
  · exact .inr ⟨b, off, e, fun j hj => by rw [hb.cell (by exact Lib.lt_of_cell (h j hj))]; exact h j hj⟩
theorem alloc_vrow (w : World) (vs : List Value) (T : TypeId) (cap : Nat) : VRow (w.alloc (.cells vs.toArray T)) (some ⟨w.heap.size, 0, none⟩) cap vs :=
  .inr ⟨_, 0, rfl, fun j hj => by
    rw [Nat.zero_add, World.cell?_alloc_new]
    simp [hj]⟩
theorem owns_vrow {w : World} {base e sz n : Nat} {v : Value} {vs : List Value} (ho : w.ownsRow base e sz v n vs) : ∃ A cap, v = .slice A n cap ∧ n ≤ cap ∧ VRow w A cap vs ∧ ∀ a, A = some a → base ≤ a.block ∧ a.block < w.heap.size := by
  obtain ⟨h1, h2⟩ := ho
  rcases h2 with ⟨rfl, rfl⟩ | ⟨g, cap, cur, rfl, hg, hh, hcap, hm, hs, ht⟩
  · refine ⟨none, 0, rfl, Nat.le_refl _, .inl ⟨rfl, rfl, ?_⟩, fun a h => by cases h⟩
    apply List.eq_nil_of_length_eq_zero
    simpa using h1
  · refine ⟨_, cap, rfl, hcap, .inr ⟨g, 0, rfl, fun j hj => ?_⟩, fun a h => by cases h; exact ⟨hg, (Array.getElem?_eq_some_iff.1 hh).1⟩⟩
    obtain ⟨y, hy⟩ : ∃ y, vs[j]? = some y := ⟨_, List.getElem?_eq_getElem hj⟩
    have hj2 : j < n * sz := by rw [h1] at hj; exact hj
    rw [(List.getElem?_eq_some_iff.1 hy).2]
    rw [← ht, List.getElem?_take, if_pos hj2] at hy
    simp only [World.cell?, hh, Nat.zero_add]
    rw [← Array.getElem?_toList, hy]
    rfl
/-- a row is appended to one that is owned -/
theorem app_row {P : Program} {w : World} {base n m cap : Nat} {v : Value} {xs news : List Value} {A : Option Addr} (T e : TypeId) (z : Value) (sz by' : Nat)
    (hT : P.underlying T = some (.slice e)) (hinfo : (P.info? e).map (fun i => (i.zero, i.size, i.bytes)) = some (some z, sz, by')) (hzs : z.cells.size = sz) (hsz : 0 < sz) (hb24 : by' ≤ 64)
    (ho : w.ownsRow base e sz v n xs) (hr : VRow w A cap news) (hl : news.length = m * sz) (h1 : ∀ u ∈ news, u.oneCell' = true) (hn : n + m ≤ 1000000) (hbase : base ≤ w.heap.size) :
    ∃ v' w', (Builtin.append_ #[T, T] T #[v, .slice A m cap]).run P w = .ok v' w' ∧ w'.ownsRow base e sz v' (n + m) (xs ++ news) ∧ Below base w w' := by
  obtain ⟨i0, hi, hz0, hz1, hz2⟩ := info_parts hinfo
  rcases hr with ⟨rfl, rfl, rfl⟩ | ⟨b, off, rfl, hc⟩
  · have hm : m = 0 := by
      rcases Nat.mul_eq_zero.1 (by simpa using hl.symm) with h | h
      · exact h
      · omega
    subst hm
    refine ⟨v, w, run_append_owned_none w base T T e i0 sz hT hi v n xs ho, by simpa using ho, Below.refl _ _⟩
  · obtain ⟨v', w1, h2, h3, h4, _⟩ := run_append_own (P := P) (w := w) base T T e i0 z sz by' hT hi hz0 hz1 hz2 hzs hsz v n xs ho ⟨b, off, none⟩ m cap news hl (fun j u hu => by
      have hj := (List.getElem?_eq_some_iff.1 hu).1
      have := hc j hj
      rw [Lib.add_plain, this]
      rw [List.getElem?_eq_getElem hj] at hu
      exact hu) h1 (by unfold maxLen; omega) (by
        have : (n + m) * by' ≤ 1000000 * 64 := Nat.mul_le_mul hn hb24
        omega) hbase
    exact ⟨v', w1, h2, h3, grown_below ho h4 hbase⟩
/-- pages and keys as raw values -/
def pvals (l : List Pg) : List Value := l.flatMap fun p => [.int .u64 p.key, .int .i64 p.kind, .bool p.test, .bool p.mark]
def uvals (l : List Int) : List Value := l.map (Value.int .u64)
theorem pvals_len (l : List Pg) : (pvals l).length = l.length * 4 := by
  induction l with
  | nil => rfl
  | cons p l ih => simp only [pvals, List.flatMap_cons, List.length_append, List.length_cons, List.length_nil] at *; omega
theorem uvals_len (l : List Int) : (uvals l).length = l.length := by simp [uvals]
theorem pvals_app (l r : List Pg) : pvals (l ++ r) = pvals l ++ pvals r := by simp [pvals]
theorem uvals_app (l r : List Int) : uvals (l ++ r) = uvals l ++ uvals r := by simp [uvals]
theorem pvals_one (l : List Pg) : ∀ u ∈ pvals l, u.oneCell' = true := by
  intro u hu
  obtain ⟨p, _, hp⟩ := List.mem_flatMap.1 hu
  simp only [List.mem_cons, List.not_mem_nil, or_false] at hp
  rcases hp with rfl | rfl | rfl | rfl <;> rfl
theorem uvals_one (l : List Int) : ∀ u ∈ uvals l, u.oneCell' = true := by
  intro u hu; obtain ⟨z, _, rfl⟩ := List.mem_map.1 hu; rfl
theorem pvals_at : ∀ (l : List Pg) (j : Nat) (hj : j < l.length), (pvals l)[j * 4]? = some (.int .u64 l[j].key) ∧ (pvals l)[j * 4 + 1]? = some (.int .i64 l[j].kind) ∧ (pvals l)[j * 4 + 2]? = some (.bool l[j].test) ∧ (pvals l)[j * 4 + 3]? = some (.bool l[j].mark)
  | p :: l, 0, _ => ⟨rfl, rfl, rfl, rfl⟩
  | p :: l, j + 1, hj => by
    have ih := pvals_at l j (by simpa using hj)
    have e : pvals (p :: l) = .int .u64 p.key :: .int .i64 p.kind :: .bool p.test :: .bool p.mark :: pvals l := rfl
    rw [e]
    have a0 : (j + 1) * 4 = j * 4 + 1 + 1 + 1 + 1 := by omega
    rw [a0]
    simpa using ih
def PRow (w : World) (A : Option Addr) (cap : Nat) (l : List Pg) : Prop := VRow w A cap (pvals l)
def URow (w : World) (A : Option Addr) (cap : Nat) (l : List Int) : Prop := VRow w A cap (uvals l)
theorem PRow.kept {w w' : World} {A : Option Addr} {cap : Nat} {l : List Pg} (h : PRow w A cap l) (hb : Below w.heap.size w w') : PRow w' A cap l := VRow.kept h hb
theorem URow.kept {w w' : World} {A : Option Addr} {cap : Nat} {l : List Int} (h : URow w A cap l) (hb : Below w.heap.size w w') : URow w' A cap l := VRow.kept h hb
theorem URow.at {w : World} {A : Option Addr} {cap : Nat} {l : List Int} (h : URow w A cap l) {k : Nat} (hk : k < l.length) : ∃ b off, A = some ⟨b, off, none⟩ ∧ ∀ j (hj : j < l.length), w.cell? ⟨b, off + j, none⟩ = some (.int .u64 l[j]) := by
  rcases h with ⟨_, _, e⟩ | ⟨b, off, e, hc⟩
  · exfalso
    have := congrArg List.length e
    rw [uvals_len, List.length_nil] at this
    omega
  · refine ⟨b, off, e, fun j hj => ?_⟩
    rw [hc j (by rw [uvals_len]; exact hj)]
    simp [uvals]
theorem PRow.at {w : World} {A : Option Addr} {cap : Nat} {l : List Pg} (h : PRow w A cap l) {k : Nat} (hk : k < l.length) : ∃ b off, A = some ⟨b, off, none⟩ ∧ ∀ j (hj : j < l.length), w.cell? ⟨b, off + j * 4, none⟩ = some (.int .u64 l[j].key) ∧ w.cell? ⟨b, off + j * 4 + 1, none⟩ = some (.int .i64 l[j].kind) ∧ w.cell? ⟨b, off + j * 4 + 2, none⟩ = some (.bool l[j].test) ∧ w.cell? ⟨b, off + j * 4 + 3, none⟩ = some (.bool l[j].mark) := by
  rcases h with ⟨_, _, e⟩ | ⟨b, off, e, hc⟩
  · exfalso
    have := congrArg List.length e
    rw [pvals_len, List.length_nil] at this
    omega
  · refine ⟨b, off, e, fun j hj => ?_⟩
    obtain ⟨e0, e1, e2, e3⟩ := pvals_at l j hj
    have g : ∀ i v, (pvals l)[j * 4 + i]? = some v → w.cell? ⟨b, off + j * 4 + i, none⟩ = some v := fun i v hv => by
      have hi := (List.getElem?_eq_some_iff.1 hv).1
      have := hc (j * 4 + i) hi
      rw [show off + j * 4 + i = off + (j * 4 + i) by omega, this]
      rw [List.getElem?_eq_getElem hi] at hv
      exact hv
    exact ⟨g 0 _ e0, g 1 _ e1, g 2 _ e2, g 3 _ e3⟩
theorem infoP : (Try.prog.info? 59).map (fun i => (i.zero, i.size, i.bytes)) = some (some (.agg #[.int .u64 0, .int .i64 0, .bool false, .bool false]), 4, 24) := by kernel_rfl
theorem infoU : (Try.prog.info? 27).map (fun i => (i.zero, i.size, i.bytes)) = some (some (.int .u64 0), 1, 8) := by kernel_rfl
theorem appP {w : World} {base n m cap : Nat} {v : Value} {l r : List Pg} {A : Option Addr} (ho : w.ownsRow base 59 4 v n (pvals l)) (hr : PRow w A cap r) (hm : r.length = m) (hn : n + m ≤ 1000000) (hb : base ≤ w.heap.size) :
    ∃ v' w', (Builtin.append_ #[25, 25] 25 #[v, .slice A m cap]).run Try.prog w = .ok v' w' ∧ w'.ownsRow base 59 4 v' (n + m) (pvals (l ++ r)) ∧ Below base w w' := by
  rw [pvals_app]
  exact app_row 25 59 _ 4 24 Try.underlying25 infoP rfl (by decide) (by decide) ho hr (by rw [pvals_len, hm]) (pvals_one r) hn hb
theorem appU {w : World} {base n m cap : Nat} {v : Value} {l r : List Int} {A : Option Addr} (ho : w.ownsRow base 27 1 v n (uvals l)) (hr : URow w A cap r) (hm : r.length = m) (hn : n + m ≤ 1000000) (hb : base ≤ w.heap.size) :
    ∃ v' w', (Builtin.append_ #[26, 26] 26 #[v, .slice A m cap]).run Try.prog w = .ok v' w' ∧ w'.ownsRow base 27 1 v' (n + m) (uvals (l ++ r)) ∧ Below base w w' := by
  rw [uvals_app]
  exact app_row 26 27 _ 1 8 Try.underlying26 infoU rfl (by decide) (by decide) ho hr (by rw [uvals_len, hm]; omega) (uvals_one r) hn hb
end Go.Proofs.Ytifenpmkbnohhaa
namespace Go.Proofs.Ytifenpmkbnohhaa
open Go.RowKit
open Go.Proofs.StackM
set_option linter.unusedVariables false
/-- the place of a key, -1: there is none -/
def fi (l : List Pg) (k : Int) : Int := match fnd l k with | some i => (i : Int) | none => -1
theorem fnd_some {l : List Pg} {k : Int} {i : Nat} (hi : i < l.length) (h : l[i].key = k) (hj : ∀ j (h1 : j < i) (h2 : j < l.length), l[j].key ≠ k) : fnd l k = some i := by
  unfold fnd
  rw [List.findIdx?_eq_some_iff_getElem]
  exact ⟨hi, by simp [h], fun j h1 => by simpa using hj j h1 (by omega)⟩
theorem fnd_none {l : List Pg} {k : Int} (hj : ∀ j (h2 : j < l.length), l[j].key ≠ k) : fnd l k = none := by
  unfold fnd
  rw [List.findIdx?_eq_none_iff]
  intro p hp
  obtain ⟨j, hj2, rfl⟩ := List.getElem_of_mem hp
  simpa using hj j hj2
set_option maxHeartbeats 400000 in
set_option maxRecDepth 100000 in
theorem find_at (l : List Pg) (k : Int) (A : Option Addr) (n cap : Nat) (hn : n = l.length) (hb : n ≤ 1000000) (w : World) (hr : PRow w A cap l) :
    Calls Try.prog 54 #[.slice A n cap, .int .u64 k] w fun e w' => e = .returned (.int .i64 (fi l k)) ∧ w' = w := by
  obtain ⟨r, hrr⟩ : ∃ r, r = fi l k := ⟨_, rfl⟩
  rw [← hrr]
  have HR := Lib.hid hrr
  have HN := Lib.hid hn
  have HP := Lib.hid hr
  clear hrr hn hr
  go_enter Try.func54, Try.ntmps54
  go_wp2
  go_loopw [5] (fun i wr => ∃ m : Nat, m ≤ n ∧ i = .int .i64 (m : Int) ∧ wr = w ∧ Hid (∀ j (h1 : j < m) (h2 : j < l.length), l[j].key ≠ k)) (fun i _ => n - (intOf i).toNat)
  case atStart => exact ⟨0, by omega, by go_num, by first | rfl | trivial, Lib.hid (fun j h1 => absurd h1 (by omega))⟩
  case round =>
    obtain ⟨m, hm, rfl, rfl, HK⟩ := hrel
    by_cases hlt : m < n
    · have hml : m < l.length := by have := HN.out; omega
      obtain ⟨b, off, rfl, hc⟩ := HP.out.at hml
      obtain ⟨c0, _, _, _⟩ := hc m hml
      obtain ⟨y, hy⟩ : ∃ y, y = l[m].key := ⟨_, rfl⟩
      rw [← hy] at c0
      have HY := Lib.hid hy
      clear hc hy
      by_cases hxy : y = k
      · subst hxy
        go_wp2
        go_ret
        refine ⟨?_, by trivial⟩
        rw [HR.out, fi, fnd_some hml HY.out.symm HK.out]
        rfl
      · go_wp2
        go_round
        case rel => exact ⟨m + 1, by omega, by go_num, by first | rfl | trivial, Lib.hid (fun j h1 h2 => by
          rcases Nat.lt_succ_iff_lt_or_eq.1 h1 with h | rfl
          · exact HK.out j h h2
          · rw [← HY.out]; exact hxy)⟩
        case measure => simp only [intOf]; omega
    · go_wp2
      go_ret
      refine ⟨?_, by trivial⟩
      rw [HR.out, fi, fnd_none (fun j h2 => HK.out j (by have := HN.out; omega) h2)]
      rfl
set_option maxHeartbeats 400000 in
set_option maxRecDepth 100000 in
theorem has_at (l : List Int) (k : Int) (A : Option Addr) (n cap : Nat) (hn : n = l.length) (hb : n ≤ 1000000) (w : World) (hr : URow w A cap l) :
    Calls Try.prog 55 #[.slice A n cap, .int .u64 k] w fun e w' => e = .returned (.bool (decide (k ∈ l))) ∧ w' = w := by
  obtain ⟨r, hrr⟩ : ∃ r, r = decide (k ∈ l) := ⟨_, rfl⟩
  rw [← hrr]
  have HR := Lib.hid hrr
  have HN := Lib.hid hn
  have HP := Lib.hid hr
  clear hrr hn hr
  go_enter Try.func55, Try.ntmps55
  go_wp2
  go_loopw [5] (fun i wr => ∃ m : Nat, m ≤ n ∧ i = .int .i64 (m : Int) ∧ wr = w ∧ Hid (∀ j (h1 : j < m) (h2 : j < l.length), l[j] ≠ k)) (fun i _ => n - (intOf i).toNat)
  case atStart => exact ⟨0, by omega, by go_num, by first | rfl | trivial, Lib.hid (fun j h1 => absurd h1 (by omega))⟩
  case round =>
    obtain ⟨m, hm, rfl, rfl, HK⟩ := hrel
    by_cases hlt : m < n
    · have hml : m < l.length := by have := HN.out; omega
      obtain ⟨b, off, rfl, hc⟩ := HP.out.at hml
      have c0 := hc m hml
      obtain ⟨y, hy⟩ : ∃ y, y = l[m] := ⟨_, rfl⟩
      rw [← hy] at c0
      have HY := Lib.hid hy
      clear hc hy
      by_cases hxy : y = k
      · subst hxy
        go_wp2
        go_ret
        refine ⟨?_, by trivial⟩
        rw [HR.out, decide_eq_true (show y ∈ l by rw [HY.out]; exact List.getElem_mem hml)]
        rfl
      · go_wp2
        go_round
        case rel => exact ⟨m + 1, by omega, by go_num, by first | rfl | trivial, Lib.hid (fun j h1 h2 => by
          rcases Nat.lt_succ_iff_lt_or_eq.1 h1 with h | rfl
          · exact HK.out j h h2
          · rw [← HY.out]; exact hxy)⟩
        case measure => simp only [intOf]; omega
    · go_wp2
      go_ret
      refine ⟨?_, by trivial⟩
      rw [HR.out, decide_eq_false (fun h => by
        obtain ⟨j, hj2, e⟩ := List.getElem_of_mem h
        exact HK.out j (by have := HN.out; omega) hj2 e)]
      rfl
set_option maxHeartbeats 400000 in
set_option maxRecDepth 100000 in
theorem many_at (l : List Pg) (d : Int) (A : Option Addr) (n cap : Nat) (hn : n = l.length) (hb : n ≤ 1000000) (w : World) (hr : PRow w A cap l) :
    Calls Try.prog 23 #[.slice A n cap, .int .i64 d] w fun e w' => e = .returned (.int .i64 (many l d : Int)) ∧ w' = w := by
  obtain ⟨r, hrr⟩ : ∃ r : Int, r = (many l d : Int) := ⟨_, rfl⟩
  rw [← hrr]
  have HR := Lib.hid hrr
  have HN := Lib.hid hn
  have HP := Lib.hid hr
  clear hrr hn hr
  go_enter Try.func23, Try.ntmps23
  go_wp2
  go_loopw [5, 6] (fun c i wr => ∃ m q : Nat, m ≤ n ∧ q ≤ m ∧ i = .int .i64 (m : Int) ∧ c = .int .i64 (q : Int) ∧ wr = w ∧ Hid (q = many (l.take m) d)) (fun _ i _ => n - (intOf i).toNat)
  case atStart => exact ⟨0, 0, by omega, by omega, by go_num, by go_num, by first | rfl | trivial, Lib.hid (by simp [many])⟩
  case round =>
    obtain ⟨m, q, hm, hq, rfl, rfl, rfl, HK⟩ := hrel
    by_cases hlt : m < n
    · have hml : m < l.length := by have := HN.out; omega
      obtain ⟨b, off, rfl, hc⟩ := HP.out.at hml
      obtain ⟨_, c0, _, _⟩ := hc m hml
      obtain ⟨y, hy⟩ : ∃ y, y = l[m].kind := ⟨_, rfl⟩
      rw [← hy] at c0
      have hs : many (l.take (m + 1)) d = many (l.take m) d + if y = d then 1 else 0 := by
        unfold many
        rw [List.take_add_one, List.getElem?_eq_getElem hml, Option.toList_some, List.countP_append, hy]
        simp [List.countP_cons]
      have HS := Lib.hid hs
      clear hc hy hs
      by_cases hxy : y = d
      · subst hxy
        go_wp2
        go_round
        case rel => exact ⟨m + 1, q + 1, by omega, by omega, by go_num, by go_num, by first | rfl | trivial, Lib.hid (by rw [HS.out, if_pos rfl, HK.out])⟩
        case measure => simp only [intOf]; omega
      · go_wp2
        go_round
        case rel => exact ⟨m + 1, q, by omega, by omega, by go_num, by go_num, by first | rfl | trivial, Lib.hid (by rw [HS.out, if_neg hxy, HK.out]; rfl)⟩
        case measure => simp only [intOf]; omega
    · obtain rfl : m = n := by omega
      go_wp2
      go_ret
      refine ⟨?_, by trivial⟩
      rw [HR.out, HK.out, List.take_of_length_le (by have := HN.out; omega)]
      rfl
end Go.Proofs.Ytifenpmkbnohhaa
namespace Go.Proofs.Ytifenpmkbnohhaa
open Go.RowKit
open Go.Proofs.StackM
set_option linter.unusedVariables false
theorem ls_take (l : List Int) (k : Int) (m : Nat) (hm : m < l.length) : ls (l.take (m + 1)) k = ls (l.take m) k ++ if l[m] ≠ k then [l[m]] else [] := by
  unfold ls
  rw [List.take_add_one, List.getElem?_eq_getElem hm, Option.toList_some, List.filter_append]
  congr 1
  by_cases h : l[m] = k <;> simp [h]
theorem wo_take (l : List Pg) (k : Int) (m : Nat) (hm : m < l.length) : wo (l.take (m + 1)) k = wo (l.take m) k ++ if l[m].key ≠ k then [l[m]] else [] := by
  unfold wo
  rw [List.take_add_one, List.getElem?_eq_getElem hm, Option.toList_some, List.filter_append]
  congr 1
  by_cases h : l[m].key = k <;> simp [h]
theorem ls_len (l : List Int) (k : Int) : (ls l k).length ≤ l.length := List.length_filter_le _ _
/-- rows with what they are worth -/
structure PR (w : World) (A : Option Addr) (cap : Nat) (l : List Pg) : Prop where
  row : PRow w A cap l
  lt : ∀ a, A = some a → a.block < w.heap.size
  le : l.length ≤ cap
structure UR (w : World) (A : Option Addr) (cap : Nat) (l : List Int) : Prop where
  row : URow w A cap l
  lt : ∀ a, A = some a → a.block < w.heap.size
  le : l.length ≤ cap
theorem PR.kept {w w' : World} {A : Option Addr} {cap : Nat} {l : List Pg} (h : PR w A cap l) (hb : Below w.heap.size w w') : PR w' A cap l := ⟨h.row.kept hb, fun a e => Nat.lt_of_lt_of_le (h.lt a e) hb.size, h.le⟩
theorem UR.kept {w w' : World} {A : Option Addr} {cap : Nat} {l : List Int} (h : UR w A cap l) (hb : Below w.heap.size w w') : UR w' A cap l := ⟨h.row.kept hb, fun a e => Nat.lt_of_lt_of_le (h.lt a e) hb.size, h.le⟩
/-- what a function that makes a row of keys tells -/
def UPost (w : World) (l : List Int) (e : Ending) (w' : World) : Prop := ∃ A n cap, e = .returned (.slice A n cap) ∧ n = l.length ∧ UR w' A cap l ∧ (∀ a, A = some a → w.heap.size ≤ a.block) ∧ Below w.heap.size w w'
def PPost (w : World) (l : List Pg) (e : Ending) (w' : World) : Prop := ∃ A n cap, e = .returned (.slice A n cap) ∧ n = l.length ∧ PR w' A cap l ∧ (∀ a, A = some a → w.heap.size ≤ a.block) ∧ Below w.heap.size w w'
theorem UPost.of {w w' : World} {l : List Int} {n : Nat} {v : Value} (ho : w'.ownsRow w.heap.size 27 1 v n (uvals l)) (hb : Below w.heap.size w w') : UPost w l (.returned v) w' := by
  have hl := ho.1
  rw [uvals_len] at hl
  obtain ⟨A, cap, rfl, hcap, hv, hf⟩ := owns_vrow ho
  exact ⟨A, n, cap, rfl, by omega, ⟨hv, fun a e => (hf a e).2, by omega⟩, fun a e => (hf a e).1, hb⟩
theorem PPost.of {w w' : World} {l : List Pg} {n : Nat} {v : Value} (ho : w'.ownsRow w.heap.size 59 4 v n (pvals l)) (hb : Below w.heap.size w w') : PPost w l (.returned v) w' := by
  have hl := ho.1
  rw [pvals_len] at hl
  obtain ⟨A, cap, rfl, hcap, hv, hf⟩ := owns_vrow ho
  exact ⟨A, n, cap, rfl, by omega, ⟨hv, fun a e => (hf a e).2, by omega⟩, fun a e => (hf a e).1, hb⟩
theorem one_u (w : World) (x : Int) : URow (w.alloc (.cells #[.int .u64 x] 27)) (some ⟨w.heap.size, 0, none⟩) 1 [x] := alloc_vrow w (uvals [x]) 27 1
theorem one_p (w : World) (p : Pg) : PRow (w.alloc (.cells #[.int .u64 p.key, .int .i64 p.kind, .bool p.test, .bool p.mark] 59)) (some ⟨w.heap.size, 0, none⟩) 1 [p] := alloc_vrow w (pvals [p]) 59 1
set_option maxHeartbeats 1000000 in
set_option maxRecDepth 100000 in
theorem less_at (l : List Int) (k : Int) (A : Option Addr) (n cap : Nat) (hn : n = l.length) (hb : n ≤ 900000) (w : World) (hr : URow w A cap l) :
    Calls Try.prog 90 #[.slice A n cap, .int .u64 k] w (UPost w (ls l k)) := by
  have HN := Lib.hid hn
  have HP := Lib.hid hr
  clear hn hr
  show Calls Try.prog 90 #[.slice A n cap, .int .u64 k] w fun e w' => UPost w (ls l k) e w'
  go_enter Try.func90, Try.ntmps90
  go_wp2
  go_loopw [5, 6] (fun v i wr => ∃ m q : Nat, m ≤ n ∧ q ≤ m ∧ i = .int .i64 (m : Int) ∧ Hid (wr.ownsRow w.heap.size 27 1 v q (uvals (ls (l.take m) k)) ∧ Below w.heap.size w wr)) (fun _ i _ => n - (intOf i).toNat)
  case atStart => exact ⟨0, 0, by omega, by omega, by go_num, Lib.hid ⟨by simpa [uvals, ls] using World.ownsRow_nil w w.heap.size 27 1, Below.refl _ _⟩⟩
  case round =>
    obtain ⟨m, q, hm, hq, rfl, HO⟩ := hrel
    by_cases hlt : m < n
    · have hml : m < l.length := by have := HN.out; omega
      have hP2 := HP.out.kept HO.out.2
      obtain ⟨b, off, rfl, hc⟩ := hP2.at hml
      have c0 := hc m hml
      have hst := ls_take l k m hml
      obtain ⟨y, hy⟩ : ∃ y, y = l[m] := ⟨_, rfl⟩
      rw [← hy] at c0 hst
      have HS := Lib.hid hst
      clear hc hy hst hP2
      by_cases hxy : y = k
      · have HS2 : Hid (ls (l.take (m + 1)) k = ls (l.take m) k) := Lib.hid (by rw [HS.out, if_neg (fun h => h hxy), List.append_nil])
        clear HS
        subst hxy
        go_wp2
        go_round
        case rel => exact ⟨m + 1, q, by omega, by omega, by go_num, Lib.hid ⟨by rw [HS2.out]; exact HO.out.1, HO.out.2⟩⟩
        case measure => simp only [intOf]; omega
      · have HS2 : Hid (ls (l.take (m + 1)) k = ls (l.take m) k ++ [y]) := Lib.hid (by rw [HS.out, if_pos hxy])
        clear HS
        obtain ⟨v', w2, hrun, ho2, hb2⟩ := appU (own_below HO.out.1 (alloc_below wr (.cells #[.int .u64 y] 27))) (one_u wr y) rfl (by simp; omega) (by have := HO.out.2.size; have := (alloc_below wr (.cells #[.int .u64 y] 27)).size; omega)
        have hb3 := (alloc_in HO.out.2 HO.out.2.size (.cells #[.int .u64 y] 27)).trans hb2
        have HR := Lib.hid hrun
        have HO2 := Lib.hid (And.intro ho2 hb3)
        clear hrun ho2 hb2 hb3
        go_wp2_with (at_builtin; refine append_run rfl (.tmp 19) (.tmp 24) 26 rfl rfl rfl HR.out ?_)
        go_round
        case rel => exact ⟨m + 1, q + 1, by omega, by omega, by go_num, Lib.hid ⟨by rw [HS2.out]; exact HO2.out.1, HO2.out.2⟩⟩
        case measure => simp only [intOf]; omega
    · obtain rfl : m = n := by omega
      go_wp2
      go_ret
      have hl : l.take m = l := List.take_of_length_le (by have := HN.out; omega)
      have ho := HO.out.1
      rw [hl] at ho
      exact UPost.of ho HO.out.2
set_option maxHeartbeats 1000000 in
set_option maxRecDepth 100000 in
theorem without_at (l : List Pg) (k : Int) (A : Option Addr) (n cap : Nat) (hn : n = l.length) (hb : n ≤ 900000) (w : World) (hr : PRow w A cap l) :
    Calls Try.prog 73 #[.slice A n cap, .int .u64 k] w (PPost w (wo l k)) := by
  have HN := Lib.hid hn
  have HP := Lib.hid hr
  clear hn hr
  show Calls Try.prog 73 #[.slice A n cap, .int .u64 k] w fun e w' => PPost w (wo l k) e w'
  go_enter Try.func73, Try.ntmps73
  go_wp2
  go_loopw [5, 6] (fun v i wr => ∃ m q : Nat, m ≤ n ∧ q ≤ m ∧ i = .int .i64 (m : Int) ∧ Hid (wr.ownsRow w.heap.size 59 4 v q (pvals (wo (l.take m) k)) ∧ Below w.heap.size w wr)) (fun _ i _ => n - (intOf i).toNat)
  case atStart => exact ⟨0, 0, by omega, by omega, by go_num, Lib.hid ⟨by simpa [pvals, wo] using World.ownsRow_nil w w.heap.size 59 4, Below.refl _ _⟩⟩
  case round =>
    obtain ⟨m, q, hm, hq, rfl, HO⟩ := hrel
    by_cases hlt : m < n
    · have hml : m < l.length := by have := HN.out; omega
      have hP2 := HP.out.kept HO.out.2
      obtain ⟨b, off, rfl, hc⟩ := hP2.at hml
      obtain ⟨c0, c1, c2, c3⟩ := hc m hml
      have hst := wo_take l k m hml
      obtain ⟨y, hy⟩ : ∃ y, y = l[m] := ⟨_, rfl⟩
      rw [← hy] at c0 c1 c2 c3 hst
      obtain ⟨y0, hy0⟩ : ∃ z, z = y.key := ⟨_, rfl⟩
      obtain ⟨y1, hy1⟩ : ∃ z, z = y.kind := ⟨_, rfl⟩
      obtain ⟨y2, hy2⟩ : ∃ z, z = y.test := ⟨_, rfl⟩
      obtain ⟨y3, hy3⟩ : ∃ z, z = y.mark := ⟨_, rfl⟩
      rw [← hy0] at c0 hst
      rw [← hy1] at c1
      rw [← hy2] at c2
      rw [← hy3] at c3
      have hye : y = ⟨y0, y1, y2, y3⟩ := by rw [hy0, hy1, hy2, hy3]
      have HS := Lib.hid hst
      have HY := Lib.hid hye
      clear hc hy hst hP2 hy0 hy1 hy2 hy3 hye
      by_cases hxy : y0 = k
      · have HS2 : Hid (wo (l.take (m + 1)) k = wo (l.take m) k) := Lib.hid (by rw [HS.out, if_neg (fun h => h hxy), List.append_nil])
        clear HS
        subst hxy
        go_wp2
        go_round
        case rel => exact ⟨m + 1, q, by omega, by omega, by go_num, Lib.hid ⟨by rw [HS2.out]; exact HO.out.1, HO.out.2⟩⟩
        case measure => simp only [intOf]; omega
      · have HS2 : Hid (wo (l.take (m + 1)) k = wo (l.take m) k ++ [y]) := Lib.hid (by rw [HS.out, if_pos hxy])
        clear HS
        have h1 := one_p wr y
        rw [HY.out] at h1
        obtain ⟨v', w2, hrun, ho2, hb2⟩ := appP (own_below HO.out.1 (alloc_below wr (.cells #[.int .u64 y0, .int .i64 y1, .bool y2, .bool y3] 59))) h1 rfl (by simp; omega) (by have := HO.out.2.size; have := (alloc_below wr (.cells #[.int .u64 y0, .int .i64 y1, .bool y2, .bool y3] 59)).size; omega)
        have hb3 := (alloc_in HO.out.2 HO.out.2.size (.cells #[.int .u64 y0, .int .i64 y1, .bool y2, .bool y3] 59)).trans hb2
        have HR := Lib.hid hrun
        have HO2 := Lib.hid (And.intro ho2 hb3)
        clear hrun ho2 hb2 hb3 h1
        go_wp2_with (at_builtin; refine append_run rfl (.tmp 20) (.tmp 25) 25 rfl rfl rfl HR.out ?_)
        go_round
        case rel => exact ⟨m + 1, q + 1, by omega, by omega, by go_num, Lib.hid ⟨by rw [HS2.out, HY.out]; exact HO2.out.1, HO2.out.2⟩⟩
        case measure => simp only [intOf]; omega
    · obtain rfl : m = n := by omega
      go_wp2
      go_ret
      have hl : l.take m = l := List.take_of_length_le (by have := HN.out; omega)
      have ho := HO.out.1
      rw [hl] at ho
      exact PPost.of ho HO.out.2
set_option maxHeartbeats 1000000 in
set_option maxRecDepth 100000 in
theorem more_at (l : List Int) (k : Int) (A : Option Addr) (n cap : Nat) (hn : n = l.length) (hb : n ≤ 900000) (w : World) (hr : URow w A cap l) :
    Calls Try.prog 91 #[.slice A n cap, .int .u64 k] w (UPost w (l ++ [k])) := by
  have ho0 : (w.alloc (.cells #[] 27)).ownsRow w.heap.size 27 1 (.slice (some ⟨w.heap.size, 0, none⟩) 0 0) 0 (uvals []) := World.ownsRow_lit (base := w.heap.size) (e := 27) (size := 1) w #[] 0 (Nat.le_refl _) (by decide) rfl
  obtain ⟨v1, w2, hr1, ho1, hb1⟩ := appU ho0 (hr.kept (alloc_below w (.cells #[] 27))) hn.symm (by omega) (alloc_below w _).size
  have q1 := (alloc_below w (.cells #[] 27)).trans hb1
  rw [List.nil_append] at ho1
  obtain ⟨v2, w3, hr2, ho2, hb2⟩ := appU (own_below ho1 (alloc_below w2 (.cells #[.int .u64 k] 27))) (one_u w2 k) rfl (by simp; omega) (by have := q1.size; have := (alloc_below w2 (.cells #[.int .u64 k] 27)).size; omega)
  have q2 := (alloc_in q1 q1.size (.cells #[.int .u64 k] 27)).trans hb2
  have R1 := Lib.hid hr1
  have R2 := Lib.hid hr2
  have HO := Lib.hid (And.intro ho2 q2)
  have HN := Lib.hid hn
  clear ho0 hr1 ho1 hb1 q1 hr2 ho2 hb2 q2 hr hn
  show Calls Try.prog 91 #[.slice A n cap, .int .u64 k] w fun e w' => UPost w (l ++ [k]) e w'
  go_enter Try.func91, Try.ntmps91
  go_wp2_with (at_builtin; first | refine append_run rfl (.tmp 6) (.tmp 7) 26 rfl rfl rfl R1.out ?_ | refine append_run rfl (.tmp 9) (.tmp 11) 26 rfl rfl rfl R2.out ?_)
  go_ret
  exact UPost.of HO.out.1 HO.out.2
end Go.Proofs.Ytifenpmkbnohhaa
namespace Go.Proofs.Ytifenpmkbnohhaa
open Go.RowKit
open Go.Proofs.StackM
set_option linter.unusedVariables false
set_option maxHeartbeats 1000000 in
set_option maxRecDepth 100000 in
theorem top_at (l : List Pg) (p0 p1 : Int) (p2 p3 : Bool) (A : Option Addr) (n cap : Nat) (hn : n = l.length) (hb : n ≤ 900000) (w : World) (hr : PRow w A cap l) :
    Calls Try.prog 72 #[.agg #[.int .u64 p0, .int .i64 p1, .bool p2, .bool p3], .slice A n cap] w (PPost w (⟨p0, p1, p2, p3⟩ :: l)) := by
  obtain ⟨w1, hw1⟩ : ∃ w1, w1 = w.alloc (.cells #[.int .u64 p0, .int .i64 p1, .bool p2, .bool p3] 59) := ⟨_, rfl⟩
  have b1 : Below w.heap.size w w1 := hw1 ▸ alloc_below w _
  have ho0 : (w1.alloc (.cells #[.int .u64 p0, .int .i64 p1, .bool p2, .bool p3] 59)).ownsRow w.heap.size 59 4 (.slice (some ⟨w1.heap.size, 0, none⟩) 1 1) 1 (pvals [⟨p0, p1, p2, p3⟩]) := World.ownsRow_lit (base := w.heap.size) (e := 59) (size := 4) w1 #[.int .u64 p0, .int .i64 p1, .bool p2, .bool p3] 1 b1.size (by decide) rfl
  have b2 := alloc_in b1 b1.size (.cells #[.int .u64 p0, .int .i64 p1, .bool p2, .bool p3] 59)
  obtain ⟨v1, w2, hr1, ho1, hb1⟩ := appP ho0 (hr.kept b2) hn.symm (by omega) b2.size
  have q1 := b2.trans hb1
  have s1 : w1.heap.size = w.heap.size + 1 := by rw [hw1]; simp
  rw [s1] at hr1
  have R1 := Lib.hid hr1
  have HO := Lib.hid (And.intro ho1 q1)
  have HN := Lib.hid hn
  have HW := Lib.hid hw1
  clear ho0 hr1 ho1 hb1 q1 hr hn b1 b2 hw1 s1
  show Calls Try.prog 72 #[.agg #[.int .u64 p0, .int .i64 p1, .bool p2, .bool p3], .slice A n cap] w fun e w' => PPost w (⟨p0, p1, p2, p3⟩ :: l) e w'
  go_enter Try.func72, Try.ntmps72
  go_wp2_with (at_builtin; rw [← HW.out]; refine append_run rfl (.tmp 6) (.tmp 7) 25 rfl rfl rfl R1.out ?_)
  go_ret
  exact PPost.of HO.out.1 HO.out.2
end Go.Proofs.Ytifenpmkbnohhaa
namespace Go.Proofs.Ytifenpmkbnohhaa
open Go.RowKit
open Go.Proofs.StackM
set_option linter.unusedVariables false
/-- where a state's rows lie -/
structure R3 where
  a1 : Option Addr
  c1 : Nat
  a2 : Option Addr
  c2 : Nat
  a3 : Option Addr
  c3 : Nat
def sA (s : St) (r : R3) : Array Value := #[.int .i64 s.cf.p, .int .i64 s.cf.c, .int .i64 s.cf.q, .int .i64 s.cf.g, .int .i64 s.tg, .slice r.a1 s.pg.length r.c1, .slice r.a2 s.qu.length r.c2, .slice r.a3 s.gh.length r.c3, .int .i64 s.co, .int .i64 s.te,
  .int .u64 s.ct.hi, .int .u64 s.ct.mi, .int .u64 s.ct.ra, .int .u64 s.ct.lo, .int .u64 s.ct.pr, .int .u64 s.ct.ev, .int .u64 s.ct.fo, .int .u64 s.ct.cl, .int .u64 s.ct.en, .int .u64 s.ct.st]
abbrev sV (s : St) (r : R3) : Value := .agg (sA s r)
theorem sA_len (s : St) (r : R3) : (sA s r).size = 20 := rfl
theorem sA_one (s : St) (r : R3) : ((sA s r).all fun x => x.oneCell') = true := by simp [sA, Value.oneCell']
/-- twenty cells of a state's type -/
def Box (w : World) (b : Nat) (cs : Array Value) : Prop := w.heap[b]? = some (.cells cs 31 (0, 0)) ∧ cs.size = 20
abbrev SAt (w : World) (b : Nat) (s : St) (r : R3) : Prop := Box w b (sA s r)
theorem box_alloc (w : World) (cs : Array Value) (h : cs.size = 20) : Box (w.alloc (.cells cs 31)) w.heap.size cs := by
  refine ⟨?_, h⟩
  show (w.heap.push _)[w.heap.size]? = _
  simp
theorem Box.kept {w w' : World} {b B : Nat} {cs : Array Value} (h : Box w b cs) (hb : Below B w w') (hB : b < B) : Box w' b cs := ⟨by rw [hb.block b hB]; exact h.1, h.2⟩
theorem Box.lt {w : World} {b : Nat} {cs : Array Value} (h : Box w b cs) : b < w.heap.size := (Array.getElem?_eq_some_iff.1 h.1).1
theorem Box.cell {w : World} {b : Nat} {cs : Array Value} (h : Box w b cs) (k : Nat) (v : Value) (hv : cs[k]? = some v) : w.cell? ⟨b, k, none⟩ = some v := by
  rw [cell_of_row (w := w) b k cs 31 (0, 0) h.1]; exact hv
theorem Box.free {w : World} {b : Nat} {cs : Array Value} (h : Box w b cs) (k : Nat) : w.frozen? ⟨b, k, none⟩ = false := by
  simp [World.frozen?, h.1]
theorem Box.set {w : World} {b : Nat} {cs : Array Value} (h : Box w b cs) (k : Nat) (v : Value) : Box (w.setCell ⟨b, k, none⟩ v) b (cs.setIfInBounds k v) := by
  refine ⟨?_, by simpa using h.2⟩
  simp only [World.setCell, Array.getElem?_modify, ↓reduceIte, h.1, Option.map_some]
  rfl
theorem Box.rowSet {w : World} {b : Nat} {cs ds : Array Value} (h : Box w b cs) (hd : ds.size = 20) : Box (w.setRow b ds) b ds := by
  refine ⟨?_, hd⟩
  simp only [World.setRow, Array.getElem?_modify, ↓reduceIte, h.1, Option.map_some]
theorem Box.other {w : World} {b g : Nat} {cs : Array Value} (h : Box w b cs) (hne : g ≠ b) (ds : Array Value) : Box (w.setRow g ds) b cs := by
  refine ⟨?_, h.2⟩
  simp only [World.setRow, Array.getElem?_modify]
  rw [if_neg hne]
  exact h.1
theorem Box.cellOther {w : World} {b : Nat} {cs : Array Value} {p : Addr} {v : Value} (h : Box w b cs) (hne : b ≠ p.block) : Box (w.setCell p v) b cs :=
  ⟨by rw [Below.heap_setCell w p v b hne]; exact h.1, h.2⟩
theorem info31 : (Try.prog.info? 31).map (·.size) = some 20 := by kernel_rfl
theorem Box.load {w : World} {b : Nat} {cs : Array Value} (h : Box w b cs) : (loadVar 31 ⟨b, 0, none⟩).run Try.prog w = .ok (.agg cs) w :=
  run_loadVar_row (P := Try.prog) w b 31 31 cs (0, 0) _ h.1 Try.underlying31 rfl (by rw [h.2]; kernel_rfl)
theorem ld31 {ops : Array Oper} {rest : List Oper} {o : Oper} {a : Act} {w : World} {Q : Exit → Act → World → Prop} (hgd : o.guard = none) (x : Operand) (ho : o.op = .load 31 x) (g : Nat) (hx : a.eval x = .pointer (some ⟨g, 0, none⟩)) (cs : Array Value) (h : Box w g cs)
    (hK : wpList Try.prog ops Q rest (a.put o.dst (.agg cs)) w) : wpList Try.prog ops Q (o :: rest) a w :=
  wpList_load_row hgd 31 x ho g hx 31 cs (0, 0) _ h.1 Try.underlying31 rfl (by rw [h.2]; exact info31) hK
theorem st31 {ops : Array Oper} {rest : List Oper} {o : Oper} {a : Act} {w : World} {Q : Exit → Act → World → Prop} (hgd : o.guard = none) (x y : Operand) (ho : o.op = .store 31 x y) (g : Nat) (s : St) (r : R3) (hx : a.eval x = .pointer (some ⟨g, 0, none⟩)) (hy : a.eval y = sV s r) (cs : Array Value) (h : Box w g cs)
    (hK : wpList Try.prog ops Q rest a (w.setRow g (sA s r))) (hd : o.dst = none := by rfl) : wpList Try.prog ops Q (o :: rest) a w :=
  wpList_store_row hgd 31 x y ho g (sA s r) hx hy 31 cs h.1 (by rw [sA_len]; exact info31) (by rw [sA_len, h.2]) (sA_one s r) (by rw [hd]; exact hK)
theorem st31n {ops : Array Oper} {rest : List Oper} {o : Oper} {a : Act} {w : World} {Q : Exit → Act → World → Prop} (hgd : o.guard = none) (x y : Operand) (ho : o.op = .store 31 x y) (s : St) (r : R3) (hx : a.eval x = .pointer (some ⟨w.heap.size, 0, none⟩)) (hy : a.eval y = sV s r) (old : Array Value) (hold : old.size = 20)
    (hK : wpList Try.prog ops Q rest a (w.alloc (.cells (sA s r) 31))) (hd : o.dst = none := by rfl) : wpList Try.prog ops Q (o :: rest) a (w.alloc (.cells old 31)) :=
  wpList_store_row hgd 31 x y ho w.heap.size (sA s r) hx hy 31 old (by show (w.heap.push _)[w.heap.size]? = _; simp) (by rw [sA_len]; exact info31) (by rw [sA_len, hold]) (sA_one s r) (by rw [World.setRow_alloc_new, hd]; exact hK)
theorem Box.loadI {w : World} {b : Nat} {cs : Array Value} (h : Box w b cs) : (Instr.loadAt 31 (.pointer (some ⟨b, 0, none⟩))).run Try.prog w = .ok (.agg cs) w := by
  have := h.load
  simp [Instr.loadAt, Instr.sureAddr, this]
/-- a guarded load of a whole state, where the guard lets it run -/
theorem ld31g {ops : Array Oper} {rest : List Oper} {o : Oper} {a : Act} {w : World} {Q : Exit → Act → World → Prop} (hw : Region.wanted o (yielded ops a.tmps) = true) (x : Operand) (ho : o.op = .load 31 x) (g : Nat) (hx : a.eval x = .pointer (some ⟨g, 0, none⟩)) (cs : Array Value) (h : Box w g cs)
    (hK : wpList Try.prog ops Q rest (a.put o.dst (.agg cs)) w) : wpList Try.prog ops Q (o :: rest) a w := by
  refine wpList_step fun K hK2 => ?_
  rw [if_pos hw]
  unfold Oper.wp
  simp [execOp, ho, hx, h.loadI]
  exact hK2 _ _ hK
theorem qld31 {ops : Array Oper} {rest : List Oper} {o : Oper} {a : Act} {C : World → Prop} {Q : Act → Prop} (hw : Region.wanted o (yielded ops a.tmps) = true) (x : Operand) (ho : o.op = .load 31 x) (g : Nat) (hx : a.eval x = .pointer (some ⟨g, 0, none⟩)) (cs : Array Value) (h : ∀ w, C w → Box w g cs)
    (hK : wpQuiet Try.prog ops C Q rest (a.put o.dst (.agg cs))) : wpQuiet Try.prog ops C Q (o :: rest) a := by
  refine wpQuiet_step fun K hK2 => ?_
  rw [if_pos hw]
  refine ⟨.agg cs, fun w hC => ?_, hK2 _ hK⟩
  unfold Oper.quietAt
  have hb := h w hC
  simp [execOp, ho, hx, hb.loadI, Oper.quietUpon]
theorem results_s {fn : Func} {p : Tmp} (h : fn.results = #[.cell p 31]) (tmps : Array Value) (w : World) (g : Nat) (cs : Array Value)
    (hp : tmps.getD p undef = .pointer (some ⟨g, 0, none⟩)) (hg : Box w g cs) : (results fn tmps).run Try.prog w = .ok (.agg cs) w := by
  have hp' : tmps[p]?.getD undef = .pointer (some ⟨g, 0, none⟩) := by simpa using hp
  simp only [results, h]
  simp [hp', asAddr, hg.load]
theorem results_s2 {fn : Func} {p u : Tmp} (h : fn.results = #[.cell p 31, .tmp u]) (tmps : Array Value) (w : World) (g : Nat) (cs : Array Value)
    (hp : tmps.getD p undef = .pointer (some ⟨g, 0, none⟩)) (hg : Box w g cs) : (results fn tmps).run Try.prog w = .ok (.tuple #[.agg cs, tmps.getD u undef]) w := by
  rw [results_cell_tmp h, hp]
  simp [asAddr, hg.load, Result.andThen]
theorem at0 {w : World} {b : Nat} {s : St} {r : R3} (h : Box w b (sA s r)) : w.cell? ⟨b, 0, none⟩ = some (.int .i64 s.cf.p) := h.cell 0 _ (show (sA s r)[0]? = some (.int .i64 s.cf.p) from rfl)
theorem at1 {w : World} {b : Nat} {s : St} {r : R3} (h : Box w b (sA s r)) : w.cell? ⟨b, 1, none⟩ = some (.int .i64 s.cf.c) := h.cell 1 _ (show (sA s r)[1]? = some (.int .i64 s.cf.c) from rfl)
theorem at2 {w : World} {b : Nat} {s : St} {r : R3} (h : Box w b (sA s r)) : w.cell? ⟨b, 2, none⟩ = some (.int .i64 s.cf.q) := h.cell 2 _ (show (sA s r)[2]? = some (.int .i64 s.cf.q) from rfl)
theorem at3 {w : World} {b : Nat} {s : St} {r : R3} (h : Box w b (sA s r)) : w.cell? ⟨b, 3, none⟩ = some (.int .i64 s.cf.g) := h.cell 3 _ (show (sA s r)[3]? = some (.int .i64 s.cf.g) from rfl)
theorem at4 {w : World} {b : Nat} {s : St} {r : R3} (h : Box w b (sA s r)) : w.cell? ⟨b, 4, none⟩ = some (.int .i64 s.tg) := h.cell 4 _ (show (sA s r)[4]? = some (.int .i64 s.tg) from rfl)
theorem at5 {w : World} {b : Nat} {s : St} {r : R3} (h : Box w b (sA s r)) : w.cell? ⟨b, 5, none⟩ = some (.slice r.a1 s.pg.length r.c1) := h.cell 5 _ (show (sA s r)[5]? = some (.slice r.a1 s.pg.length r.c1) from rfl)
theorem at6 {w : World} {b : Nat} {s : St} {r : R3} (h : Box w b (sA s r)) : w.cell? ⟨b, 6, none⟩ = some (.slice r.a2 s.qu.length r.c2) := h.cell 6 _ (show (sA s r)[6]? = some (.slice r.a2 s.qu.length r.c2) from rfl)
theorem at7 {w : World} {b : Nat} {s : St} {r : R3} (h : Box w b (sA s r)) : w.cell? ⟨b, 7, none⟩ = some (.slice r.a3 s.gh.length r.c3) := h.cell 7 _ (show (sA s r)[7]? = some (.slice r.a3 s.gh.length r.c3) from rfl)
theorem at8 {w : World} {b : Nat} {s : St} {r : R3} (h : Box w b (sA s r)) : w.cell? ⟨b, 8, none⟩ = some (.int .i64 s.co) := h.cell 8 _ (show (sA s r)[8]? = some (.int .i64 s.co) from rfl)
theorem at9 {w : World} {b : Nat} {s : St} {r : R3} (h : Box w b (sA s r)) : w.cell? ⟨b, 9, none⟩ = some (.int .i64 s.te) := h.cell 9 _ (show (sA s r)[9]? = some (.int .i64 s.te) from rfl)
theorem at10 {w : World} {b : Nat} {s : St} {r : R3} (h : Box w b (sA s r)) : w.cell? ⟨b, 10, none⟩ = some (.int .u64 s.ct.hi) := h.cell 10 _ (show (sA s r)[10]? = some (.int .u64 s.ct.hi) from rfl)
theorem at11 {w : World} {b : Nat} {s : St} {r : R3} (h : Box w b (sA s r)) : w.cell? ⟨b, 11, none⟩ = some (.int .u64 s.ct.mi) := h.cell 11 _ (show (sA s r)[11]? = some (.int .u64 s.ct.mi) from rfl)
theorem at12 {w : World} {b : Nat} {s : St} {r : R3} (h : Box w b (sA s r)) : w.cell? ⟨b, 12, none⟩ = some (.int .u64 s.ct.ra) := h.cell 12 _ (show (sA s r)[12]? = some (.int .u64 s.ct.ra) from rfl)
theorem at13 {w : World} {b : Nat} {s : St} {r : R3} (h : Box w b (sA s r)) : w.cell? ⟨b, 13, none⟩ = some (.int .u64 s.ct.lo) := h.cell 13 _ (show (sA s r)[13]? = some (.int .u64 s.ct.lo) from rfl)
theorem at14 {w : World} {b : Nat} {s : St} {r : R3} (h : Box w b (sA s r)) : w.cell? ⟨b, 14, none⟩ = some (.int .u64 s.ct.pr) := h.cell 14 _ (show (sA s r)[14]? = some (.int .u64 s.ct.pr) from rfl)
theorem at15 {w : World} {b : Nat} {s : St} {r : R3} (h : Box w b (sA s r)) : w.cell? ⟨b, 15, none⟩ = some (.int .u64 s.ct.ev) := h.cell 15 _ (show (sA s r)[15]? = some (.int .u64 s.ct.ev) from rfl)
theorem at16 {w : World} {b : Nat} {s : St} {r : R3} (h : Box w b (sA s r)) : w.cell? ⟨b, 16, none⟩ = some (.int .u64 s.ct.fo) := h.cell 16 _ (show (sA s r)[16]? = some (.int .u64 s.ct.fo) from rfl)
theorem at17 {w : World} {b : Nat} {s : St} {r : R3} (h : Box w b (sA s r)) : w.cell? ⟨b, 17, none⟩ = some (.int .u64 s.ct.cl) := h.cell 17 _ (show (sA s r)[17]? = some (.int .u64 s.ct.cl) from rfl)
theorem at18 {w : World} {b : Nat} {s : St} {r : R3} (h : Box w b (sA s r)) : w.cell? ⟨b, 18, none⟩ = some (.int .u64 s.ct.en) := h.cell 18 _ (show (sA s r)[18]? = some (.int .u64 s.ct.en) from rfl)
theorem at19 {w : World} {b : Nat} {s : St} {r : R3} (h : Box w b (sA s r)) : w.cell? ⟨b, 19, none⟩ = some (.int .u64 s.ct.st) := h.cell 19 _ (show (sA s r)[19]? = some (.int .u64 s.ct.st) from rfl)
/-- the same two, the operation asked ahead of its guard -/
theorem ld31q {ops : Array Oper} {rest : List Oper} {o : Oper} {a : Act} {w : World} {Q : Exit → Act → World → Prop} (x : Operand) (ho : o.op = .load 31 x) (hw : Region.wanted o (yielded ops a.tmps) = true) (g : Nat) (hx : a.eval x = .pointer (some ⟨g, 0, none⟩)) (cs : Array Value) (h : Box w g cs)
    (hK : wpList Try.prog ops Q rest (a.put o.dst (.agg cs)) w) : wpList Try.prog ops Q (o :: rest) a w := ld31g hw x ho g hx cs h hK
theorem qld31q {ops : Array Oper} {rest : List Oper} {o : Oper} {a : Act} {C : World → Prop} {Q : Act → Prop} (x : Operand) (ho : o.op = .load 31 x) (hw : Region.wanted o (yielded ops a.tmps) = true) (g : Nat) (hx : a.eval x = .pointer (some ⟨g, 0, none⟩)) (cs : Array Value) (h : ∀ w, C w → Box w g cs)
    (hK : wpQuiet Try.prog ops C Q rest (a.put o.dst (.agg cs))) : wpQuiet Try.prog ops C Q (o :: rest) a := qld31 hw x ho g hx cs h hK
end Go.Proofs.Ytifenpmkbnohhaa
namespace Go.Proofs.Ytifenpmkbnohhaa
open Go.RowKit
open Go.Proofs.StackM
set_option linter.unusedVariables false
/-- a state's rows -/
structure SR (w : World) (s : St) (r : R3) : Prop where
  pg : PR w r.a1 r.c1 s.pg
  qu : UR w r.a2 r.c2 s.qu
  gh : UR w r.a3 r.c3 s.gh
theorem SR.kept {w w' : World} {s : St} {r : R3} (h : SR w s r) (hb : Below w.heap.size w w') : SR w' s r := ⟨h.pg.kept hb, h.qu.kept hb, h.gh.kept hb⟩
/-- r' are rows of r, or ones made from block t on -/
def Frm (t : Nat) (r r' : R3) : Prop := (r'.a1 = r.a1 ∨ ∀ a, r'.a1 = some a → t ≤ a.block) ∧ (r'.a2 = r.a2 ∨ ∀ a, r'.a2 = some a → t ≤ a.block) ∧ (r'.a3 = r.a3 ∨ ∀ a, r'.a3 = some a → t ≤ a.block)
theorem Frm.refl (t : Nat) (r : R3) : Frm t r r := ⟨.inl rfl, .inl rfl, .inl rfl⟩
theorem frm_one {t u : Nat} (h : u ≤ t) {A B C : Option Addr} (h1 : B = A ∨ ∀ a, B = some a → u ≤ a.block) (h2 : C = B ∨ ∀ a, C = some a → t ≤ a.block) : C = A ∨ ∀ a, C = some a → u ≤ a.block := by
  rcases h2 with rfl | h2
  · exact h1
  · exact .inr fun a e => Nat.le_trans h (h2 a e)
theorem Frm.trans {t u : Nat} {r r1 r2 : R3} (h1 : Frm u r r1) (h2 : Frm t r1 r2) (h : u ≤ t) : Frm u r r2 :=
  ⟨frm_one h h1.1 h2.1, frm_one h h1.2.1 h2.2.1, frm_one h h1.2.2 h2.2.2⟩
theorem Frm.weak {t u : Nat} {r r' : R3} (h1 : Frm t r r') (h : u ≤ t) : Frm u r r' := (Frm.refl u r).trans h1 h
def Old (t : Nat) (r : R3) : Prop := (∀ a, r.a1 = some a → a.block < t) ∧ (∀ a, r.a2 = some a → a.block < t) ∧ (∀ a, r.a3 = some a → a.block < t)
theorem SR.old {w : World} {s : St} {r : R3} (h : SR w s r) : Old w.heap.size r := ⟨h.pg.lt, h.qu.lt, h.gh.lt⟩
/-- what a function that tells a state tells -/
def SPost (w : World) (r : R3) (s' : St) (e : Ending) (w' : World) : Prop := ∃ r', e = .returned (sV s' r') ∧ SR w' s' r' ∧ Frm w.heap.size r r' ∧ Below w.heap.size w w'
theorem apart_of {lo hi B : Nat} {A0 A : Option Addr} (h0 : ∀ a, A0 = some a → a.block < lo) (h : A = A0 ∨ ∀ a, A = some a → hi ≤ a.block) (h1 : lo ≤ B) (h2 : B < hi) : ∀ a, A = some a → a.block ≠ B := by
  intro a e
  rcases h with h | h
  · have := h0 a (by rw [← h]; exact e); omega
  · have := h a e; omega
theorem vrow_set {w : World} {A : Option Addr} {cap : Nat} {vs : List Value} (h : VRow w A cap vs) {B k : Nat} {v : Value} (hB : ∀ a, A = some a → a.block ≠ B) : VRow (w.setCell ⟨B, k, none⟩ v) A cap vs := by
  rcases h with h | ⟨b, off, e, h⟩
  · exact .inl h
  · exact .inr ⟨b, off, e, fun j hj => by
      have hne : b ≠ B := hB _ e
      rw [← h j hj]
      simp only [World.cell?]
      rw [Below.heap_setCell w ⟨B, k, none⟩ v b hne]⟩
theorem vrow_row {w : World} {A : Option Addr} {cap : Nat} {vs : List Value} (h : VRow w A cap vs) {B : Nat} {cs : Array Value} (hB : ∀ a, A = some a → a.block ≠ B) : VRow (w.setRow B cs) A cap vs := by
  rcases h with h | ⟨b, off, e, h⟩
  · exact .inl h
  · exact .inr ⟨b, off, e, fun j hj => by
      have hne : b ≠ B := hB _ e
      rw [← h j hj]
      simp only [World.cell?, World.setRow, Array.getElem?_modify]
      rw [if_neg (fun h => hne h.symm)]⟩
theorem below_setRow {w w' : World} {B b : Nat} {cs : Array Value} (h : Below B w w') (hB : B ≤ b) : Below B w (w'.setRow b cs) :=
  ⟨h.os, h.tape, h.output, by rw [size_setRow]; exact h.size, fun k hk => by
    rw [← h.block k hk]
    simp only [World.setRow, Array.getElem?_modify]
    rw [if_neg (by omega)]⟩
/-- the world while a function goes on with a state: lo, its first block; hi, behind its boxes; r0, the rows that it was given; B, the box -/
structure Fr (w : World) (hi : Nat) (r0 : R3) (w' : World) (B : Nat) (s : St) (r : R3) : Prop where
  box : SAt w' B s r
  rows : SR w' s r
  frm : Frm hi r0 r
  old : Old w.heap.size r0
  bel : Below w.heap.size w w'
  lo : w.heap.size ≤ B
  up : B < hi
  hi : hi ≤ w'.heap.size
section
variable {w w1 w2 : World} {hi B : Nat} {r0 r : R3} {s : St}
theorem Fr.keep (x : Fr w hi r0 w1 B s r) (hb : Below w1.heap.size w1 w2) : Fr w hi r0 w2 B s r :=
  ⟨x.box.kept hb x.box.lt, x.rows.kept hb, x.frm, x.old, x.bel.trans (hb.mono x.bel.size), x.lo, x.up, Nat.le_trans x.hi hb.size⟩
theorem Fr.alloc (x : Fr w hi r0 w1 B s r) (o : Obj) : Fr w hi r0 (w1.alloc o) B s r := x.keep (alloc_below w1 o)
theorem Fr.drewN (x : Fr w hi r0 w1 B s r) (n : Nat) : Fr w hi r0 (w1.drewN n) B s r := x.keep (below_drew (Below.refl _ _) n)
theorem sr_set {s' : St} {r' : R3} (hr : SR w1 s' r') (hf : Frm hi r0 r') (ho : Old w.heap.size r0) (h1 : w.heap.size ≤ B) (h2 : B < hi) (k : Nat) (v : Value) : SR (w1.setCell ⟨B, k, none⟩ v) s' r' := by
  have hs : (w1.setCell ⟨B, k, none⟩ v).heap.size = w1.heap.size := by simp [World.setCell]
  refine ⟨⟨vrow_set hr.pg.row (apart_of ho.1 hf.1 h1 h2), fun a e => by rw [hs]; exact hr.pg.lt a e, hr.pg.le⟩, ⟨vrow_set hr.qu.row (apart_of ho.2.1 hf.2.1 h1 h2), fun a e => by rw [hs]; exact hr.qu.lt a e, hr.qu.le⟩, ⟨vrow_set hr.gh.row (apart_of ho.2.2 hf.2.2 h1 h2), fun a e => by rw [hs]; exact hr.gh.lt a e, hr.gh.le⟩⟩
theorem sr_row {s' : St} {r' : R3} (hr : SR w1 s' r') (hf : Frm hi r0 r') (ho : Old w.heap.size r0) (h1 : w.heap.size ≤ B) (h2 : B < hi) (cs : Array Value) : SR (w1.setRow B cs) s' r' := by
  have hs : (w1.setRow B cs).heap.size = w1.heap.size := size_setRow _ _ _
  refine ⟨⟨vrow_row hr.pg.row (apart_of ho.1 hf.1 h1 h2), fun a e => by rw [hs]; exact hr.pg.lt a e, hr.pg.le⟩, ⟨vrow_row hr.qu.row (apart_of ho.2.1 hf.2.1 h1 h2), fun a e => by rw [hs]; exact hr.qu.lt a e, hr.qu.le⟩, ⟨vrow_row hr.gh.row (apart_of ho.2.2 hf.2.2 h1 h2), fun a e => by rw [hs]; exact hr.gh.lt a e, hr.gh.le⟩⟩
theorem below_setCell {w w' : World} {L b k : Nat} {v : Value} (h : Below L w w') (hB : L ≤ b) : Below L w (w'.setCell ⟨b, k, none⟩ v) :=
  ⟨h.os, h.tape, h.output, by simpa [World.setCell] using h.size, fun j hj => by
    rw [← h.block j hj]
    exact Below.heap_setCell w' ⟨b, k, none⟩ v j (by show j ≠ b; omega)⟩
/-- one cell of the box is set -/
theorem Fr.set (x : Fr w hi r0 w1 B s r) (k : Nat) (v : Value) (s' : St) (r' : R3) (he : (sA s r).setIfInBounds k v = sA s' r') (hr : SR w1 s' r') (hf : Frm hi r0 r') : Fr w hi r0 (w1.setCell ⟨B, k, none⟩ v) B s' r' :=
  ⟨by have := x.box.set k v; rw [he] at this; exact this, sr_set hr hf x.old x.lo x.up k v, hf, x.old, below_setCell x.bel x.lo, x.lo, x.up, by simpa [World.setCell] using x.hi⟩
theorem Fr.setPg (x : Fr w hi r0 w1 B s r) {l : List Pg} {A : Option Addr} {c n : Nat} (h : PR w1 A c l) (hf : ∀ a, A = some a → hi ≤ a.block) (hn : n = l.length) : Fr w hi r0 (w1.setCell ⟨B, 5, none⟩ (.slice A n c)) B { s with pg := l } { r with a1 := A, c1 := c } := by
  subst hn
  exact x.set 5 _ _ _ rfl ⟨h, x.rows.qu, x.rows.gh⟩ ⟨.inr hf, x.frm.2.1, x.frm.2.2⟩
theorem Fr.setQu (x : Fr w hi r0 w1 B s r) {l : List Int} {A : Option Addr} {c n : Nat} (h : UR w1 A c l) (hf : ∀ a, A = some a → hi ≤ a.block) (hn : n = l.length) : Fr w hi r0 (w1.setCell ⟨B, 6, none⟩ (.slice A n c)) B { s with qu := l } { r with a2 := A, c2 := c } := by
  subst hn
  exact x.set 6 _ _ _ rfl ⟨x.rows.pg, h, x.rows.gh⟩ ⟨x.frm.1, .inr hf, x.frm.2.2⟩
theorem Fr.setGh (x : Fr w hi r0 w1 B s r) {l : List Int} {A : Option Addr} {c n : Nat} (h : UR w1 A c l) (hf : ∀ a, A = some a → hi ≤ a.block) (hn : n = l.length) : Fr w hi r0 (w1.setCell ⟨B, 7, none⟩ (.slice A n c)) B { s with gh := l } { r with a3 := A, c3 := c } := by
  subst hn
  exact x.set 7 _ _ _ rfl ⟨x.rows.pg, x.rows.qu, h⟩ ⟨x.frm.1, x.frm.2.1, .inr hf⟩
theorem Fr.setHi (x : Fr w hi r0 w1 B s r) (n : Int) : Fr w hi r0 (w1.setCell ⟨B, 10, none⟩ (.int .u64 n)) B { s with ct := { s.ct with hi := n } } r := x.set 10 _ _ _ rfl ⟨x.rows.pg, x.rows.qu, x.rows.gh⟩ x.frm
theorem Fr.setMi (x : Fr w hi r0 w1 B s r) (n : Int) : Fr w hi r0 (w1.setCell ⟨B, 11, none⟩ (.int .u64 n)) B { s with ct := { s.ct with mi := n } } r := x.set 11 _ _ _ rfl ⟨x.rows.pg, x.rows.qu, x.rows.gh⟩ x.frm
theorem Fr.setRa (x : Fr w hi r0 w1 B s r) (n : Int) : Fr w hi r0 (w1.setCell ⟨B, 12, none⟩ (.int .u64 n)) B { s with ct := { s.ct with ra := n } } r := x.set 12 _ _ _ rfl ⟨x.rows.pg, x.rows.qu, x.rows.gh⟩ x.frm
theorem Fr.setLo (x : Fr w hi r0 w1 B s r) (n : Int) : Fr w hi r0 (w1.setCell ⟨B, 13, none⟩ (.int .u64 n)) B { s with ct := { s.ct with lo := n } } r := x.set 13 _ _ _ rfl ⟨x.rows.pg, x.rows.qu, x.rows.gh⟩ x.frm
theorem Fr.setPr (x : Fr w hi r0 w1 B s r) (n : Int) : Fr w hi r0 (w1.setCell ⟨B, 14, none⟩ (.int .u64 n)) B { s with ct := { s.ct with pr := n } } r := x.set 14 _ _ _ rfl ⟨x.rows.pg, x.rows.qu, x.rows.gh⟩ x.frm
theorem Fr.setEv (x : Fr w hi r0 w1 B s r) (n : Int) : Fr w hi r0 (w1.setCell ⟨B, 15, none⟩ (.int .u64 n)) B { s with ct := { s.ct with ev := n } } r := x.set 15 _ _ _ rfl ⟨x.rows.pg, x.rows.qu, x.rows.gh⟩ x.frm
theorem Fr.setFo (x : Fr w hi r0 w1 B s r) (n : Int) : Fr w hi r0 (w1.setCell ⟨B, 16, none⟩ (.int .u64 n)) B { s with ct := { s.ct with fo := n } } r := x.set 16 _ _ _ rfl ⟨x.rows.pg, x.rows.qu, x.rows.gh⟩ x.frm
/-- the box is written over by a state that a call told -/
theorem Fr.setAll (x : Fr w hi r0 w1 B s r) {s' : St} {r' : R3} (hr : SR w1 s' r') (hf : Frm hi r0 r') : Fr w hi r0 (w1.setRow B (sA s' r')) B s' r' :=
  ⟨x.box.rowSet (sA_len _ _), sr_row hr hf x.old x.lo x.up _, hf, x.old, below_setRow x.bel x.lo, x.lo, x.up, by rw [size_setRow]; exact x.hi⟩
/-- what a call told of the state in the box -/
theorem Fr.told (x : Fr w hi r0 w1 B s r) {s' : St} {r' : R3} (hr : SR w2 s' r') (hf : Frm w1.heap.size r r') : Frm hi r0 r' := x.frm.trans hf x.hi
/-- the box's cells -/
theorem Fr.c (x : Fr w hi r0 w1 B s r) (k : Nat) (v : Value) (hv : (sA s r)[k]? = some v) : w1.cell? ⟨B, k, none⟩ = some v := x.box.cell k v hv
/-- a fresh box -/
theorem Fr.start {s : St} {r : R3} (h : SR w s r) (o : Obj) : Fr w (w.heap.size + 2) r ((w.alloc (.cells (sA s r) 31)).alloc o) w.heap.size s r := by
  have b1 := alloc_below w (.cells (sA s r) 31)
  have b2 := alloc_in b1 b1.size o
  exact ⟨(box_alloc w (sA s r) (sA_len _ _)).kept (alloc_below _ o) (by simp), h.kept b2, Frm.refl _ _, h.old, b2, Nat.le_refl _, by omega, by simp⟩
theorem Fr.start1 {s : St} {r : R3} (h : SR w s r) : Fr w (w.heap.size + 1) r (w.alloc (.cells (sA s r) 31)) w.heap.size s r := by
  have b1 := alloc_below w (.cells (sA s r) 31)
  exact ⟨box_alloc w (sA s r) (sA_len _ _), h.kept b1, Frm.refl _ _, h.old, b1, Nat.le_refl _, by omega, by simp⟩
/-- the result's block is written, and told -/
theorem Fr.ret (x : Fr w hi r0 w1 B s r) {R : Nat} (h1 : w.heap.size ≤ R) (h2 : R < hi) {s' : St} {r' : R3} (hr : SR w1 s' r') (hf : Frm hi r0 r') (hh : w.heap.size ≤ hi) {e : Ending} (he : e = .returned (sV s' r')) : SPost w r0 s' e (w1.setRow R (sA s' r')) :=
  ⟨r', he, sr_row hr hf x.old h1 h2 _, hf.weak hh, below_setRow x.bel h1⟩
end
end Go.Proofs.Ytifenpmkbnohhaa
namespace Go.Proofs.Ytifenpmkbnohhaa
set_option linter.unusedVariables false
variable {P : Program} {ops : Array Oper} {md : Region.Mode} {C : World → Prop}
/-- the head's first f operations, in any order, in a class of worlds -/
def headQ (P : Program) (md : Region.Mode) (ops : Array Oper) (C : World → Prop) (n : Nat) (L : Array Bool → Act → Prop) : Nat → Array Bool → Act → Prop
  | 0, listed, a => L listed a
  | f + 1, listed, a => Region.ready md ops listed ≠ [] ∧ ∀ i ∈ Region.ready md ops listed, i < n ∧ qOp P ops C i (headQ P md ops C n L f (listed.setIfInBounds i true)) a
theorem any_of_headQ {n g : Nat} {L : Array Bool → Act → Prop} {Q' : Exit → Act → World → Prop} (hL : ∀ listed a w, C w → L listed a → wpAny P md ops Q' g listed a w) :
    ∀ (f : Nat) (listed : Array Bool) (a : Act) (w : World), C w → headQ P md ops C n L f listed a → wpAny P md ops Q' (f + g) listed a w
  | 0, listed, a, w, hw, h => by rw [Nat.zero_add]; exact hL _ _ _ hw h
  | f + 1, listed, a, w, hw, h => by
    rw [show f + 1 + g = (f + g) + 1 by omega]
    exact ⟨fun h0 => absurd h0 h.1, fun i hi => wpOp_of_qOp hw (fun a' w' hw' h' => any_of_headQ hL f _ a' w' hw' h') (h.2 i hi).2⟩
theorem headQ_first {n i : Nat} {oi : Oper} {v : Value} {L : Array Bool → Act → Prop} (hi : ops[i]? = some oi) (hsel : ∀ (j : Nat) (o : Oper) cs b, ops[j]? = some o → o.op ≠ .select cs b)
    (hs : Region.sinkB md ops n = true) (hc : Region.chainB md ops n = true) (hn : n < ops.size) (hin : i < n)
    (hdone : ∀ listed a, L listed a → ∀ j ∈ Region.ready md ops listed, n ≤ j) :
    ∀ (f : Nat) (listed : Array Bool) (a : Act), HeadInv md ops n listed →
      (∀ j oj, ops[j]? = some oj → j ≠ i → listed.getD j true = false → (∀ e ∈ oj.after, Region.binds md e = true → e.on ≠ i) → oi.apart ops oj = true) →
      i ∈ Region.ready md ops listed → YieldsIn P ops C oi v a →
      headQ P md ops C n L f (listed.setIfInBounds i true) (a.put oi.dst v) → headQ P md ops C n L (f + 1) listed a := by
  intro f
  induction f with
  | zero =>
    intro listed a inv _ hr hy H
    refine ⟨fun h => (by rw [h] at hr; cases hr), fun j hj => ?_⟩
    have hjn : j < n := (Nat.lt_or_ge j n).elim id fun h => absurd hj (tail_waits hs hc hn inv _ i rfl hin (mem_ready.1 hr).1 j h)
    refine ⟨hjn, ?_⟩
    by_cases hji : j = i
    · subst hji; exact hy.qOp hi H
    · have := hdone _ _ H j (ready_mono hj hji)
      omega
  | succ f ih =>
    intro listed a inv hfree hr hy H
    have hun := (mem_ready.1 hr).1
    refine ⟨fun h => (by rw [h] at hr; cases hr), fun j hj => ?_⟩
    have hjn : j < n := (Nat.lt_or_ge j n).elim id fun h => absurd hj (tail_waits hs hc hn inv _ i rfl hin hun j h)
    refine ⟨hjn, ?_⟩
    by_cases hji : j = i
    · subst hji; exact hy.qOp hi H
    · obtain ⟨hjun, oj, hoj, hall⟩ := mem_ready.1 hj
      have hnot : ∀ e ∈ oj.after, Region.binds md e = true → e.on ≠ i := fun e he hb heq => by
        have h1 := hall e he hb
        rw [heq, getD_both hun] at h1
        cases h1
      refine qOp_mono (fun a' h3 => ih (listed.setIfInBounds j true) a' (inv.set hj hjn) (fun k ok hk hki hu hno => hfree k ok hk hki ?_ hno) (ready_mono hr (Ne.symm hji)) h3.1 ?_)
        (qOp_put hoj (hfree j oj hoj hji hjun hnot) (fun cs b => hsel i oi cs b hi) (fun cs b => hsel j oj cs b hoj) hy (H.2 j (ready_mono hj hji)).2)
      · by_cases hjk : j = k
        · subst hjk; exact hjun
        · rw [getD_set_ne true hjk] at hu; exact hu
      · rw [Array.setIfInBounds_comm _ _ hji]
        exact h3.2
theorem headQ_lex {n g : Nat} {Lq : Act → Prop} (hsel : Region.noSelect ops = true) (hs : Region.sinkB md ops n = true) (hc : Region.chainB md ops n = true) (hn : n < ops.size) :
    ∀ (l : List Oper) (k : Nat) (listed : Array Bool) (a : Act), (∀ j, j < l.length → l[j]? = ops[k + j]?) → k + l.length = n → HeadInv md ops n listed →
    Region.lexHead md ops g l.length k listed = true → wpQuiet P ops C Lq l a →
    headQ P md ops C n (fun listed' a' => Region.seqB md ops g n listed' = true ∧ Lq a') l.length listed a
  | [], k, listed, a, _, hk, _, hB, h => by
    obtain rfl : k = n := by simpa using hk
    exact ⟨by simpa [Region.lexHead] using hB, h⟩
  | o :: l, k, listed, a, hl, hk, inv, hB, h => by
    have h0 : ops[k]? = some o := by simpa using (hl 0 (by simp)).symm
    simp only [List.length_cons, Region.lexHead, Bool.and_eq_true] at hB
    obtain ⟨⟨hr, hf⟩, hB'⟩ := hB
    have hkn : k < n := by simp only [List.length_cons] at hk; omega
    have hr' : k ∈ Region.ready md ops listed := by simpa using hr
    have hst : qOp P ops C k (wpQuiet P ops C Lq l) a := by unfold qOp; simp only [h0]; exact h
    obtain ⟨v, hy, hK⟩ := yieldsIn_of_qOp h0 hst
    exact headQ_first h0 (Region.noSelect_spec hsel) hs hc hn hkn (fun listed' a' hL => seqB_ready hL.1) l.length listed a inv (Region.free_spec h0 hf) hr' hy
      (headQ_lex hsel hs hc hn l (k + 1) _ _ (fun j hj => by have := hl (j + 1) (by simp; omega); simpa [Nat.add_assoc, Nat.add_comm 1 j] using this) (by simp only [List.length_cons] at hk; omega) (inv.set hr' hkn) hB' hK)
/-- the first n operations are quiet in a class of worlds; what follows them is walked from any world of the class -/
theorem region_quiet_tail {id : Nat} {Q : Exit → Act → World → Prop} {a : Act} {w : World} {l : List Oper} (n : Nat) (hm : P.follows .mixedOrders = true) (hB : Region.lexTailB .any l.toArray n = true) (hC : C { w with drawn := w.drawn + 1 })
    (h : wpQuiet P l.toArray C (fun a' => ∀ w', C w' → wpList P l.toArray Q (l.drop n) a' w') (l.take n) a) : (Code.region id l.toArray true).wp P Q a w := by
  simp only [Region.lexTailB, Bool.and_eq_true, decide_eq_true_eq] at hB
  obtain ⟨⟨⟨⟨hsel, hn⟩, hs⟩, hc⟩, hlex⟩ := hB
  have hn' : n < l.length := by simpa using hn
  have htl : (l.take n).length = n := by simp; omega
  have hdl : (l.drop n).length = l.toArray.size - n := by simp
  have inv0 : HeadInv .any l.toArray n (Array.replicate l.toArray.size false) :=
    ⟨by simp, fun j oj _ hl => (by rw [getD_replicate_false] at hl; cases hl), fun t _ ht => getD_in (by simpa using ht) (getD_replicate_false _ _)⟩
  have H := headQ_lex (C := C) (md := .any) (g := l.toArray.size - n) hsel hs hc hn (l.take n) 0 _ a (fun j hj => by
    have hj' : j < n := by rw [htl] at hj; exact hj
    simp [hj']) (by simpa using htl) inv0 (by rw [htl]; exact hlex) h
  refine wp_region_any hm ?_
  have := any_of_headQ (Q' := Q) (g := l.toArray.size - n) (fun listed a' w' hw' hL => by
    have := wpAny_of_seq (md := .any) (Q' := Q) (l.drop n) n listed a' w' (fun j => by simp [List.getElem?_drop]) (by rw [hdl]; exact hL.1) (hL.2 w' hw')
    rwa [hdl] at this) _ _ _ _ hC H
  rw [htl, show n + (l.toArray.size - n) = l.toArray.size by omega] at this
  exact this
end Go.Proofs.Ytifenpmkbnohhaa
namespace Go.Proofs.Ytifenpmkbnohhaa
open Go.RowKit
set_option linter.unusedVariables false
structure GrB (w : World) where
  v : World
  h : Below w.heap.size w v
instance (w : World) : Inhabited (GrB w) := ⟨⟨w, Below.refl _ _⟩⟩
theorem region_grown {P : Program} {id : Nat} {Q : Exit → Act → World → Prop} {a : Act} {w : World} {l : List Oper} (hm : P.follows .mixedOrders = true) (hB : Region.lexB .any l.toArray = true)
    (h : wpQuiet P l.toArray (fun w' => ∃ p : GrB w, w' = p.v) (fun a' => ∀ w', (∃ p : GrB w, w' = p.v) → Q .normal a' w') l a) : (Code.region id l.toArray true).wp P Q a w :=
  wp_region_quiet (C := fun w' => ∃ p : GrB w, w' = p.v) hm hB ⟨⟨w.drewN 1, below_drew (Below.refl _ _) 1⟩, rfl⟩ (by simpa using h)
theorem region_grown_tail {P : Program} {id : Nat} {Q : Exit → Act → World → Prop} {a : Act} {w : World} {l : List Oper} (n : Nat) (hm : P.follows .mixedOrders = true) (hB : Region.lexTailB .any l.toArray n = true)
    (h : wpQuiet P l.toArray (fun w' => ∃ p : GrB w, w' = p.v) (fun a' => ∀ w', (∃ p : GrB w, w' = p.v) → wpList P l.toArray Q (l.drop n) a' w') (l.take n) a) : (Code.region id l.toArray true).wp P Q a w :=
  region_quiet_tail (C := fun w' => ∃ p : GrB w, w' = p.v) n hm hB ⟨⟨w.drewN 1, below_drew (Below.refl _ _) 1⟩, rfl⟩ h
/-- a contract, in any world that has only grown -/
theorem grown_call {P : Program} {w : World} {f : FuncId} {args : Array Value} {v : Value} (h : ∀ V, Below w.heap.size w V → Calls P f args V fun e w' => e = .returned v ∧ Below V.heap.size V w') (p : GrB w) : Calls P f args p.v fun e w' => e = .returned v ∧ ∃ p' : GrB w, w' = p'.v :=
  (h p.v p.h).mono fun e w' ⟨h1, h2⟩ => ⟨h1, ⟨w', p.h.trans (h2.mono p.h.size)⟩, rfl⟩
end Go.Proofs.Ytifenpmkbnohhaa
namespace Go.Proofs.Ytifenpmkbnohhaa
open Go.RowKit
open Go.Proofs.StackM
set_option linter.unusedVariables false
/-- what the walks lean on: rows of at most so many -/
def Lim (s : St) (m : Nat) : Prop := s.pg.length ≤ m ∧ s.qu.length ≤ m ∧ s.gh.length ≤ m
instance (s : St) (m : Nat) : Decidable (Lim s m) := by unfold Lim; infer_instance
set_option maxHeartbeats 1000000 in
set_option maxRecDepth 100000 in
theorem small_at (s : St) (r : R3) (m : Nat) (hm : m ≤ 100000) (w : World) : Calls Try.prog 8 #[sV s r, .int .i64 (m : Int)] w fun e w' => e = .returned (.bool (decide (Lim s m))) ∧ Below w.heap.size w w' := by
  have hB := box_alloc w (sA s r) (sA_len _ _)
  have d5 := at5 hB
  have d6 := at6 hB
  have d7 := at7 hB
  have HQ := Lib.hid (alloc_below w (.cells (sA s r) 31))
  obtain ⟨b, hb⟩ : ∃ b, b = decide (Lim s m) := ⟨_, rfl⟩
  rw [← hb]
  obtain ⟨n1, h1⟩ : ∃ n, n = s.pg.length := ⟨_, rfl⟩
  obtain ⟨n2, h2⟩ : ∃ n, n = s.qu.length := ⟨_, rfl⟩
  obtain ⟨n3, h3⟩ : ∃ n, n = s.gh.length := ⟨_, rfl⟩
  have hb2 : b = decide (n1 ≤ m ∧ n2 ≤ m ∧ n3 ≤ m) := by rw [hb, h1, h2, h3]; rfl
  rw [← h1] at d5
  rw [← h2] at d6
  rw [← h3] at d7
  have HB := Lib.hid hb2
  clear hB hb h1 h2 h3 hb2
  by_cases g1 : (n1 : Int) ≤ (m : Int)
  · by_cases g2 : (n2 : Int) ≤ (m : Int)
    · by_cases g3 : (n3 : Int) ≤ (m : Int)
      · obtain rfl : b = true := by rw [HB.out]; exact decide_eq_true ⟨by omega, by omega, by omega⟩
        go_enter Try.func8, Try.ntmps8
        go_wp2
        go_ret
        exact ⟨rfl, HQ.out⟩
      · obtain rfl : b = false := by rw [HB.out]; exact decide_eq_false (fun h => g3 (by omega))
        go_enter Try.func8, Try.ntmps8
        go_wp2
        go_ret
        exact ⟨rfl, HQ.out⟩
    · obtain rfl : b = false := by rw [HB.out]; exact decide_eq_false (fun h => g2 (by omega))
      go_enter Try.func8, Try.ntmps8
      go_wp2
      go_ret
      exact ⟨rfl, HQ.out⟩
  · obtain rfl : b = false := by rw [HB.out]; exact decide_eq_false (fun h => g1 (by omega))
    go_enter Try.func8, Try.ntmps8
    go_wp2
    go_ret
    exact ⟨rfl, HQ.out⟩
/-- a config that bounds are reckoned with -/
def Cok (c : Cf) : Prop := (0 ≤ c.c ∧ c.c ≤ 100000) ∧ (0 ≤ c.q ∧ c.q ≤ 100000) ∧ (0 ≤ c.g ∧ c.g ≤ 100000)
theorem many_le (l : List Pg) (d : Int) : many l d ≤ l.length := List.countP_le_length
set_option maxHeartbeats 1000000 in
set_option maxRecDepth 100000 in
theorem room_at (s : St) (r : R3) (hc : Cok s.cf) (hl : Lim s 100000) (w : World) (hr : SR w s r) : Calls Try.prog 74 #[sV s r] w fun e w' => e = .returned (.bool (decide (Rm s))) ∧ Below w.heap.size w w' := by
  have x := Fr.start1 hr
  obtain ⟨w1, hw1⟩ : ∃ w1, w1 = w.alloc (.cells (sA s r) 31) := ⟨_, rfl⟩
  rw [← hw1] at x
  have HW := Lib.hid hw1
  have d1 : ∀ W : GrB w1, W.v.cell? ⟨w.heap.size, 1, none⟩ = some (.int .i64 s.cf.c) := fun W => at1 (x.keep W.h).box
  have d2 : ∀ W : GrB w1, W.v.cell? ⟨w.heap.size, 2, none⟩ = some (.int .i64 s.cf.q) := fun W => at2 (x.keep W.h).box
  have d5 : ∀ W : GrB w1, W.v.cell? ⟨w.heap.size, 5, none⟩ = some (.slice r.a1 s.pg.length r.c1) := fun W => at5 (x.keep W.h).box
  have C23 := Lib.hid (grown_call (w := w1) fun V hV => (many_at s.pg 1 r.a1 s.pg.length r.c1 rfl (by have := hl.1; omega) V (x.keep hV).rows.pg.row).mono fun e w' ⟨e1, e2⟩ => ⟨e1, e2 ▸ Below.refl _ _⟩)
  obtain ⟨b, hb⟩ : ∃ b, b = decide (Rm s) := ⟨_, rfl⟩
  rw [← hb]
  have hml := many_le s.pg 1
  obtain ⟨n, hn⟩ : ∃ n, n = many s.pg 1 := ⟨_, rfl⟩
  have hb2 : b = decide ((n : Int) < s.cf.c - s.cf.q) := by rw [hb, hn]; rfl
  have hn6 : n ≤ 100000 := by rw [hn]; have := hl.1; omega
  rw [← hn] at C23
  obtain ⟨⟨k1, k2⟩, ⟨k3, k4⟩, _⟩ := hc
  obtain ⟨cc, hcc⟩ : ∃ z, z = s.cf.c := ⟨_, rfl⟩
  obtain ⟨cq, hcq⟩ : ∃ z, z = s.cf.q := ⟨_, rfl⟩
  rw [← hcc] at d1 k1 k2 hb2
  rw [← hcq] at d2 k3 k4 hb2
  have HX := Lib.hid x
  have HB := Lib.hid hb2
  clear hb hml hn hb2 hcc hcq x hr hl hw1
  go_enter Try.func74, Try.ntmps74
  go_wp2_with fail
  rw [← HW.out]
  refine region_grown (by kernel_rfl) (by kernel_rfl) ?_
  repeat (go_big_quiet_step (first | (go_at_call 23; exact C23.out _)))
  refine wpQuiet_nil ?_
  rintro w' ⟨⟨w9, hgl⟩, rfl⟩
  clear d1 d2 d5
  go_wp2
  go_ret
  exact ⟨by rw [HB.out]; rfl, (HX.out.keep hgl).bel⟩
/-- of which kind a key's page is -/
theorem fnd_find {l : List Pg} {k : Int} {i : Nat} (h : fnd l k = some i) : ∃ hi : i < l.length, l[i].key = k ∧ l.find? (fun p => decide (p.key = k)) = some l[i] := by
  unfold fnd at h
  have h2 := List.findIdx?_eq_some_iff_getElem.1 h
  obtain ⟨hi, h3, h4⟩ := h2
  refine ⟨hi, by simpa using h3, ?_⟩
  rw [List.find?_eq_some_iff_getElem]
  exact ⟨h3, i, hi, rfl, fun j hj => by simpa using h4 j hj⟩
theorem fnd_none_find {l : List Pg} {k : Int} (h : fnd l k = none) : l.find? (fun p => decide (p.key = k)) = none := by
  unfold fnd at h
  rw [List.findIdx?_eq_none_iff] at h
  rw [List.find?_eq_none]
  intro p hp
  simp [h p hp]
theorem fi_cases (l : List Pg) (k : Int) : (∃ i, ∃ hi : i < l.length, fi l k = (i : Int) ∧ l[i].key = k ∧ l.find? (fun p => decide (p.key = k)) = some l[i]) ∨ (fi l k = -1 ∧ l.find? (fun p => decide (p.key = k)) = none) := by
  unfold fi
  cases h : fnd l k with
  | none => exact .inr ⟨rfl, fnd_none_find h⟩
  | some i =>
    obtain ⟨hi, h1, h2⟩ := fnd_find h
    exact .inl ⟨i, hi, rfl, h1, h2⟩
set_option maxHeartbeats 1000000 in
set_option maxRecDepth 100000 in
theorem is_at (s : St) (r : R3) (k : Int) (hl : Lim s 100000) (w : World) (hr : SR w s r) : Calls Try.prog 24 #[sV s r, .int .u64 k] w fun e w' => e = .returned (.int .i64 (kOf s k)) ∧ Below w.heap.size w w' := by
  have x := Fr.start1 hr
  obtain ⟨w1, hw1⟩ : ∃ w1, w1 = w.alloc (.cells (sA s r) 31) := ⟨_, rfl⟩
  rw [← hw1] at x
  have HW := Lib.hid hw1
  have d5 := at5 x.box
  have d6 := at6 x.box
  obtain ⟨z, hz⟩ : ∃ z, z = kOf s k := ⟨_, rfl⟩
  rw [← hz]
  have C37 := Lib.hid (find_at s.pg k r.a1 s.pg.length r.c1 rfl (by have := hl.1; omega) w1 x.rows.pg.row)
  have C38 := Lib.hid (has_at s.qu k r.a2 s.qu.length r.c2 rfl (by have := hl.2.1; omega) w1 x.rows.qu.row)
  have HX := Lib.hid x
  have d5' : (w.alloc (.cells (sA s r) 31)).cell? ⟨w.heap.size, 5, none⟩ = some (.slice r.a1 s.pg.length r.c1) := by rw [← hw1]; exact d5
  obtain ⟨n, hn⟩ : ∃ n, n = s.pg.length := ⟨_, rfl⟩
  have hnl : n ≤ 100000 := by rw [hn]; exact hl.1
  rw [← hn] at d5 d5' C37
  have HN := Lib.hid hn
  rcases fi_cases s.pg k with ⟨i, hi, h1, h2, h3⟩ | ⟨h1, h3⟩
  · rw [h1] at C37
    have hz2 : z = s.pg[i].kind := by rw [hz, kOf, h3]
    obtain ⟨b, off, ha, hc⟩ := x.rows.pg.row.at hi
    obtain ⟨_, c1, _, _⟩ := hc i hi
    rw [← hz2] at c1
    have hin : i < n := by rw [hn]; exact hi
    rw [ha] at d5 d5' C37
    clear hz h1 h2 h3 hz2 hc x hr hl hw1 hn
    go_enter Try.func24, Try.ntmps24
    go_wp2_with fail
    rw [← HW.out]
    refine C37.out.mono ?_
    rintro e w2 ⟨rfl, h2⟩
    subst h2
    go_wp2
    go_ret
    exact ⟨rfl, HX.out.bel⟩
  · rw [h1] at C37
    have hz2 : z = if k ∈ s.qu then 2 else 0 := by rw [hz, kOf, h3]
    have HZ := Lib.hid hz2
    clear hz h1 h3 hz2 x hr hl hw1 hn
    by_cases hk : k ∈ s.qu
    · rw [decide_eq_true hk] at C38
      obtain rfl : z = 2 := by rw [HZ.out, if_pos hk]
      clear hk
      go_enter Try.func24, Try.ntmps24
      go_wp2_with fail
      rw [← HW.out]
      refine C37.out.mono ?_
      rintro e w2 ⟨rfl, h2⟩
      subst h2
      go_wp2_with fail
      refine C38.out.mono ?_
      rintro e w2 ⟨rfl, h2⟩
      subst h2
      go_wp2
      go_ret
      exact ⟨rfl, HX.out.bel⟩
    · rw [decide_eq_false hk] at C38
      obtain rfl : z = 0 := by rw [HZ.out, if_neg hk]
      clear hk
      go_enter Try.func24, Try.ntmps24
      go_wp2_with fail
      rw [← HW.out]
      refine C37.out.mono ?_
      rintro e w2 ⟨rfl, h2⟩
      subst h2
      go_wp2_with fail
      refine C38.out.mono ?_
      rintro e w2 ⟨rfl, h2⟩
      subst h2
      go_wp2
      go_ret
      exact ⟨rfl, HX.out.bel⟩
end Go.Proofs.Ytifenpmkbnohhaa
