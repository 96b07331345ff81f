/-
  Acts that came in; one act.
-/
import Derived.Test.YthpcjgfbngemiaaDropOk
import Derived.Deep.Strs
import Derived.ChangeSame
import Derived.OpenShut
namespace Go.Proofs.Ythpcjgfbngemiaa
open Go.ChangeShapes Go.WideShapes Go.ChangeAt Go.RowKit
set_option linter.unusedVariables false
set_option maxRecDepth 100000
/-- bytes that are read -/
def Src (w : World) (A : Option Addr) (n : Nat) (ys : List Int) : Prop := ys.length = n ∧ (n = 0 ∨ ∃ q o, A = some ⟨q, o, none⟩ ∧ q < w.heap.size ∧ ∀ j u, (rvals benc ys)[j]? = some u → w.cell? ⟨q, o + j, none⟩ = some u) ∧ ∀ y ∈ ys, 0 ≤ y ∧ y < 256
theorem Src.kept {w w' : World} {A : Option Addr} {n : Nat} {ys : List Int} (h : Src w A n ys) (hg : w.grownBy w' none) : Src w' A n ys := by
  obtain ⟨h1, h2, h3⟩ := h
  refine ⟨h1, ?_, h3⟩
  rcases h2 with h2 | ⟨q, o, e, hq, hc⟩
  · exact .inl h2
  · exact .inr ⟨q, o, e, Nat.lt_of_lt_of_le hq hg.size, fun j u hu => hg.cell (hc j u hu) (by simp)⟩
structure AV where
  put : Bool
  A : Option Addr
  n : Nat
  c : Nat
  num : Int
  ys : List Int
/-- the slice at A reads as the acts -/
def ActsAt (w : World) (A : Option Addr) (l : List AV) : Prop :=
  l = [] ∨ ∃ b off, A = some ⟨b, off, none⟩ ∧ ∀ i a, l[i]? = some a → w.cell? ⟨b, off + i * 3, none⟩ = some (.bool a.put) ∧ w.cell? ⟨b, off + i * 3 + 1, none⟩ = some (.slice a.A a.n a.c) ∧ w.cell? ⟨b, off + i * 3 + 2, none⟩ = some (.int .i64 a.num) ∧ Src w a.A a.n a.ys
theorem ActsAt.kept {w w' : World} {A : Option Addr} {l : List AV} (h : ActsAt w A l) (hg : w.grownBy w' none) : ActsAt w' A l := by
  rcases h with h | ⟨b, off, rfl, hc⟩
  · exact .inl h
  · refine .inr ⟨b, off, rfl, fun i a hi => ?_⟩
    obtain ⟨h0, h1, h2, h3⟩ := hc i a hi
    exact ⟨hg.cell h0 (by simp), hg.cell h1 (by simp), hg.cell h2 (by simp), h3.kept hg⟩
section
variable {H : Type} {enc : TypeId × Value → H} {w : World} {base : Nat} {spare : Nat → Bool} {held : Bool}
theorem addr_plain {x : Addr} {v : Value} (h : w.cell? (x.add 0) = some v) : ∃ b off, x = ⟨b, off, none⟩ := by
  obtain ⟨b, off, sp⟩ := x
  cases sp with
  | none => exact ⟨b, off, rfl⟩
  | some s =>
    exfalso
    unfold World.cell? Addr.add at h
    simp at h
    split at h <;> simp at h
theorem list3 {α : Type} {l : List α} (h : l.length = 3) : ∃ a b c, l = [a, b, c] := by
  match l, h with
  | [a, b, c], _ => exact ⟨a, b, c, rfl⟩
theorem cells33 : Try.prog.cellsOf 33 = 3 := by kernel_rfl
/-- bytes that came in -/
theorem open_bytes {fuel : Nat} {A : Option Addr} {n c : Nat} {x : DataW H × List MemPlace} (h : DataW.trod enc Try.prog w base spare held fuel 31 [Value.slice A n c] = some x) : ∃ ys, Src w A n ys := by
  rcases open_ints Try.underlying31 Try.underlying5 (by kernel_rfl) h with ⟨hcs, _⟩ | ⟨a, l, cc, zs, hcs, _, hl, hm, hz, _, hcell, hwz⟩
  · simp at hcs
    obtain ⟨rfl, rfl, rfl⟩ := hcs
    exact ⟨[], rfl, .inl rfl, by simp⟩
  · simp at hcs
    obtain ⟨rfl, rfl, rfl⟩ := hcs
    have hzl : n ≤ zs.length := by rw [hz]; split <;> omega
    refine ⟨zs.take n, by simp; omega, ?_, fun y hy => ?_⟩
    · by_cases h0 : n = 0
      · exact .inl h0
      · right
        obtain ⟨b, off, rfl⟩ := addr_plain (hcell 0 (by omega))
        have hlt := block_lt_of_cell (hcell 0 (by omega))
        rw [Go.WideShapes.add_plain] at hlt
        refine ⟨b, off, rfl, hlt, fun j u hu => ?_⟩
        have hj : j < n := by
          have := (List.getElem?_eq_some_iff.1 hu).1
          rw [rvals_len benc_len, List.length_take] at this
          omega
        have hc := hcell j (by omega)
        rw [Go.WideShapes.add_plain] at hc
        rw [hc]
        have h2 := rvals_get benc_len (l := zs.take n) (i := j) (x := zs.getD j 0) (by
          rw [List.getElem?_take, if_pos hj, List.getElem?_eq_getElem (by omega), List.getD_eq_getElem?_getD, List.getElem?_eq_getElem (by omega)]
          rfl) (j := 0) (by omega)
        simp only [Nat.mul_one, Nat.add_zero] at h2
        rw [hu] at h2
        rw [h2]
        rfl
    · have := bounds_u8 (hwz y (List.mem_of_mem_take hy))
      omega
theorem open_acts {fuel : Nat} {A : Option Addr} {len cap : Nat} {x : DataW H × List MemPlace} (h : DataW.trod enc Try.prog w base spare held fuel 22 (Value.slice A len cap).cells.toList = some x) :
    ∃ l : List AV, l.length = len ∧ (∀ a ∈ l, (Lit.int .i64 a.num).wf = true) ∧ ActsAt w A l := by
  rcases Go.Deep.open_slice Try.underlying22 h with ⟨hcs, _⟩ | ⟨a, l, c, m, n, D, Pl, hcs, _, hl, hm, hmm, _, hel⟩
  · simp [Value.cells] at hcs
    obtain ⟨rfl, rfl, rfl⟩ := hcs
    exact ⟨[], rfl, by simp, .inl rfl⟩
  · simp [Value.cells] at hcs
    obtain ⟨rfl, rfl, rfl⟩ := hcs
    have hml : len ≤ m := by rw [hmm]; split <;> omega
    have key : ∀ i, i < len → ∃ av : AV, (Lit.int .i64 av.num).wf = true ∧ w.cell? (a.add (i * 3)) = some (.bool av.put) ∧ w.cell? (a.add (i * 3 + 1)) = some (.slice av.A av.n av.c) ∧ w.cell? (a.add (i * 3 + 2)) = some (.int .i64 av.num) ∧ Src w av.A av.n av.ys := by
      intro i hi
      obtain ⟨cs', hc, ht⟩ := hel i (by omega)
      rw [cells33] at hc
      obtain ⟨y0, y1, y2, n', _, hlen, t0, t1, t2⟩ := Go.Deep.trod_struct3 Try.underlying33 ht
      rw [cells33] at hlen
      obtain ⟨v0, v1, v2, rfl⟩ := list3 hlen
      clear hlen
      have e0 : ([v0, v1, v2].drop 0).take (Try.prog.cellsOf 4) = [v0] := by rw [show Try.prog.cellsOf 4 = 1 by kernel_rfl]; rfl
      have e1 : ([v0, v1, v2].drop 1).take (Try.prog.cellsOf 31) = [v1] := by rw [show Try.prog.cellsOf 31 = 1 by kernel_rfl]; rfl
      have e2 : ([v0, v1, v2].drop 2).take (Try.prog.cellsOf 3) = [v2] := by rw [show Try.prog.cellsOf 3 = 1 by kernel_rfl]; rfl
      simp only at t0 t1 t2
      rw [e0] at t0
      rw [e1] at t1
      rw [e2] at t2
      obtain ⟨p, hp, _⟩ := DataW.trod_bool Try.underlying4 t0
      obtain ⟨k, hk, _, wk⟩ := DataW.trod_int Try.underlying3 t2
      obtain ⟨A1, n1, c1, rfl⟩ : ∃ A1 n1 c1, v1 = .slice A1 n1 c1 := by
        rcases open_ints Try.underlying31 Try.underlying5 (by kernel_rfl) t1 with ⟨hcs, _⟩ | ⟨a, l, cc, zs, hcs, _⟩
        · simp at hcs; exact ⟨_, _, _, hcs⟩
        · simp at hcs; exact ⟨_, _, _, hcs⟩
      obtain ⟨ys, hys⟩ := open_bytes t1
      cases hk; cases hp
      refine ⟨⟨p, A1, n1, c1, k, ys⟩, wk, ?_⟩
      have hcc : ∀ j u, [Value.bool p, .slice A1 n1 c1, .int .i64 k][j]? = some u → w.cell? ((a.add (i * 3)).add j) = some u := fun j u hj => by
        have hj3 : j < 3 := by have := (List.getElem?_eq_some_iff.1 hj).1; simpa using this
        exact ((World.cells?_some hc).2.2 j hj3).trans hj
      have q0 := hcc 0 _ rfl
      have q1 := hcc 1 _ rfl
      have q2 := hcc 2 _ rfl
      rw [Go.Deep.add_add] at q0 q1 q2
      exact ⟨q0, q1, q2, hys⟩
    by_cases h0 : len = 0
    · subst h0; exact ⟨[], rfl, by simp, .inl rfl⟩
    · have key' : ∃ f : Nat → AV, ∀ i, i < len → (Lit.int .i64 (f i).num).wf = true ∧ w.cell? (a.add (i * 3)) = some (.bool (f i).put) ∧ w.cell? (a.add (i * 3 + 1)) = some (.slice (f i).A (f i).n (f i).c) ∧ w.cell? (a.add (i * 3 + 2)) = some (.int .i64 (f i).num) ∧ Src w (f i).A (f i).n (f i).ys := by
        refine ⟨fun i => if h : i < len then (key i h).choose else ⟨false, none, 0, 0, 0, []⟩, fun i hi => ?_⟩
        simp only [dif_pos hi]
        exact (key i hi).choose_spec
      obtain ⟨f, hf⟩ := key'
      obtain ⟨b, off, rfl⟩ := addr_plain (x := a) (by have := (hf 0 (by omega)).2.1; simpa using this)
      refine ⟨(List.range len).map f, by simp, fun x hx => ?_, .inr ⟨b, off, rfl, fun i x hi => ?_⟩⟩
      · obtain ⟨i, hi, rfl⟩ := List.mem_map.1 hx
        exact (hf i (List.mem_range.1 hi)).1
      · have hil : i < len := by have := (List.getElem?_eq_some_iff.1 hi).1; simpa using this
        rw [List.getElem?_map, List.getElem?_range hil] at hi
        injection hi with hi
        subst hi
        have h := (hf i hil).2
        simp only [Go.WideShapes.add_plain] at h
        exact h
end
/-- what one act leaves -/
structure Nx (V V' : Vl) : Prop where
  vm : VM V' 0 0
  room : V'.room = V.room
  kl : V'.bk.length ≤ V.bk.length + 1
  moved : V'.moved ≤ V.moved + V.used
  packs : V'.packs ≤ V.packs + 1
theorem Nx.same {V : Vl} (h : VM V 0 0) : Nx V V := ⟨h, rfl, by omega, by omega, by omega⟩
section
variable {w : World} {lo b : Nat} {h : Hd} {V : Vl}
/-- Put of any value -/
theorem put_any (x : VAt w lo b h V) (hv : VM V 0 0) {A : Option Addr} {n c : Nat} {ys : List Int} (hs : Src w A n ys) (hq : n ≠ 0 → ∀ q o, A = some ⟨q, o, none⟩ → ¬ own b h q) (hk : V.bk.length ≤ 90000) (hmv : V.moved ≤ 900000000000) (hpk : V.packs ≤ 900000000000) :
    Calls Try.prog 9 #[.pointer (some ⟨b, 0, none⟩), .slice A n c] w fun e w' => (V.room < V.used + n ∧ e = .returned (.tuple #[.int .i64 0, .int .i64 3]) ∧ w.grownBy w' none) ∨ (V.used + n ≤ V.room ∧ PutOk w lo b h V n ys e w') := by
  by_cases hf : V.room < V.used + n
  · exact (put_full x A n c hv.room (by have := hv.ur; omega) hf).mono fun e w' ⟨h1, h2⟩ => .inl ⟨hf, h1, h2⟩
  · obtain ⟨h1, h2, h3⟩ := hs
    by_cases h0 : n = 0
    · subst h0
      obtain rfl := List.length_eq_zero_iff.1 h1
      exact (put_zero x hv A c hk).mono fun e w' hp => .inr ⟨by omega, hp⟩
    · rcases h2 with h2 | ⟨q, o, rfl, hql, hc⟩
      · exact absurd h2 h0
      · exact (put_ok x hv (by omega) h1 hc (hq h0 q o rfl) hql (by omega) hk hmv hpk).mono fun e w' hp => .inr ⟨by omega, hp⟩
/-- Drop of any number -/
theorem drop_any (x : VAt w lo b h V) (hv : VM V 0 0) (hk : V.bk.length ≤ 90000) (i : Int) :
    Calls Try.prog 12 #[.pointer (some ⟨b, 0, none⟩), .int .i64 i] w fun e w' => (e = .returned (.bool false) ∧ w.grownBy w' none ∧ ∀ (k a m : Nat), i = (k : Int) → ¬ Blk V k a m) ∨ ∃ (k a m : Nat), i = (k : Int) ∧ Blk V k a m ∧ DropOk w lo b h V k e w' := by
  have hno : (i < 0 ∨ (V.bk.length : Int) ≤ i ∨ ∃ (k : Nat) (p : Int × Int × Int), i = (k : Int) ∧ V.bk[k]? = some p ∧ p.1 = -1) ∨ ∃ (k a m : Nat), i = (k : Int) ∧ Blk V k a m := by
    by_cases h1 : i < 0
    · exact .inl (.inl h1)
    · by_cases h2 : (V.bk.length : Int) ≤ i
      · exact .inl (.inr (.inl h2))
      · obtain ⟨k, rfl⟩ : ∃ k : Nat, i = k := ⟨i.toNat, by omega⟩
        have hkl : k < V.bk.length := by omega
        have hg := List.getElem?_eq_getElem hkl
        rcases hv.kin k _ hg with h3 | ⟨a, m, he, _⟩
        · exact .inl (.inr (.inr ⟨k, _, rfl, hg, h3⟩))
        · exact .inr ⟨k, a, m, rfl, by unfold Blk; rw [hg, he]⟩
  rcases hno with hno | ⟨k, a, m, rfl, hb⟩
  · refine (drop_no x (by omega) i hno).mono fun e w' ⟨h1, h2⟩ => .inl ⟨h1, h2, fun k a m hi hb => ?_⟩
    have hkl : k < V.bk.length := (List.getElem?_eq_some_iff.1 hb).1
    rcases hno with h3 | h3 | ⟨k2, p, e2, h4, h5⟩
    · omega
    · omega
    · obtain rfl : k = k2 := by omega
      unfold Blk at hb
      rw [hb] at h4
      injection h4 with h4
      subst h4
      have : (k : Int) = -1 := h5
      omega
  · exact (drop_ok x hv hk hb).mono fun e w' hd => .inr ⟨k, a, m, rfl, hb, hd⟩
end
end Go.Proofs.Ythpcjgfbngemiaa
