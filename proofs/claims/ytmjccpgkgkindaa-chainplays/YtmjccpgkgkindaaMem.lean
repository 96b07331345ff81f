/-
  How chains lie in memory: a head, a row of links, and a row of lengths. No program is named here.
-/
import Derived.Test.YtmjccpgkgkindaaBase
import Derived.Deep.MidRow
namespace Go.Proofs.Ytmjccpgkgkindaa
open Go.RowKit
set_option linter.unusedVariables false

structure Lk where
  p : Nat
  n : Nat
  l : Nat
  s : Bool
def Lk.cells (x : Lk) : List Value := [.int .i32 (x.p : Int), .int .i32 (x.n : Int), .int .i64 (x.l : Int), .bool x.s]
def put {α : Type} (f : Nat → α) (i : Nat) (x : α) : Nat → α := fun j => if j = i then x else f j
theorem put_same {α : Type} (f : Nat → α) (i : Nat) (x : α) : put f i x i = x := by simp [put]
theorem put_other {α : Type} {f : Nat → α} {i j : Nat} {x : α} (h : j ≠ i) : put f i x j = f j := by simp [put, h]
def zlk : Lk := ⟨0, 0, 0, false⟩

/-- the row of links -/
def LinksAt (w : World) (g n : Nat) (lk : Nat → Lk) : Prop :=
  ∃ cur : Array Value, w.heap[g]? = some (.cells cur 69 (0, 0)) ∧ cur.size = n * 4 ∧ ∀ i t, i < n → t < 4 → cur[i * 4 + t]? = (lk i).cells[t]?
def LensAt (w : World) (g n : Nat) (ln : Nat → Nat) : Prop :=
  ∃ cur : Array Value, w.heap[g]? = some (.cells cur 3 (0, 0)) ∧ cur.size = n ∧ ∀ i, i < n → cur[i]? = some (.int .i64 (ln i : Int))

structure Mem (w : World) (lo b N M gL gN : Nat) (lk : Nat → Lk) (ln : Nat → Nat) : Prop where
  n6 : N ≤ 65536
  m8 : M ≤ 8
  blo : lo ≤ b
  llo : lo ≤ gL
  nlo : lo ≤ gN
  head : w.heap[b]? = some (.cells #[.int .i64 (N : Int), .slice (some ⟨gL, 0, none⟩) (N + M) (N + M), .slice (some ⟨gN, 0, none⟩) M M] 66 (0, 0))
  links : LinksAt w gL (N + M) lk
  lens : LensAt w gN M ln

/-- nothing of old turns but two blocks -/
abbrev Kp (gL gN : Nat) (w w' : World) : Prop := Stay (fun k => k ≠ gL ∧ k ≠ gN) w w'
theorem Kp.of_new {gL gN : Nat} {w w' : World} (hg : w.grownBy w' none) : Kp gL gN w w' := Stay.of_grown hg (by simp)
theorem Kp.of_setL {gL gN : Nat} (w : World) (i : Nat) (v : Value) : Kp gL gN w (w.setCell ⟨gL, i, none⟩ v) := Stay.of_grown (grown_setCell w gL i v) (by intro r e _ h; cases e; exact h.1 rfl)
theorem Kp.of_setN {gL gN : Nat} (w : World) (i : Nat) (v : Value) : Kp gL gN w (w.setCell ⟨gN, i, none⟩ v) := Stay.of_grown (grown_setCell w gN i v) (by intro r e _ h; cases e; exact h.2 rfl)
theorem Kp.grown {gL gN : Nat} {w0 w w' : World} (h0 : w0.grownBy w none) (h : Kp gL gN w w') (hl : w0.heap.size ≤ gL) (hn : w0.heap.size ≤ gN) : w0.grownBy w' none :=
  ⟨h.os.trans h0.os, h.tape.trans h0.tape, h.output.trans h0.output, Nat.le_trans h0.size h.size, fun k hk hr => (h.block k (Nat.lt_of_lt_of_le hk h0.size) ⟨by omega, by omega⟩).trans (h0.block k hk hr)⟩

section
variable {w w' : World} {lo b N M gL gN : Nat} {lk : Nat → Lk} {ln : Nat → Nat}
theorem LinksAt.cell {g n : Nat} (h : LinksAt w g n lk) {i t : Nat} (hi : i < n) (ht : t < 4) : w.cell? ⟨g, i * 4 + t, none⟩ = (lk i).cells[t]? := by
  obtain ⟨cur, h1, h2, h3⟩ := h
  rw [cell_of_head h1]; exact h3 i t hi ht
theorem LinksAt.free {g n : Nat} (h : LinksAt w g n lk) (i : Nat) : w.frozen? ⟨g, i, none⟩ = false := by
  obtain ⟨cur, h1, h2, h3⟩ := h
  exact frozen_of_head h1 i
theorem LinksAt.stay {g n : Nat} (h : LinksAt w g n lk) (hb : w'.heap[g]? = w.heap[g]?) : LinksAt w' g n lk := by
  obtain ⟨cur, h1, h2, h3⟩ := h
  exact ⟨cur, hb.trans h1, h2, h3⟩
theorem LensAt.stay {g n : Nat} (h : LensAt w g n ln) (hb : w'.heap[g]? = w.heap[g]?) : LensAt w' g n ln := by
  obtain ⟨cur, h1, h2, h3⟩ := h
  exact ⟨cur, hb.trans h1, h2, h3⟩
theorem LensAt.cell {g n : Nat} (h : LensAt w g n ln) {i : Nat} (hi : i < n) : w.cell? ⟨g, i, none⟩ = some (.int .i64 (ln i : Int)) := by
  obtain ⟨cur, h1, h2, h3⟩ := h
  rw [cell_of_head h1]; exact h3 i hi
theorem LensAt.free {g n : Nat} (h : LensAt w g n ln) (i : Nat) : w.frozen? ⟨g, i, none⟩ = false := by
  obtain ⟨cur, h1, h2, h3⟩ := h
  exact frozen_of_head h1 i
theorem LinksAt.lt {g n : Nat} (h : LinksAt w g n lk) : g < w.heap.size := by
  obtain ⟨cur, h1, _⟩ := h
  exact (Array.getElem?_eq_some_iff.1 h1).1
theorem LensAt.lt {g n : Nat} (h : LensAt w g n ln) : g < w.heap.size := by
  obtain ⟨cur, h1, _⟩ := h
  exact (Array.getElem?_eq_some_iff.1 h1).1
/-- the links bear another name -/
theorem LinksAt.congr {g n : Nat} {lk' : Nat → Lk} (h : LinksAt w g n lk) (e : ∀ i, i < n → lk i = lk' i) : LinksAt w g n lk' := by
  obtain ⟨cur, h1, h2, h3⟩ := h
  exact ⟨cur, h1, h2, fun i t hi ht => by rw [h3 i t hi ht, e i hi]⟩
theorem idx4 {i j t u : Nat} (ht : t < 4) (hu : u < 4) (h : i * 4 + t = j * 4 + u) : i = j ∧ t = u := by omega
/-- one cell of a link is stored -/
theorem LinksAt.store {g n : Nat} (h : LinksAt w g n lk) {i t : Nat} (ht : t < 4) (v : Value) (x : Lk) (hx : x.cells = (lk i).cells.set t v) :
    LinksAt (w.setCell ⟨g, i * 4 + t, none⟩ v) g n (put lk i x) := by
  obtain ⟨cur, h1, h2, h3⟩ := h
  refine ⟨cur.setIfInBounds (i * 4 + t) v, heap_setCell_same w _ _ cur 69 v h1, by simpa using h2, fun j u hj hu => ?_⟩
  rw [Array.getElem?_setIfInBounds]
  by_cases hji : j = i
  · subst hji
    rw [put_same, hx, List.getElem?_set]
    by_cases htu : t = u
    · subst htu
      rw [if_pos rfl, if_pos (by omega), if_pos rfl, if_pos (by simpa [Lk.cells] using hu)]
    · rw [if_neg (by omega), if_neg htu, h3 j u hj hu]
  · rw [if_neg (by omega), put_other hji, h3 j u hj hu]
/-- a whole link is stored -/
theorem LinksAt.storeAll {g n : Nat} (h : LinksAt w g n lk) {i : Nat} (x : Lk) : LinksAt (w.setCells g (i * 4) x.cells) g n (put lk i x) := by
  have e : w.setCells g (i * 4) x.cells = (((w.setCell ⟨g, i * 4 + 0, none⟩ (.int .i32 (x.p : Int))).setCell ⟨g, i * 4 + 1, none⟩ (.int .i32 (x.n : Int))).setCell ⟨g, i * 4 + 2, none⟩ (.int .i64 (x.l : Int))).setCell ⟨g, i * 4 + 3, none⟩ (.bool x.s) := by
    simp [World.setCells, Lk.cells]
  rw [e]
  have h1 := h.store (i := i) (t := 0) (by decide) (.int .i32 (x.p : Int)) ⟨x.p, (lk i).n, (lk i).l, (lk i).s⟩ rfl
  have h2 := h1.store (i := i) (t := 1) (by decide) (.int .i32 (x.n : Int)) ⟨x.p, x.n, (lk i).l, (lk i).s⟩ (by rw [put_same]; rfl)
  have h3 := h2.store (i := i) (t := 2) (by decide) (.int .i64 (x.l : Int)) ⟨x.p, x.n, x.l, (lk i).s⟩ (by rw [put_same]; rfl)
  have h4 := h3.store (i := i) (t := 3) (by decide) (.bool x.s) x (by rw [put_same]; rfl)
  refine h4.congr fun j _ => ?_
  by_cases hj : j = i
  · subst hj; simp only [put_same]
  · simp only [put_other hj]
theorem grown_setCells (w : World) (g : Nat) : ∀ (vs : List Value) (o : Nat), w.grownBy (w.setCells g o vs) (some g) := by
  intro vs
  induction vs generalizing w with
  | nil => intro o; exact World.grownBy.refl _ _
  | cons v vs ih => intro o; exact grown_trans (grown_setCell w g o v) (ih _ (o + 1))
theorem LensAt.store {g n : Nat} (h : LensAt w g n ln) (i v : Nat) : LensAt (w.setCell ⟨g, i, none⟩ (.int .i64 (v : Int))) g n (put ln i v) := by
  obtain ⟨cur, h1, h2, h3⟩ := h
  refine ⟨cur.setIfInBounds i (.int .i64 (v : Int)), heap_setCell_same w _ _ cur 3 _ h1, by simpa using h2, fun j hj => ?_⟩
  rw [Array.getElem?_setIfInBounds]
  by_cases hji : i = j
  · subst hji; rw [if_pos rfl, if_pos (by omega), put_same]
  · rw [if_neg hji, put_other (fun e => hji e.symm), h3 j hj]

theorem Mem.blt (h : Mem w lo b N M gL gN lk ln) : b < w.heap.size := (Array.getElem?_eq_some_iff.1 h.head).1
theorem Mem.nodes0 (h : Mem w lo b N M gL gN lk ln) : w.cell? ⟨b, 0, none⟩ = some (.int .i64 (N : Int)) := by rw [cell_of_head h.head]; rfl
theorem Mem.links1 (h : Mem w lo b N M gL gN lk ln) : w.cell? ⟨b, 1, none⟩ = some (.slice (some ⟨gL, 0, none⟩) (N + M) (N + M)) := by rw [cell_of_head h.head]; rfl
theorem Mem.lens2 (h : Mem w lo b N M gL gN lk ln) : w.cell? ⟨b, 2, none⟩ = some (.slice (some ⟨gN, 0, none⟩) M M) := by rw [cell_of_head h.head]; rfl
theorem Mem.bL (h : Mem w lo b N M gL gN lk ln) : b ≠ gL := by
  rintro rfl
  obtain ⟨cur, h1, _⟩ := h.links
  exact absurd (type_eq h.head h1) (by decide)
theorem Mem.bN (h : Mem w lo b N M gL gN lk ln) : b ≠ gN := by
  rintro rfl
  obtain ⟨cur, h1, _⟩ := h.lens
  exact absurd (type_eq h.head h1) (by decide)
theorem Mem.LN (h : Mem w lo b N M gL gN lk ln) : gL ≠ gN := by
  rintro rfl
  obtain ⟨cur, h1, _⟩ := h.links
  obtain ⟨cur', h1', _⟩ := h.lens
  exact absurd (type_eq h1 h1') (by decide)
theorem Mem.stay (h : Mem w lo b N M gL gN lk ln) (hb : ∀ k, k < w.heap.size → (k = b ∨ k = gL ∨ k = gN) → w'.heap[k]? = w.heap[k]?) : Mem w' lo b N M gL gN lk ln :=
  ⟨h.n6, h.m8, h.blo, h.llo, h.nlo, (hb b h.blt (.inl rfl)).trans h.head, h.links.stay (hb _ h.links.lt (.inr (.inl rfl))), h.lens.stay (hb _ h.lens.lt (.inr (.inr rfl)))⟩
theorem Mem.kept (h : Mem w lo b N M gL gN lk ln) (hg : w.grownBy w' none) : Mem w' lo b N M gL gN lk ln := h.stay fun k hk _ => hg.block k hk (by simp)
/-- what turns the links alone -/
theorem Mem.onL (h : Mem w lo b N M gL gN lk ln) {lk' : Nat → Lk} (hg : w.grownBy w' (some gL)) (hl : LinksAt w' gL (N + M) lk') : Mem w' lo b N M gL gN lk' ln :=
  ⟨h.n6, h.m8, h.blo, h.llo, h.nlo, (hg.block b h.blt (fun e => h.bL (by cases e; rfl))).trans h.head, hl, h.lens.stay (hg.block _ h.lens.lt (fun e => h.LN (by cases e; rfl)))⟩
theorem Mem.onN (h : Mem w lo b N M gL gN lk ln) {ln' : Nat → Nat} (hg : w.grownBy w' (some gN)) (hl : LensAt w' gN M ln') : Mem w' lo b N M gL gN lk ln' :=
  ⟨h.n6, h.m8, h.blo, h.llo, h.nlo, (hg.block b h.blt (fun e => h.bN (by cases e; rfl))).trans h.head, h.links.stay (hg.block _ h.links.lt (fun e => h.LN (by cases e; rfl))), hl⟩
end
end Go.Proofs.Ytmjccpgkgkindaa
