/-
  How a dial lies in memory: a head, a row of links, and a row of hands. No program is named here.
-/
import Derived.Test.YtjligfgaahcogaaBase
import Derived.Deep.MidRow
namespace Go.Proofs.Ytjligfgaahcogaa
open Go.RowKit
set_option linter.unusedVariables false

structure Lk where
  p : Nat
  n : Nat
  s : Bool
def Lk.cells (x : Lk) : List Value := [.int .i32 (x.p : Int), .int .i32 (x.n : Int), .bool x.s]
def put {α : Type} (f : Nat → α) (i : Nat) (x : α) : Nat → α := fun j => if j = i then x else f j
theorem put_same {α : Type} (f : Nat → α) (i : Nat) (x : α) : put f i x i = x := by simp [put]
theorem put_other {α : Type} {f : Nat → α} {i j : Nat} {x : α} (h : j ≠ i) : put f i x j = f j := by simp [put, h]
def zlk : Lk := ⟨0, 0, false⟩

/-- the row of links -/
def LinksAt (w : World) (g n : Nat) (lk : Nat → Lk) : Prop :=
  ∃ cur : Array Value, w.heap[g]? = some (.cells cur 72 (0, 0)) ∧ cur.size = n * 3 ∧ ∀ i t, i < n → t < 3 → cur[i * 3 + t]? = (lk i).cells[t]?
/-- the row of hands -/
def HandsAt (w : World) (g n : Nat) (hd : Nat → Nat) : Prop :=
  ∃ cur : Array Value, w.heap[g]? = some (.cells cur 21 (0, 0)) ∧ cur.size = n ∧ ∀ i, i < n → cur[i]? = some (.int .i32 (hd i : Int))

structure Mem (w : World) (lo b N M gL gH : Nat) (lk : Nat → Lk) (hd : Nat → Nat) (cnt : Nat) : Prop where
  n6 : N ≤ 65536
  m1 : 1 ≤ M
  m8 : M ≤ 8
  blo : lo ≤ b
  llo : lo ≤ gL
  hlo : lo ≤ gH
  head : w.heap[b]? = some (.cells #[.slice (some ⟨gL, 0, none⟩) N N, .slice (some ⟨gH, 0, none⟩) M M, .int .i64 (cnt : Int)] 60 (0, 0))
  links : LinksAt w gL N lk
  hands : HandsAt w gH M hd

/-- nothing of old turns but three blocks -/
abbrev Kp (b gL gH : Nat) (w w' : World) : Prop := Stay (fun k => k ≠ b ∧ k ≠ gL ∧ k ≠ gH) w w'
theorem Kp.of_new {b gL gH : Nat} {w w' : World} (hg : w.grownBy w' none) : Kp b gL gH w w' := Stay.of_grown hg (by simp)
theorem Kp.of_row {b gL gH g : Nat} {w w' : World} (hg : w.grownBy w' (some g)) (h : g = b ∨ g = gL ∨ g = gH) : Kp b gL gH w w' := Stay.of_grown hg (by intro r e _ hs; cases e; rcases h with h | h | h; exact hs.1 h; exact hs.2.1 h; exact hs.2.2 h)
theorem Kp.grown {b gL gH : Nat} {w0 w w' : World} (h0 : w0.grownBy w none) (h : Kp b gL gH w w') (hb : w0.heap.size ≤ b) (hl : w0.heap.size ≤ gL) (hn : w0.heap.size ≤ gH) : w0.grownBy w' none :=
  ⟨h.os.trans h0.os, h.tape.trans h0.tape, h.output.trans h0.output, Nat.le_trans h0.size h.size, fun k hk hr => (h.block k (Nat.lt_of_lt_of_le hk h0.size) ⟨by omega, by omega, by omega⟩).trans (h0.block k hk hr)⟩

section
variable {w w' : World} {lo b N M gL gH : Nat} {lk : Nat → Lk} {hd : Nat → Nat} {cnt : Nat}
theorem LinksAt.cell {g n : Nat} (h : LinksAt w g n lk) {i t : Nat} (hi : i < n) (ht : t < 3) : w.cell? ⟨g, i * 3 + t, none⟩ = (lk i).cells[t]? := by
  obtain ⟨cur, h1, h2, h3⟩ := h
  rw [cell_of_head h1]; exact h3 i t hi ht
theorem LinksAt.free {g n : Nat} (h : LinksAt w g n lk) (i : Nat) : w.frozen? ⟨g, i, none⟩ = false := by
  obtain ⟨cur, h1, h2, h3⟩ := h
  exact frozen_of_head h1 i
theorem LinksAt.stay {g n : Nat} (h : LinksAt w g n lk) (hb : w'.heap[g]? = w.heap[g]?) : LinksAt w' g n lk := by
  obtain ⟨cur, h1, h2, h3⟩ := h
  exact ⟨cur, hb.trans h1, h2, h3⟩
theorem HandsAt.stay {g n : Nat} (h : HandsAt w g n hd) (hb : w'.heap[g]? = w.heap[g]?) : HandsAt w' g n hd := by
  obtain ⟨cur, h1, h2, h3⟩ := h
  exact ⟨cur, hb.trans h1, h2, h3⟩
theorem HandsAt.cell {g n : Nat} (h : HandsAt w g n hd) {i : Nat} (hi : i < n) : w.cell? ⟨g, i, none⟩ = some (.int .i32 (hd i : Int)) := by
  obtain ⟨cur, h1, h2, h3⟩ := h
  rw [cell_of_head h1]; exact h3 i hi
theorem HandsAt.free {g n : Nat} (h : HandsAt w g n hd) (i : Nat) : w.frozen? ⟨g, i, none⟩ = false := by
  obtain ⟨cur, h1, h2, h3⟩ := h
  exact frozen_of_head h1 i
theorem LinksAt.lt {g n : Nat} (h : LinksAt w g n lk) : g < w.heap.size := by
  obtain ⟨cur, h1, _⟩ := h
  exact (Array.getElem?_eq_some_iff.1 h1).1
theorem HandsAt.lt {g n : Nat} (h : HandsAt w g n hd) : g < w.heap.size := by
  obtain ⟨cur, h1, _⟩ := h
  exact (Array.getElem?_eq_some_iff.1 h1).1
/-- the links bear another name -/
theorem LinksAt.congr {g n : Nat} {lk' : Nat → Lk} (h : LinksAt w g n lk) (e : ∀ i, i < n → lk i = lk' i) : LinksAt w g n lk' := by
  obtain ⟨cur, h1, h2, h3⟩ := h
  exact ⟨cur, h1, h2, fun i t hi ht => by rw [h3 i t hi ht, e i hi]⟩
theorem HandsAt.congr {g n : Nat} {hd' : Nat → Nat} (h : HandsAt w g n hd) (e : ∀ i, i < n → hd i = hd' i) : HandsAt w g n hd' := by
  obtain ⟨cur, h1, h2, h3⟩ := h
  exact ⟨cur, h1, h2, fun i hi => by rw [h3 i hi, e i hi]⟩
/-- one cell of a link is stored -/
theorem LinksAt.store {g n : Nat} (h : LinksAt w g n lk) {i t : Nat} (ht : t < 3) (v : Value) (x : Lk) (hx : x.cells = (lk i).cells.set t v) :
    LinksAt (w.setCell ⟨g, i * 3 + t, none⟩ v) g n (put lk i x) := by
  obtain ⟨cur, h1, h2, h3⟩ := h
  refine ⟨cur.setIfInBounds (i * 3 + t) v, heap_setCell_same w _ _ cur 72 v h1, by simpa using h2, fun j u hj hu => ?_⟩
  rw [Array.getElem?_setIfInBounds]
  by_cases hji : j = i
  · subst hji
    rw [put_same, hx, List.getElem?_set]
    by_cases htu : t = u
    · subst htu
      rw [if_pos rfl, if_pos (by omega), if_pos rfl, if_pos (by simpa [Lk.cells] using hu)]
    · rw [if_neg (by omega), if_neg htu, h3 j u hj hu]
  · rw [if_neg (by omega), put_other hji, h3 j u hj hu]
/-- a whole link is stored -/
theorem LinksAt.storeAll {g n : Nat} (h : LinksAt w g n lk) {i : Nat} (x : Lk) : LinksAt (w.setCells g (i * 3) x.cells) g n (put lk i x) := by
  have e : w.setCells g (i * 3) x.cells = ((w.setCell ⟨g, i * 3 + 0, none⟩ (.int .i32 (x.p : Int))).setCell ⟨g, i * 3 + 1, none⟩ (.int .i32 (x.n : Int))).setCell ⟨g, i * 3 + 2, none⟩ (.bool x.s) := by
    simp [World.setCells, Lk.cells]
  rw [e]
  have h1 := h.store (i := i) (t := 0) (by decide) (.int .i32 (x.p : Int)) ⟨x.p, (lk i).n, (lk i).s⟩ rfl
  have h2 := h1.store (i := i) (t := 1) (by decide) (.int .i32 (x.n : Int)) ⟨x.p, x.n, (lk i).s⟩ (by rw [put_same]; rfl)
  have h3 := h2.store (i := i) (t := 2) (by decide) (.bool x.s) x (by rw [put_same]; rfl)
  refine h3.congr fun j _ => ?_
  by_cases hj : j = i
  · subst hj; simp only [put_same]
  · simp only [put_other hj]
theorem grown_setCells (w : World) (g : Nat) : ∀ (vs : List Value) (o : Nat), w.grownBy (w.setCells g o vs) (some g) := by
  intro vs
  induction vs generalizing w with
  | nil => intro o; exact World.grownBy.refl _ _
  | cons v vs ih => intro o; exact grown_trans (grown_setCell w g o v) (ih _ (o + 1))
theorem HandsAt.store {g n : Nat} (h : HandsAt w g n hd) (i v : Nat) : HandsAt (w.setCell ⟨g, i, none⟩ (.int .i32 (v : Int))) g n (put hd i v) := by
  obtain ⟨cur, h1, h2, h3⟩ := h
  refine ⟨cur.setIfInBounds i (.int .i32 (v : Int)), heap_setCell_same w _ _ cur 21 _ h1, by simpa using h2, fun j hj => ?_⟩
  rw [Array.getElem?_setIfInBounds]
  by_cases hji : i = j
  · subst hji; rw [if_pos rfl, if_pos (by omega), put_same]
  · rw [if_neg hji, put_other (fun e => hji e.symm), h3 j hj]

theorem Mem.blt (h : Mem w lo b N M gL gH lk hd cnt) : b < w.heap.size := (Array.getElem?_eq_some_iff.1 h.head).1
theorem Mem.links0 (h : Mem w lo b N M gL gH lk hd cnt) : w.cell? ⟨b, 0, none⟩ = some (.slice (some ⟨gL, 0, none⟩) N N) := by rw [cell_of_head h.head]; rfl
theorem Mem.hands1 (h : Mem w lo b N M gL gH lk hd cnt) : w.cell? ⟨b, 1, none⟩ = some (.slice (some ⟨gH, 0, none⟩) M M) := by rw [cell_of_head h.head]; rfl
theorem Mem.count2 (h : Mem w lo b N M gL gH lk hd cnt) : w.cell? ⟨b, 2, none⟩ = some (.int .i64 (cnt : Int)) := by rw [cell_of_head h.head]; rfl
theorem Mem.bfree (h : Mem w lo b N M gL gH lk hd cnt) (i : Nat) : w.frozen? ⟨b, i, none⟩ = false := frozen_of_head h.head i
theorem Mem.bL (h : Mem w lo b N M gL gH lk hd cnt) : b ≠ gL := by
  rintro rfl
  obtain ⟨cur, h1, _⟩ := h.links
  exact absurd (type_eq h.head h1) (by decide)
theorem Mem.bH (h : Mem w lo b N M gL gH lk hd cnt) : b ≠ gH := by
  rintro rfl
  obtain ⟨cur, h1, _⟩ := h.hands
  exact absurd (type_eq h.head h1) (by decide)
theorem Mem.LH (h : Mem w lo b N M gL gH lk hd cnt) : gL ≠ gH := by
  rintro rfl
  obtain ⟨cur, h1, _⟩ := h.links
  obtain ⟨cur', h1', _⟩ := h.hands
  exact absurd (type_eq h1 h1') (by decide)
theorem Mem.stay (h : Mem w lo b N M gL gH lk hd cnt) (hb : ∀ k, k < w.heap.size → (k = b ∨ k = gL ∨ k = gH) → w'.heap[k]? = w.heap[k]?) : Mem w' lo b N M gL gH lk hd cnt :=
  ⟨h.n6, h.m1, h.m8, h.blo, h.llo, h.hlo, (hb b h.blt (.inl rfl)).trans h.head, h.links.stay (hb _ h.links.lt (.inr (.inl rfl))), h.hands.stay (hb _ h.hands.lt (.inr (.inr rfl)))⟩
theorem Mem.kept (h : Mem w lo b N M gL gH lk hd cnt) (hg : w.grownBy w' none) : Mem w' lo b N M gL gH lk hd cnt := h.stay fun k hk _ => hg.block k hk (by simp)
/-- what turns the links alone, the hands alone, the head alone -/
theorem Mem.onL (h : Mem w lo b N M gL gH lk hd cnt) {lk' : Nat → Lk} (hg : w.grownBy w' (some gL)) (hl : LinksAt w' gL N lk') : Mem w' lo b N M gL gH lk' hd cnt :=
  ⟨h.n6, h.m1, h.m8, h.blo, h.llo, h.hlo, (hg.block b h.blt (fun e => h.bL (by cases e; rfl))).trans h.head, hl, h.hands.stay (hg.block _ h.hands.lt (fun e => h.LH (by cases e; rfl)))⟩
theorem Mem.onH (h : Mem w lo b N M gL gH lk hd cnt) {hd' : Nat → Nat} (hg : w.grownBy w' (some gH)) (hl : HandsAt w' gH M hd') : Mem w' lo b N M gL gH lk hd' cnt :=
  ⟨h.n6, h.m1, h.m8, h.blo, h.llo, h.hlo, (hg.block b h.blt (fun e => h.bH (by cases e; rfl))).trans h.head, h.links.stay (hg.block _ h.links.lt (fun e => h.LH (by cases e; rfl))), hl⟩
theorem Mem.onC (h : Mem w lo b N M gL gH lk hd cnt) (c : Nat) : Mem (w.setCell ⟨b, 2, none⟩ (.int .i64 (c : Int))) lo b N M gL gH lk hd c :=
  have hg := grown_setCell w b 2 (.int .i64 (c : Int))
  ⟨h.n6, h.m1, h.m8, h.blo, h.llo, h.hlo, by rw [head_set h.head]; rfl, h.links.stay (hg.block _ h.links.lt (fun e => h.bL (by cases e; rfl))), h.hands.stay (hg.block _ h.hands.lt (fun e => h.bH (by cases e; rfl)))⟩
end
end Go.Proofs.Ytjligfgaahcogaa
