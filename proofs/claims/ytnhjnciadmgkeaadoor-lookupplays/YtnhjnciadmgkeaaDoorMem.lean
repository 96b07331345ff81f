/-
  How slots lie in memory: a row of pointers, and chains of entries. No program is named here.
-/
import Derived.Test.YtnhjnciadmgkeaaDoorBase
import Derived.Test.YtnhjnciadmgkeaaDoorSlot
namespace Go.Proofs.YtnhjnciadmgkeaaDoor
open Go.RowKit
set_option linter.unusedVariables false

structure Ent where
  blk : Nat
  key : Int
  node : Int
def Ent.addr (e : Ent) : Addr := ⟨e.blk, 0, none⟩
/-- where a chain begins -/
def hd : List Ent → Option Addr
  | [] => none
  | e :: _ => some ⟨e.blk, 0, none⟩
theorem hd_nil : hd [] = none := rfl
theorem hd_cons (e : Ent) (t : List Ent) : hd (e :: t) = some ⟨e.blk, 0, none⟩ := rfl

def EntAt (w : World) (e : Ent) (nx : Option Addr) : Prop := w.heap[e.blk]? = some (.cells #[.int .u64 e.key, .int .i32 e.node, .pointer nx] 62 (0, 0))
def ChainAt (w : World) : List Ent → Prop
  | [] => True
  | e :: t => EntAt w e (hd t) ∧ ChainAt w t

def put {α : Type} (f : Nat → α) (i : Nat) (x : α) : Nat → α := fun j => if j = i then x else f j
theorem put_same {α : Type} (f : Nat → α) (i : Nat) (x : α) : put f i x i = x := by simp [put]
theorem put_other {α : Type} {f : Nat → α} {i j : Nat} {x : α} (h : j ≠ i) : put f i x j = f j := by simp [put, h]

/-- the entry of a key; what is left without it; the same with another node -/
def fnd (key : Int) (l : List Ent) : Option Ent := l.find? fun e => e.key == key
def rem (key : Int) (l : List Ent) : List Ent := l.filter fun e => e.key != key
def ren (key node : Int) (l : List Ent) : List Ent := l.map fun e => if e.key = key then ⟨e.blk, e.key, node⟩ else e

section
variable {w w' : World}
theorem EntAt.key_eq {e e' : Ent} {a a' : Option Addr} (h : EntAt w e a) (h' : EntAt w e' a') (hb : e.blk = e'.blk) : e.key = e'.key := by
  unfold EntAt at h h'
  rw [hb, h'] at h
  simp only [Option.some.injEq, Obj.cells.injEq, Array.mk.injEq, List.cons.injEq, Value.int.injEq] at h
  exact h.1.1.2.symm
theorem EntAt.cell0 {e : Ent} {a : Option Addr} (h : EntAt w e a) : w.cell? ⟨e.blk, 0, none⟩ = some (.int .u64 e.key) := by rw [cell_of_head h]; rfl
theorem EntAt.cell1 {e : Ent} {a : Option Addr} (h : EntAt w e a) : w.cell? ⟨e.blk, 1, none⟩ = some (.int .i32 e.node) := by rw [cell_of_head h]; rfl
theorem EntAt.cell2 {e : Ent} {a : Option Addr} (h : EntAt w e a) : w.cell? ⟨e.blk, 2, none⟩ = some (.pointer a) := by rw [cell_of_head h]; rfl
theorem EntAt.free {e : Ent} {a : Option Addr} (h : EntAt w e a) (i : Nat) : w.frozen? ⟨e.blk, i, none⟩ = false := frozen_of_head h i
theorem EntAt.lt {e : Ent} {a : Option Addr} (h : EntAt w e a) : e.blk < w.heap.size := (Array.getElem?_eq_some_iff.1 h).1
theorem EntAt.stay {e : Ent} {a : Option Addr} (h : EntAt w e a) (hb : w'.heap[e.blk]? = w.heap[e.blk]?) : EntAt w' e a := hb.trans h
theorem EntAt.next {e : Ent} {a : Option Addr} (h : EntAt w e a) (b : Option Addr) : EntAt (w.setCell ⟨e.blk, 2, none⟩ (.pointer b)) e b := by unfold EntAt; rw [head_set h]; rfl
theorem EntAt.node' {e : Ent} {a : Option Addr} (h : EntAt w e a) (n : Int) : EntAt (w.setCell ⟨e.blk, 1, none⟩ (.int .i32 n)) ⟨e.blk, e.key, n⟩ a := by unfold EntAt; rw [head_set h]; rfl
theorem ChainAt.mem : ∀ {l : List Ent}, ChainAt w l → ∀ {e : Ent}, e ∈ l → ∃ a, EntAt w e a
  | x :: t, h, e, he => by
    rcases List.mem_cons.1 he with rfl | he
    · exact ⟨_, h.1⟩
    · exact ChainAt.mem h.2 he
theorem ChainAt.stay : ∀ {l : List Ent}, ChainAt w l → (∀ e ∈ l, w'.heap[e.blk]? = w.heap[e.blk]?) → ChainAt w' l
  | [], _, _ => trivial
  | x :: t, h, hb => ⟨h.1.stay (hb x (by simp)), ChainAt.stay h.2 (fun e he => hb e (by simp [he]))⟩
theorem ChainAt.right : ∀ {p l : List Ent}, ChainAt w (p ++ l) → ChainAt w l
  | [], _, h => h
  | _ :: p, _, h => ChainAt.right (p := p) h.2
end

theorem fnd_none {key : Int} {l : List Ent} : fnd key l = none ↔ ∀ e ∈ l, e.key ≠ key := by
  unfold fnd; rw [List.find?_eq_none]; simp
theorem fnd_some {key : Int} {l : List Ent} {e : Ent} (h : fnd key l = some e) : e ∈ l ∧ e.key = key := by
  unfold fnd at h
  exact ⟨List.mem_of_find?_eq_some h, by simpa using List.find?_some h⟩
theorem fnd_cons (key : Int) (e : Ent) (t : List Ent) : fnd key (e :: t) = if e.key = key then some e else fnd key t := by
  unfold fnd; rw [List.find?_cons]
  by_cases h : e.key = key
  · simp [h]
  · have : (e.key == key) = false := by simpa using h
    simp [h, this]
theorem fnd_skip {key : Int} {p l : List Ent} (h : ∀ e ∈ p, e.key ≠ key) : fnd key (p ++ l) = fnd key l := by
  unfold fnd; rw [List.find?_append]
  rw [show p.find? (fun e => e.key == key) = none from fnd_none.2 h]; rfl
theorem fnd_of_mem {key : Int} {l : List Ent} {e : Ent} (hn : (l.map (·.key)).Nodup) (he : e ∈ l) (hk : e.key = key) : fnd key l = some e := by
  induction l with
  | nil => cases he
  | cons x t ih =>
    rw [fnd_cons]
    simp only [List.map_cons, List.nodup_cons] at hn
    rcases List.mem_cons.1 he with rfl | he
    · rw [if_pos hk]
    · rw [if_neg, ih hn.2 he]
      intro e2
      exact hn.1 (by rw [e2, ← hk]; exact List.mem_map_of_mem he)
theorem rem_none {key : Int} {l : List Ent} (h : ∀ e ∈ l, e.key ≠ key) : rem key l = l := by
  unfold rem; rw [List.filter_eq_self]; simpa using h
theorem rem_at {key : Int} {p t : List Ent} {e : Ent} (hn : ((p ++ e :: t).map (·.key)).Nodup) (hk : e.key = key) : rem key (p ++ e :: t) = p ++ t := by
  simp only [List.map_append, List.map_cons, List.nodup_append, List.nodup_cons] at hn
  unfold rem
  rw [List.filter_append, List.filter_cons]
  have h1 : (e.key != key) = false := by simpa using hk
  rw [h1]
  have h2 : ∀ x ∈ p, x.key ≠ key := fun x hx h => hn.2.2 _ (List.mem_map_of_mem hx) _ (List.mem_cons_self ..) (h.trans hk.symm)
  have h3 : ∀ x ∈ t, x.key ≠ key := fun x hx h => hn.2.1.1 (by rw [hk, ← h]; exact List.mem_map_of_mem hx)
  have e2 := rem_none h2
  have e3 := rem_none h3
  unfold rem at e2 e3
  rw [e2, e3]; rfl
theorem rem_mem {key : Int} {l : List Ent} {e : Ent} : e ∈ rem key l ↔ e ∈ l ∧ e.key ≠ key := by unfold rem; simp
theorem rem_fnd (key k2 : Int) (l : List Ent) : fnd k2 (rem key l) = if k2 = key then none else fnd k2 l := by
  by_cases h : k2 = key
  · rw [if_pos h, fnd_none]
    intro e he hk
    exact (rem_mem.1 he).2 (hk.trans h)
  · rw [if_neg h]
    induction l with
    | nil => rfl
    | cons x t ih =>
      by_cases hx : x.key = key
      · have : rem key (x :: t) = rem key t := by unfold rem; rw [List.filter_cons]; simp [hx]
        rw [this, ih, fnd_cons, if_neg (by intro e2; exact h (e2.symm.trans hx))]
      · have : rem key (x :: t) = x :: rem key t := by unfold rem; rw [List.filter_cons]; simp [hx]
        rw [this, fnd_cons, fnd_cons, ih]
theorem rem_len {key : Int} {l : List Ent} (hn : (l.map (·.key)).Nodup) : (rem key l).length + (if (fnd key l).isSome then 1 else 0) = l.length := by
  induction l with
  | nil => rfl
  | cons x t ih =>
    have hn' := hn
    simp only [List.map_cons, List.nodup_cons] at hn
    by_cases hx : x.key = key
    · have e1 : rem key (x :: t) = t := rem_at (p := []) hn' hx
      rw [e1, fnd_cons, if_pos hx]; simp
    · have e1 : rem key (x :: t) = x :: rem key t := by unfold rem; rw [List.filter_cons]; simp [hx]
      rw [e1, fnd_cons, if_neg hx]
      have := ih hn.2
      simp only [List.length_cons]; omega
theorem ren_key (key node : Int) (l : List Ent) : (ren key node l).map (·.key) = l.map (·.key) := by
  unfold ren; rw [List.map_map]
  refine List.map_congr_left fun e _ => ?_
  simp only [Function.comp]; split <;> rfl
theorem ren_len (key node : Int) (l : List Ent) : (ren key node l).length = l.length := by unfold ren; simp
theorem ren_hd (key node : Int) (l : List Ent) : hd (ren key node l) = hd l := by
  cases l with
  | nil => rfl
  | cons x t => simp only [ren, List.map_cons, hd_cons]; split <;> rfl
theorem ren_none {key node : Int} {l : List Ent} (h : ∀ e ∈ l, e.key ≠ key) : ren key node l = l := by
  unfold ren
  conv => rhs; rw [← List.map_id l]
  refine List.map_congr_left fun e he => ?_
  rw [if_neg (h e he)]; rfl
theorem ren_mem {key node : Int} {l : List Ent} {x : Ent} (h : x ∈ ren key node l) : ∃ e ∈ l, x.blk = e.blk ∧ x.key = e.key ∧ (x.node = e.node ∨ x.node = node) := by
  unfold ren at h
  obtain ⟨e, he, rfl⟩ := List.mem_map.1 h
  refine ⟨e, he, ?_⟩
  split
  · exact ⟨rfl, rfl, .inr rfl⟩
  · exact ⟨rfl, rfl, .inl rfl⟩
theorem ren_fnd (key node k2 : Int) (l : List Ent) : fnd k2 (ren key node l) = if k2 = key then (fnd k2 l).map (fun e => ⟨e.blk, e.key, node⟩) else fnd k2 l := by
  induction l with
  | nil => simp [ren, fnd]
  | cons x t ih =>
    have e1 : ren key node (x :: t) = (if x.key = key then ⟨x.blk, x.key, node⟩ else x) :: ren key node t := rfl
    rw [e1, fnd_cons, fnd_cons, ih]
    by_cases hx : x.key = key
    · rw [if_pos hx]
      by_cases hk : k2 = key
      · subst hk; simp [hx]
      · have : ¬ x.key = k2 := fun e => hk (e.symm.trans hx)
        simp [hk, this]
    · rw [if_neg hx]
      by_cases hk : k2 = key
      · subst hk; simp [hx]
      · simp [hk]

/-- how many entries n slots have -/
def tot (bk : Nat → List Ent) : Nat → Nat
  | 0 => 0
  | n + 1 => tot bk n + (bk n).length
theorem tot_congr {bk bk' : Nat → List Ent} : ∀ {n : Nat}, (∀ i, i < n → (bk i).length = (bk' i).length) → tot bk n = tot bk' n
  | 0, _ => rfl
  | n + 1, h => by unfold tot; rw [tot_congr (fun i hi => h i (by omega)), h n (by omega)]
theorem tot_put (bk : Nat → List Ent) (i : Nat) (l : List Ent) : ∀ (n : Nat), i < n → tot (put bk i l) n + (bk i).length = tot bk n + l.length
  | 0, h => by omega
  | n + 1, h => by
    unfold tot
    by_cases hi : i = n
    · subst hi
      rw [put_same, tot_congr (bk' := bk) (fun j hj => by rw [put_other (by omega)])]; omega
    · rw [put_other (fun e => hi e.symm)]
      have := tot_put bk i l n (by omega)
      omega
theorem tot_none {bk : Nat → List Ent} : ∀ {n : Nat}, (∀ i, i < n → bk i = []) → tot bk n = 0
  | 0, _ => rfl
  | n + 1, h => by unfold tot; rw [tot_none (fun i hi => h i (by omega)), h n (by omega)]; rfl
theorem tot_le_of {bk : Nat → List Ent} {i : Nat} : ∀ {n : Nat}, i < n → (bk i).length ≤ tot bk n
  | 0, h => by omega
  | n + 1, h => by
    unfold tot
    by_cases hi : i = n
    · subst hi; omega
    · have := tot_le_of (bk := bk) (n := n) (i := i) (by omega); omega
theorem tot_zero {bk : Nat → List Ent} {n : Nat} (h : tot bk n = 0) {i : Nat} (hi : i < n) : bk i = [] := by
  have := tot_le_of (bk := bk) hi
  exact List.eq_nil_of_length_eq_zero (by omega)

/-- the row of slots -/
def RowAt (w : World) (g n : Nat) (bk : Nat → List Ent) : Prop :=
  ∃ cur : Array Value, w.heap[g]? = some (.cells cur 59 (0, 0)) ∧ cur.size = n ∧ ∀ i, i < n → cur[i]? = some (.pointer (hd (bk i)))
section
variable {w w' : World} {g n : Nat} {bk : Nat → List Ent}
theorem RowAt.cell (h : RowAt w g n bk) {i : Nat} (hi : i < n) : w.cell? ⟨g, i, none⟩ = some (.pointer (hd (bk i))) := by
  obtain ⟨cur, h1, h2, h3⟩ := h
  rw [cell_of_head h1]; exact h3 i hi
theorem RowAt.free (h : RowAt w g n bk) (i : Nat) : w.frozen? ⟨g, i, none⟩ = false := by
  obtain ⟨cur, h1, h2, h3⟩ := h
  exact frozen_of_head h1 i
theorem RowAt.stay (h : RowAt w g n bk) (hb : w'.heap[g]? = w.heap[g]?) : RowAt w' g n bk := by
  obtain ⟨cur, h1, h2, h3⟩ := h
  exact ⟨cur, hb.trans h1, h2, h3⟩
theorem RowAt.lt (h : RowAt w g n bk) : g < w.heap.size := by
  obtain ⟨cur, h1, _⟩ := h
  exact (Array.getElem?_eq_some_iff.1 h1).1
theorem RowAt.head (h : RowAt w g n bk) : ∃ cur, w.heap[g]? = some (.cells cur 59 (0, 0)) := by
  obtain ⟨cur, h1, _⟩ := h
  exact ⟨_, h1⟩
theorem RowAt.congr {bk' : Nat → List Ent} (h : RowAt w g n bk) (e : ∀ i, i < n → hd (bk i) = hd (bk' i)) : RowAt w g n bk' := by
  obtain ⟨cur, h1, h2, h3⟩ := h
  exact ⟨cur, h1, h2, fun i hi => by rw [h3 i hi, e i hi]⟩
theorem RowAt.store (h : RowAt w g n bk) (i : Nat) (l : List Ent) : RowAt (w.setCell ⟨g, i, none⟩ (.pointer (hd l))) g n (put bk i l) := by
  obtain ⟨cur, h1, h2, h3⟩ := h
  refine ⟨cur.setIfInBounds i (.pointer (hd l)), heap_setCell_same w _ _ cur 59 _ h1, by simpa using h2, fun j hj => ?_⟩
  rw [Array.getElem?_setIfInBounds]
  by_cases hji : i = j
  · subst hji; rw [if_pos rfl, if_pos (by omega), put_same]
  · rw [if_neg hji, put_other (fun e => hji e.symm), h3 j hj]
end

structure Arr (w : World) (lo g k : Nat) (bk : Nat → List Ent) : Prop where
  glo : lo ≤ g
  row : RowAt w g (2 ^ k) bk
  ch : ∀ i, i < 2 ^ k → ChainAt w (bk i)
  sl : ∀ i, i < 2 ^ k → ∀ e ∈ bk i, slotN k e.key = i
  nd : ∀ i, i < 2 ^ k → ((bk i).map (·.key)).Nodup
  ok : ∀ i, i < 2 ^ k → ∀ e ∈ bk i, lo ≤ e.blk ∧ Wd e.key ∧ i32in e.node

section
variable {w w' : World} {lo g k : Nat} {bk : Nat → List Ent}
/-- the entries of slots -/
def inB (bk : Nat → List Ent) (n : Nat) (e : Ent) : Prop := ∃ i, i < n ∧ e ∈ bk i
theorem Arr.ent (h : Arr w lo g k bk) {e : Ent} (he : inB bk (2 ^ k) e) : ∃ a, EntAt w e a := by
  obtain ⟨i, hi, hm⟩ := he
  exact (h.ch i hi).mem hm
theorem Arr.stay (h : Arr w lo g k bk) (hg : w'.heap[g]? = w.heap[g]?) (hb : ∀ e, inB bk (2 ^ k) e → w'.heap[e.blk]? = w.heap[e.blk]?) : Arr w' lo g k bk :=
  ⟨h.glo, h.row.stay hg, fun i hi => (h.ch i hi).stay fun e he => hb e ⟨i, hi, he⟩, h.sl, h.nd, h.ok⟩
/-- two entries of one key are one -/
theorem Arr.one (h : Arr w lo g k bk) {e e' : Ent} (he : inB bk (2 ^ k) e) (he' : inB bk (2 ^ k) e') (hk : e.key = e'.key) : e = e' := by
  obtain ⟨i, hi, hm⟩ := he
  obtain ⟨j, hj, hm'⟩ := he'
  have h1 := h.sl i hi e hm
  have h2 := h.sl j hj e' hm'
  have hij : i = j := by rw [← h1, ← h2, hk]
  subst hij
  have a1 := fnd_of_mem (key := e'.key) (h.nd i hi) hm hk
  have a2 := fnd_of_mem (key := e'.key) (h.nd i hi) hm' rfl
  rw [a1] at a2; exact Option.some.inj a2
theorem Arr.blk_ne_row (h : Arr w lo g k bk) {e : Ent} (he : inB bk (2 ^ k) e) : e.blk ≠ g := by
  obtain ⟨a, ha⟩ := h.ent he
  obtain ⟨cur, hc⟩ := h.row.head
  intro e2
  unfold EntAt at ha
  rw [e2] at ha
  exact absurd (type_eq ha hc) (by decide)
/-- the entry of a key -/
def fndB (k : Nat) (bk : Nat → List Ent) (key : Int) : Option Ent := fnd key (bk (slotN k key))
theorem Arr.fnd_in (h : Arr w lo g k bk) (h0 : 1 ≤ k) (h1 : k ≤ 30) {key : Int} (hk : Wd key) {e : Ent} (hf : fndB k bk key = some e) : inB bk (2 ^ k) e ∧ e.key = key :=
  ⟨⟨_, slotN_lt hk h0 h1, (fnd_some hf).1⟩, (fnd_some hf).2⟩
theorem Arr.in_fnd (h : Arr w lo g k bk) {e : Ent} (he : inB bk (2 ^ k) e) : fndB k bk e.key = some e := by
  obtain ⟨i, hi, hm⟩ := he
  unfold fndB
  rw [h.sl i hi e hm]
  exact fnd_of_mem (h.nd i hi) hm rfl
/-- one slot is told anew -/
theorem inB_put {bk : Nat → List Ent} {n i : Nat} {l : List Ent} {e : Ent} (h : inB (put bk i l) n e) : (i < n ∧ e ∈ l) ∨ ∃ j, j ≠ i ∧ j < n ∧ e ∈ bk j := by
  obtain ⟨j, hj, hm⟩ := h
  by_cases hji : j = i
  · subst hji; rw [put_same] at hm; exact .inl ⟨hj, hm⟩
  · rw [put_other hji] at hm; exact .inr ⟨j, hji, hj, hm⟩
theorem Arr.onBucket (h : Arr w lo g k bk) {i : Nat} {l : List Ent} (hr : RowAt w' g (2 ^ k) (put bk i l)) (hc : ChainAt w' l)
    (hb : ∀ j, j ≠ i → j < 2 ^ k → ∀ e ∈ bk j, w'.heap[e.blk]? = w.heap[e.blk]?) (hs : ∀ e ∈ l, slotN k e.key = i) (hn : (l.map (·.key)).Nodup)
    (ho : ∀ e ∈ l, lo ≤ e.blk ∧ Wd e.key ∧ i32in e.node) : Arr w' lo g k (put bk i l) := by
  refine ⟨h.glo, hr, fun j hj => ?_, fun j hj => ?_, fun j hj => ?_, fun j hj => ?_⟩ <;>
    by_cases hji : j = i
  · subst hji; rw [put_same]; exact hc
  · rw [put_other hji]; exact (h.ch j hj).stay (hb j hji hj)
  · subst hji; rw [put_same]; exact hs
  · rw [put_other hji]; exact h.sl j hj
  · subst hji; rw [put_same]; exact hn
  · rw [put_other hji]; exact h.nd j hj
  · subst hji; rw [put_same]; exact ho
  · rw [put_other hji]; exact h.ok j hj
end
end Go.Proofs.YtnhjnciadmgkeaaDoor
