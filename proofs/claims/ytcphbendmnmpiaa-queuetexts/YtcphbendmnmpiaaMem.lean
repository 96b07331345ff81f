/-
  A queue as it lies in memory, over elements of any type of one cell, and what its things are. No function is walked here.
-/
import Derived.Test.YtcphbendmnmpiaaBase
import Derived.Laws.CopyRow
import Derived.Deep.OwnRows
namespace Go.Proofs.Ytcphbendmnmpiaa
open Go.ChangeShapes Go.WideShapes Go.ChangeAt Go.RowKit
set_option linter.unusedVariables false

/-- a queue's fields; R: what lies in its ring -/
structure Qu where
  most : Nat
  R : List Value
  first : Nat
  cnt : Nat
  tot : Nat
/-- the slice of a ring of n places -/
def ringV : Option Nat → Nat → Value
  | none, _ => .slice none 0 0
  | some g, n => .slice (some ⟨g, 0, none⟩) n n
def own (b : Nat) (og : Option Nat) (k : Nat) : Prop := k = b ∨ og = some k
/-- T: the type of the struct, E: of a thing -/
structure QAt (T E : TypeId) (w : World) (lo b : Nat) (og : Option Nat) (Q : Qu) : Prop where
  ne : T ≠ E
  blo : lo ≤ b
  head : w.heap[b]? = some (.cells #[.int .i64 (Q.most : Int), ringV og Q.R.length, .int .i64 (Q.first : Int), .int .i64 (Q.cnt : Int), .int .u64 (Q.tot : Int)] T (0, 0))
  row : ∀ g, og = some g → lo ≤ g ∧ w.heap[g]? = some (.cells Q.R.toArray E (0, 0))
  nor : og = none → Q.R = []
  yes : ∀ g, og = some g → Q.R ≠ []
/-- what a call may have turned -/
structure Stp (b : Nat) (h h' : Option Nat) (w w' : World) : Prop where
  but : But (own b h) w w'
  new : ∀ k, own b h' k → own b h k ∨ w.heap.size ≤ k
theorem Stp.refl (b : Nat) (h : Option Nat) (w : World) : Stp b h h w w := ⟨But.refl _ _, fun k hk => .inl hk⟩
theorem Stp.trans {b : Nat} {h h1 h2 : Option Nat} {w w1 w2 : World} (s : Stp b h h1 w w1) (t : Stp b h1 h2 w1 w2) : Stp b h h2 w w2 :=
  ⟨⟨t.but.os.trans s.but.os, t.but.tape.trans s.but.tape, t.but.output.trans s.but.output, Nat.le_trans s.but.size t.but.size, fun k hk hn =>
    (t.but.block k (Nat.lt_of_lt_of_le hk s.but.size) (fun h1 => (s.new k h1).elim hn (fun h3 => by omega))).trans (s.but.block k hk hn)⟩,
   fun k hk => (t.new k hk).elim (fun h1 => s.new k h1) (fun h1 => .inr (Nat.le_trans s.but.size h1))⟩
theorem Stp.of_new {b : Nat} {h : Option Nat} {w w' : World} (hg : w.grownBy w' none) : Stp b h h w w' := ⟨But.of_new hg, fun k hk => .inl hk⟩
theorem Stp.grown {b : Nat} {h h' : Option Nat} {w0 w w' : World} (s : Stp b h h' w w') (hg : w0.grownBy w none) (ho : ∀ k, own b h k → w0.heap.size ≤ k) : w0.grownBy w' none :=
  ⟨s.but.os.trans hg.os, s.but.tape.trans hg.tape, s.but.output.trans hg.output, Nat.le_trans hg.size s.but.size, fun k hk hr =>
    (s.but.block k (Nat.lt_of_lt_of_le hk hg.size) (fun h1 => by have := ho k h1; omega)).trans (hg.block k hk hr)⟩
section
variable {T E : TypeId} {w w' w1 : World} {lo b : Nat} {og : Option Nat} {Q : Qu}
theorem QAt.blt (x : QAt T E w lo b og Q) : b < w.heap.size := (Array.getElem?_eq_some_iff.1 x.head).1
theorem QAt.own_lo (x : QAt T E w lo b og Q) {k : Nat} (hk : own b og k) : lo ≤ k ∧ k < w.heap.size := by
  rcases hk with rfl | hk
  · exact ⟨x.blo, x.blt⟩
  · exact ⟨(x.row k hk).1, (Array.getElem?_eq_some_iff.1 (x.row k hk).2).1⟩
theorem QAt.neR (x : QAt T E w lo b og Q) {k : Nat} (hk : og = some k) : k ≠ b := fun e => by
  have h2 := (x.row k hk).2
  rw [e] at h2
  exact absurd (type_eq h2 x.head) (fun e => x.ne e.symm)
theorem QAt.stay (x : QAt T E w lo b og Q) (hs : ∀ k, own b og k → w'.heap[k]? = w.heap[k]?) : QAt T E w' lo b og Q :=
  ⟨x.ne, x.blo, (hs b (.inl rfl)).trans x.head, fun g hg => ⟨(x.row g hg).1, (hs g (.inr hg)).trans (x.row g hg).2⟩, x.nor, x.yes⟩
theorem QAt.kept (x : QAt T E w lo b og Q) (hg : w.grownBy w' none) : QAt T E w' lo b og Q := x.stay fun k hk => hg.block k (x.own_lo hk).2 (by simp)
theorem QAt.free (x : QAt T E w lo b og Q) (i : Nat) : w.frozen? ⟨b, i, none⟩ = false := frozen_of_head x.head i
theorem QAt.c0 (x : QAt T E w lo b og Q) : w.cell? ⟨b, 0, none⟩ = some (.int .i64 (Q.most : Int)) := by rw [cell_of_head x.head]; rfl
theorem QAt.c1 (x : QAt T E w lo b og Q) : w.cell? ⟨b, 1, none⟩ = some (ringV og Q.R.length) := by rw [cell_of_head x.head]; rfl
theorem QAt.c2 (x : QAt T E w lo b og Q) : w.cell? ⟨b, 2, none⟩ = some (.int .i64 (Q.first : Int)) := by rw [cell_of_head x.head]; rfl
theorem QAt.c3 (x : QAt T E w lo b og Q) : w.cell? ⟨b, 3, none⟩ = some (.int .i64 (Q.cnt : Int)) := by rw [cell_of_head x.head]; rfl
theorem QAt.c4 (x : QAt T E w lo b og Q) : w.cell? ⟨b, 4, none⟩ = some (.int .u64 (Q.tot : Int)) := by rw [cell_of_head x.head]; rfl
theorem QAt.rc {g : Nat} (x : QAt T E w lo b (some g) Q) (i : Nat) : w.cell? ⟨g, i, none⟩ = Q.R[i]? := by rw [cell_of_head (x.row g rfl).2]; simp
theorem QAt.rfree {g : Nat} (x : QAt T E w lo b (some g) Q) (i : Nat) : w.frozen? ⟨g, i, none⟩ = false := frozen_of_head (x.row g rfl).2 i
/-- a thing is stored in the ring -/
theorem QAt.setR {g : Nat} (x : QAt T E w lo b (some g) Q) (i : Nat) (v : Value) : QAt T E (w.setCell ⟨g, i, none⟩ v) lo b (some g) { Q with R := Q.R.set i v } ∧ Stp b (some g) (some g) w (w.setCell ⟨g, i, none⟩ v) := by
  refine ⟨⟨x.ne, x.blo, ?_, fun g' hg' => ?_, fun e => (by cases e), fun _ _ e => x.yes g rfl (by simpa using e)⟩, ⟨But.of_set w g i v (.inr rfl), fun k hk => .inl hk⟩⟩
  · dsimp only
    rw [List.length_set]
    exact (heap_setCell_other w ⟨g, i, none⟩ b v (fun e => x.neR rfl e.symm)).trans x.head
  · injection hg' with hg'
    subst hg'
    exact ⟨(x.row _ rfl).1, by rw [head_set (x.row _ rfl).2]; simp⟩
/-- a field is stored -/
theorem QAt.setF (x : QAt T E w lo b og Q) (f : Nat) : QAt T E (w.setCell ⟨b, 2, none⟩ (.int .i64 (f : Int))) lo b og { Q with first := f } ∧ Stp b og og w (w.setCell ⟨b, 2, none⟩ (.int .i64 (f : Int))) := by
  refine ⟨⟨x.ne, x.blo, by rw [head_set x.head]; rfl, fun g' hg' => ⟨(x.row _ hg').1, (heap_setCell_other w ⟨b, 2, none⟩ g' _ (x.neR hg')).trans (x.row _ hg').2⟩, x.nor, x.yes⟩, ⟨But.of_set w b 2 _ (.inl rfl), fun k hk => .inl hk⟩⟩
theorem QAt.setC (x : QAt T E w lo b og Q) (f : Nat) : QAt T E (w.setCell ⟨b, 3, none⟩ (.int .i64 (f : Int))) lo b og { Q with cnt := f } ∧ Stp b og og w (w.setCell ⟨b, 3, none⟩ (.int .i64 (f : Int))) := by
  refine ⟨⟨x.ne, x.blo, by rw [head_set x.head]; rfl, fun g' hg' => ⟨(x.row _ hg').1, (heap_setCell_other w ⟨b, 3, none⟩ g' _ (x.neR hg')).trans (x.row _ hg').2⟩, x.nor, x.yes⟩, ⟨But.of_set w b 3 _ (.inl rfl), fun k hk => .inl hk⟩⟩
theorem QAt.setT (x : QAt T E w lo b og Q) (f : Nat) : QAt T E (w.setCell ⟨b, 4, none⟩ (.int .u64 (f : Int))) lo b og { Q with tot := f } ∧ Stp b og og w (w.setCell ⟨b, 4, none⟩ (.int .u64 (f : Int))) := by
  refine ⟨⟨x.ne, x.blo, by rw [head_set x.head]; rfl, fun g' hg' => ⟨(x.row _ hg').1, (heap_setCell_other w ⟨b, 4, none⟩ g' _ (x.neR hg')).trans (x.row _ hg').2⟩, x.nor, x.yes⟩, ⟨But.of_set w b 4 _ (.inl rfl), fun k hk => .inl hk⟩⟩
/-- another ring -/
theorem QAt.setV (x : QAt T E w lo b og Q) {g : Nat} {R : List Value} (hlo : lo ≤ g) (hg : w.heap[g]? = some (.cells R.toArray E (0, 0))) (hgb : g ≠ b) (hR : R ≠ []) :
    QAt T E ((w.setCell ⟨b, 1, none⟩ (.slice (some ⟨g, 0, none⟩) R.length R.length)).setCell ⟨b, 2, none⟩ (.int .i64 0)) lo b (some g) { Q with R := R, first := 0 } := by
  refine ⟨x.ne, x.blo, ?_, fun g' hg' => ?_, fun e => (by cases e), fun _ _ => hR⟩
  · rw [head_set (head_set x.head _ _)]; rfl
  · injection hg' with hg'
    subst hg'
    exact ⟨hlo, (heap_setCell_other _ _ _ _ hgb).trans ((heap_setCell_other _ _ _ _ hgb).trans hg)⟩
end
/-! ### the things -/
/-- the ring from the oldest thing's place on -/
def rotl (R : List Value) (f : Nat) : List Value := R.drop f ++ R.take f
theorem rotl_length (R : List Value) (f : Nat) : (rotl R f).length = R.length := by simp [rotl]; omega
theorem rotl_get {R : List Value} {f : Nat} (hf : f < R.length) {i : Nat} (hi : i < R.length) : (rotl R f)[i]? = R[(f + i) % R.length]? := by
  unfold rotl
  by_cases h : f + i < R.length
  · rw [List.getElem?_append_left (by rw [List.length_drop]; omega), List.getElem?_drop, Nat.mod_eq_of_lt h]
  · rw [List.getElem?_append_right (by rw [List.length_drop]; omega), List.length_drop, Nat.mod_eq_sub_mod (by omega), Nat.mod_eq_of_lt (by omega), List.getElem?_take, if_pos (by omega)]
    congr 1; omega
theorem rotl_zero (R : List Value) : rotl R 0 = R := by simp [rotl]
/-- l: the things of a queue, the oldest one first -/
structure Has (Q : Qu) (l : List Value) : Prop where
  m1 : 1 ≤ Q.most
  m2 : Q.most ≤ 65536
  room : Q.R.length ≤ Q.most
  cnt : l.length = Q.cnt
  fits : Q.cnt ≤ Q.R.length
  fst : Q.first < Q.R.length ∨ (Q.R = [] ∧ Q.first = 0)
  are : (rotl Q.R Q.first).take Q.cnt = l
  one : ∀ v ∈ Q.R, v.oneCell' = true
section
variable {Q : Qu} {l : List Value}
theorem Has.lenR (h : Has Q l) : l.length ≤ Q.R.length := by rw [h.cnt]; exact h.fits
theorem Has.nonempty (h : Has Q l) (hl : Q.R ≠ []) : Q.first < Q.R.length := h.fst.resolve_right fun e => hl e.1
theorem Has.get (h : Has Q l) {i : Nat} (hi : i < l.length) : Q.first < Q.R.length ∧ Q.R[(Q.first + i) % Q.R.length]? = l[i]? := by
  have hr := h.lenR
  have hf := h.nonempty (fun e => by rw [e] at hr; simp only [List.length_nil] at hr; omega)
  have h1 : ((rotl Q.R Q.first).take Q.cnt)[i]? = l[i]? := by rw [h.are]
  rw [List.getElem?_take, if_pos (by rw [← h.cnt]; exact hi), rotl_get hf (by omega)] at h1
  exact ⟨hf, h1⟩
theorem Has.head (h : Has Q l) {v : Value} {t : List Value} (e : l = v :: t) : Q.first < Q.R.length ∧ Q.R[Q.first]? = some v := by
  obtain ⟨hf, h1⟩ := h.get (i := 0) (by rw [e]; simp)
  rw [Nat.add_zero, Nat.mod_eq_of_lt hf, e] at h1
  exact ⟨hf, h1⟩
theorem eq_of_get {a b : List Value} {n : Nat} (ha : a.length = n) (hb : b.length = n) (h : ∀ i, i < n → a[i]? = b[i]?) : a = b := by
  refine List.ext_getElem? fun i => ?_
  by_cases hi : i < n
  · exact h i hi
  · rw [List.getElem?_eq_none (by omega), List.getElem?_eq_none (by omega)]
/-- the oldest one goes -/
theorem Has.pop {z v : Value} {t : List Value} (h : Has Q (v :: t)) (hz : z.oneCell' = true) : Has { Q with R := Q.R.set Q.first z, first := (Q.first + 1) % Q.R.length, cnt := Q.cnt - 1 } t := by
  obtain ⟨hf, _⟩ := h.head rfl
  have hr := h.lenR
  have hc := h.cnt
  have hft := h.fits
  simp only [List.length_cons] at hr hc
  refine ⟨h.m1, h.m2, by rw [List.length_set]; exact h.room, by dsimp only; omega, by dsimp only; rw [List.length_set]; omega, .inl (by dsimp only; rw [List.length_set]; exact Nat.mod_lt _ (by omega)), ?_, fun u hu => ?_⟩
  · dsimp only
    refine eq_of_get (n := t.length) (by rw [List.length_take, rotl_length, List.length_set]; omega) rfl fun i hi => ?_
    rw [List.getElem?_take, if_pos (by omega), rotl_get (by rw [List.length_set]; exact Nat.mod_lt _ (by omega)) (by rw [List.length_set]; omega), List.length_set]
    have h1 := (h.get (i := i + 1) (by simp; omega)).2
    rw [List.getElem?_cons_succ] at h1
    rw [← h1, Nat.mod_add_mod, show Q.first + 1 + i = Q.first + (i + 1) by omega, List.getElem?_set_ne]
    intro e
    by_cases hx : Q.first + (i + 1) < Q.R.length
    · rw [Nat.mod_eq_of_lt hx] at e; omega
    · rw [Nat.mod_eq_sub_mod (by omega), Nat.mod_eq_of_lt (by omega)] at e; omega
  · rcases List.mem_or_eq_of_mem_set hu with hu | hu
    · exact h.one u hu
    · rw [hu]; exact hz
/-- a new one comes, where there is room in the ring -/
theorem Has.put {v : Value} (h : Has Q l) (hl : l.length < Q.R.length) (hv : v.oneCell' = true) : Has { Q with R := Q.R.set ((Q.first + Q.cnt) % Q.R.length) v, cnt := Q.cnt + 1, tot := Q.tot + 1 } (l ++ [v]) := by
  have hf := h.nonempty (fun e => by rw [e] at hl; simp at hl)
  have hc := h.cnt
  refine ⟨h.m1, h.m2, by rw [List.length_set]; exact h.room, by simp; exact hc, by dsimp only; rw [List.length_set]; omega, .inl (by dsimp only; rw [List.length_set]; exact hf), ?_, fun u hu => ?_⟩
  · dsimp only
    refine eq_of_get (n := l.length + 1) (by rw [List.length_take, rotl_length, List.length_set]; omega) (by simp) fun i hi => ?_
    rw [List.getElem?_take, if_pos (by omega), rotl_get (by rw [List.length_set]; exact hf) (by rw [List.length_set]; omega), List.length_set]
    by_cases hx : i = l.length
    · subst hx
      rw [hc, List.getElem?_set_self (by exact Nat.mod_lt _ (by omega)), ← hc, List.getElem?_append_right (Nat.le_refl _)]; simp
    · have h1 := (h.get (i := i) (by omega)).2
      rw [List.getElem?_append_left (by omega), ← h1, List.getElem?_set_ne]
      intro e
      by_cases h2 : Q.first + Q.cnt < Q.R.length
      · rw [Nat.mod_eq_of_lt h2, Nat.mod_eq_of_lt (by omega)] at e; omega
      · rw [Nat.mod_eq_sub_mod (by omega), Nat.mod_eq_of_lt (show Q.first + Q.cnt - Q.R.length < Q.R.length by omega)] at e
        by_cases h3 : Q.first + i < Q.R.length
        · rw [Nat.mod_eq_of_lt h3] at e; omega
        · rw [Nat.mod_eq_sub_mod (by omega), Nat.mod_eq_of_lt (by omega)] at e; omega
  · rcases List.mem_or_eq_of_mem_set hu with hu | hu
    · exact h.one u hu
    · rw [hu]; exact hv
/-- a wider ring -/
theorem Has.grow {z : Value} {n : Nat} (h : Has Q l) (hz : z.oneCell' = true) (hf : Q.cnt = Q.R.length) (hn : Q.cnt < n) (hm : n ≤ Q.most) : Has { Q with R := rotl Q.R Q.first ++ List.replicate (n - Q.R.length) z, first := 0 } l ∧ rotl Q.R Q.first = l := by
  have e : rotl Q.R Q.first = l := by
    rw [← h.are, hf, List.take_of_length_le (by rw [rotl_length]; exact Nat.le_refl _)]
  have hc := h.cnt
  refine ⟨⟨h.m1, h.m2, by simp [rotl_length]; omega, hc, by simp [rotl_length]; omega, .inl (by simp [rotl_length]; omega), ?_, fun u hu => ?_⟩, e⟩
  · dsimp only
    rw [rotl_zero, e, hf, ← hf, ← hc, List.take_left]
  · dsimp only at hu
    rcases List.mem_append.1 hu with hu | hu
    · rcases List.mem_append.1 hu with hu | hu
      · exact h.one u (List.mem_of_mem_drop hu)
      · exact h.one u (List.mem_of_mem_take hu)
    · rw [(List.mem_replicate.1 hu).2]; exact hz
end
/-- a new queue -/
theorem has_new {m : Nat} (h1 : 1 ≤ m) (h2 : m ≤ 65536) : Has ⟨m, [], 0, 0, 0⟩ [] := ⟨h1, h2, Nat.zero_le _, rfl, Nat.le_refl _, .inr ⟨rfl, rfl⟩, rfl, fun _ h => by cases h⟩
end Go.Proofs.Ytcphbendmnmpiaa
