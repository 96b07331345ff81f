/-
  How a slab lies in memory: a head, a row of chunks, the chunks, and the places that were freed. No program is named here.
-/
import Derived.Laws.AppendOwn
import Derived.Laws.OwnMore
import Derived.Below
import Derived.OwnWalk
import Derived.Lib.Hide
import Derived.Deep.Draws
import Derived.RangeFuncBox
namespace Go.Proofs.Ytoopfoapkbjdkaa
set_option linter.unusedVariables false

theorem grown_trans {a b c : World} {row : Option Nat} (h1 : a.grownBy b row) (h2 : b.grownBy c row) : a.grownBy c row :=
  ⟨h2.os.trans h1.os, h2.tape.trans h1.tape, h2.output.trans h1.output, Nat.le_trans h1.size h2.size, fun k hk hr => (h2.block k (Nat.lt_of_lt_of_le hk h1.size) hr).trans (h1.block k hk hr)⟩
theorem grown_any {a b : World} (h : a.grownBy b none) (row : Option Nat) : a.grownBy b row :=
  ⟨h.os, h.tape, h.output, h.size, fun k hk _ => h.block k hk (by simp)⟩
theorem grown_drewN (w : World) (q : Nat) (row : Option Nat) : w.grownBy (w.drewN q) row := ⟨rfl, rfl, rfl, Nat.le_refl _, fun _ _ _ => rfl⟩
theorem grown_setCell (w : World) (g k : Nat) (v : Value) : w.grownBy (w.setCell ⟨g, k, none⟩ v) (some g) :=
  ⟨rfl, rfl, rfl, by simp, fun j _ hj => heap_setCell_other w ⟨g, k, none⟩ j v (fun e => hj (by rw [e]))⟩
theorem grown_new {a b c : World} {g : Nat} (h1 : a.grownBy b none) (h2 : b.grownBy c (some g)) (hg : a.heap.size ≤ g) : a.grownBy c none :=
  ⟨h2.os.trans h1.os, h2.tape.trans h1.tape, h2.output.trans h1.output, Nat.le_trans h1.size h2.size,
    fun k hk hr => (h2.block k (Nat.lt_of_lt_of_le hk h1.size) (by intro e; cases e; omega)).trans (h1.block k hk hr)⟩

theorem type_eq {x : Option Obj} {cur cur' : Array Value} {t t' : TypeId} {f f' : Nat × Nat} (h : x = some (.cells cur t f)) (h' : x = some (.cells cur' t' f')) : t = t' := by
  rw [h] at h'; injection h' with h'; injection h'

/-- the types of a slab's blocks, and how many cells a place has -/
structure Kd where
  tS : TypeId
  tC : TypeId
  tP : TypeId
  k : Nat
def Kd.own (K : Kd) (t : TypeId) : Bool := t == K.tS || t == K.tC || t == K.tP || t == 21
structure Kd.Ok (K : Kd) : Prop where
  sc : K.tS ≠ K.tC
  sp : K.tS ≠ K.tP
  cp : K.tC ≠ K.tP
  sf : K.tS ≠ 21
  cf : K.tC ≠ 21
  pf : K.tP ≠ 21
  k0 : 0 < K.k

/-- nothing of old turns but blocks of the slab's types from lo on -/
structure Keep (K : Kd) (lo : Nat) (w w' : World) : Prop where
  os : w'.os = w.os
  tape : w'.tape = w.tape
  output : w'.output = w.output
  size : w.heap.size ≤ w'.heap.size
  block : ∀ k, k < w.heap.size → (k < lo ∨ ∀ cur t f, w.heap[k]? = some (.cells cur t f) → K.own t = false) → w'.heap[k]? = w.heap[k]?

theorem Keep.refl (K : Kd) (lo : Nat) (w : World) : Keep K lo w w := ⟨rfl, rfl, rfl, Nat.le_refl _, fun _ _ _ => rfl⟩
theorem Keep.trans {K : Kd} {lo : Nat} {a b c : World} (h : Keep K lo a b) (g : Keep K lo b c) : Keep K lo a c :=
  ⟨g.os.trans h.os, g.tape.trans h.tape, g.output.trans h.output, Nat.le_trans h.size g.size, fun k hk hc => by
    have e := h.block k hk hc
    refine (g.block k (Nat.lt_of_lt_of_le hk h.size) ?_).trans e
    rcases hc with hc | hc
    · exact .inl hc
    · exact .inr (by rw [e]; exact hc)⟩
theorem Keep.of_grown {K : Kd} {lo : Nat} {w w' : World} {row : Option Nat} (hg : w.grownBy w' row)
    (hr : ∀ r, row = some r → lo ≤ r ∧ (r < w.heap.size → ∃ cur t f, w.heap[r]? = some (.cells cur t f) ∧ K.own t = true)) : Keep K lo w w' :=
  ⟨hg.os, hg.tape, hg.output, hg.size, fun k hk hc => hg.block k hk (fun e => by
    obtain ⟨h1, h2⟩ := hr k e.symm
    obtain ⟨cur, t, f, h3, h4⟩ := h2 hk
    rcases hc with hc | hc
    · omega
    · rw [hc cur t f h3] at h4; cases h4)⟩
theorem Keep.of_new {K : Kd} {lo : Nat} {w w' : World} (hg : w.grownBy w' none) : Keep K lo w w' := Keep.of_grown hg (by intro r h; cases h)
theorem Keep.grown {K : Kd} {lo : Nat} {w0 w w' : World} (h0 : w0.grownBy w none) (h : Keep K lo w w') (hl : w0.heap.size ≤ lo) : w0.grownBy w' none :=
  ⟨h.os.trans h0.os, h.tape.trans h0.tape, h.output.trans h0.output, Nat.le_trans h0.size h.size, fun k hk hr =>
    (h.block k (Nat.lt_of_lt_of_le hk h0.size) (.inl (by omega))).trans (h0.block k hk hr)⟩
/-- a block of another type stays -/
theorem Keep.other {K : Kd} {lo : Nat} {w w' : World} (h : Keep K lo w w') {b : Nat} {cur : Array Value} {t : TypeId} {f : Nat × Nat} (hb : w.heap[b]? = some (.cells cur t f)) (ht : K.own t = false) : w'.heap[b]? = some (.cells cur t f) :=
  (h.block b (Array.getElem?_eq_some_iff.1 hb).1 (.inr fun cur' t' f' e => by rw [hb] at e; cases e; exact ht)).trans hb

/-- how many chunks n places have, and how many places the chunk j has -/
def nch (c n : Nat) : Nat := (n + (c - 1)) / c
def lch (c n j : Nat) : Nat := min c (n - j * c)

theorem lch_lt {c n j i : Nat} : i < lch c n j ↔ i < c ∧ j * c + i < n := by unfold lch; omega
theorem nch_lt {c n j : Nat} (hc : 1 ≤ c) : j < nch c n ↔ j * c < n := by
  unfold nch
  rw [Nat.lt_iff_add_one_le, Nat.le_div_iff_mul_le (by omega), Nat.add_mul]
  omega
theorem nch_div {c n p : Nat} (hc : 1 ≤ c) (h : p < n) : p / c < nch c n := by
  rw [nch_lt hc]
  have := Nat.div_mul_le_self p c
  omega
theorem lch_mod {c n p : Nat} (hc : 1 ≤ c) (h : p < n) : p % c < lch c n (p / c) := by
  rw [lch_lt]
  have := Nat.mod_lt p (show c > 0 by omega)
  have := Nat.div_add_mod p c
  rw [Nat.mul_comm] at this
  omega
theorem at_div (c p : Nat) : p / c * c + p % c = p := by rw [Nat.mul_comm]; exact Nat.div_add_mod p c
theorem nch_succ {c n : Nat} (hc : 1 ≤ c) : nch c (n + 1) = n / c + 1 := by
  unfold nch
  rw [show n + 1 + (c - 1) = n + c by omega, Nat.add_div_right _ (by omega)]
theorem nch_le {c n : Nat} (hc : 1 ≤ c) : nch c n ≤ n := by
  refine Nat.le_of_not_lt fun h => ?_
  rw [nch_lt hc] at h
  have := Nat.le_mul_of_pos_right n (show 0 < c by omega)
  omega
theorem nch_full {c n : Nat} (hc : 1 ≤ c) (h : n % c = 0) : nch c n = n / c := by
  refine Nat.le_antisymm (Nat.le_of_not_lt fun g => ?_) (Nat.le_of_not_lt fun g => ?_)
  · rw [nch_lt hc] at g
    have := at_div c n; omega
  · have : nch c n * c < n := by
      have h1 := Nat.mul_le_mul_right c (Nat.lt_iff_add_one_le.1 g)
      have h2 := at_div c n
      rw [Nat.add_mul] at h1; omega
    have := (nch_lt hc).2 this
    omega
theorem nch_part {c n : Nat} (hc : 1 ≤ c) (h : n % c ≠ 0) : nch c n = n / c + 1 := by
  refine Nat.le_antisymm (Nat.le_of_not_lt fun g => ?_) (Nat.le_of_not_lt fun g => ?_)
  · rw [nch_lt hc] at g
    have := at_div c n
    have := Nat.mod_lt n (show c > 0 by omega)
    rw [Nat.add_mul] at g; omega
  · have h2 := at_div c n
    have : n / c < nch c n := (nch_lt hc).2 (by omega)
    omega
theorem lch_end (c n : Nat) (hc : 1 ≤ c) : lch c n (n / c) = n % c := by
  unfold lch
  have := at_div c n
  have := Nat.mod_lt n (show c > 0 by omega)
  omega
theorem lch_end' (c n : Nat) (hc : 1 ≤ c) : lch c (n + 1) (n / c) = n % c + 1 := by
  unfold lch
  have := at_div c n
  have := Nat.mod_lt n (show c > 0 by omega)
  omega
theorem lch_full {c n j : Nat} (h : j < n / c) : lch c n j = c := by
  unfold lch
  have h1 := Nat.mul_le_mul_right c (Nat.lt_iff_add_one_le.1 h)
  have := at_div c n
  rw [Nat.add_mul] at h1; omega
theorem lch_full' {c n j : Nat} (h : j < n / c) : lch c (n + 1) j = c := by
  unfold lch
  have h1 := Nat.mul_le_mul_right c (Nat.lt_iff_add_one_le.1 h)
  have := at_div c n
  rw [Nat.add_mul] at h1; omega

/-- a chunk's row, cell by cell -/
def ChunkAt (K : Kd) (w : World) (lo c : Nat) (Lc : List (List Value)) (j g cap : Nat) : Prop :=
  lo ≤ g ∧ ∃ cur : Array Value, w.heap[g]? = some (.cells cur K.tP (0, 0)) ∧ lch c Lc.length j ≤ cap ∧ cap ≤ maxLen ∧ cur.size = cap * K.k ∧
    ∀ i t, i < lch c Lc.length j → t < K.k → cur[i * K.k + t]? = (Lc.getD (j * c + i) [])[t]?

def chunkVal (c n : Nat) (d cp : Nat → Nat) (j : Nat) : Value := .slice (some ⟨d j, 0, none⟩) (lch c n j) (cp j)
def frVals (fr : List Nat) : List Value := fr.map fun p : Nat => Value.int .i32 (p : Int)

structure Mem (K : Kd) (w : World) (lo b most c : Nat) (Lc : List (List Value)) (fr : List Nat) (d cp : Nat → Nat) (vC vF : Value) : Prop where
  c1 : 1 ≤ c
  cm : c ≤ most
  m6 : most ≤ 65536
  len : Lc.length ≤ most
  wide : ∀ x ∈ Lc, x.length = K.k
  one : ∀ x ∈ Lc, ∀ u ∈ x, u.oneCell' = true
  blo : lo ≤ b
  head : w.heap[b]? = some (.cells #[.int .i64 (most : Int), .int .i64 (c : Int), .int .i64 (Lc.length : Int), vC, vF] K.tS (0, 0))
  rowC : w.ownsRow lo K.tC 1 vC (nch c Lc.length) ((List.range (nch c Lc.length)).map (chunkVal c Lc.length d cp))
  chunk : ∀ j, j < nch c Lc.length → ChunkAt K w lo c Lc j (d j) (cp j)
  inj : ∀ i j, i < nch c Lc.length → j < nch c Lc.length → d i = d j → i = j
  rowF : w.ownsRow lo 21 1 vF fr.length (frVals fr)

section
variable {K : Kd} {w w' : World} {lo b most c : Nat} {Lc : List (List Value)} {fr : List Nat} {d cp : Nat → Nat} {vC vF : Value}

theorem Mem.blt (h : Mem K w lo b most c Lc fr d cp vC vF) : b < w.heap.size := (Array.getElem?_eq_some_iff.1 h.head).1
theorem cell_of_head {cs : Array Value} {t : TypeId} (h : w.heap[b]? = some (.cells cs t (0, 0))) (i : Nat) : w.cell? ⟨b, i, none⟩ = cs[i]? := by
  simp [World.cell?, h]
theorem frozen_of_head {cs : Array Value} {t : TypeId} (h : w.heap[b]? = some (.cells cs t (0, 0))) (i : Nat) : w.frozen? ⟨b, i, none⟩ = false := by
  simp [World.frozen?, h]
theorem Mem.most0 (h : Mem K w lo b most c Lc fr d cp vC vF) : w.cell? ⟨b, 0, none⟩ = some (.int .i64 (most : Int)) := by rw [cell_of_head h.head]; rfl
theorem Mem.chunk1 (h : Mem K w lo b most c Lc fr d cp vC vF) : w.cell? ⟨b, 1, none⟩ = some (.int .i64 (c : Int)) := by rw [cell_of_head h.head]; rfl
theorem Mem.taken2 (h : Mem K w lo b most c Lc fr d cp vC vF) : w.cell? ⟨b, 2, none⟩ = some (.int .i64 (Lc.length : Int)) := by rw [cell_of_head h.head]; rfl
theorem Mem.chunks3 (h : Mem K w lo b most c Lc fr d cp vC vF) : w.cell? ⟨b, 3, none⟩ = some vC := by rw [cell_of_head h.head]; rfl
theorem Mem.freed4 (h : Mem K w lo b most c Lc fr d cp vC vF) : w.cell? ⟨b, 4, none⟩ = some vF := by rw [cell_of_head h.head]; rfl
theorem Mem.frozen (h : Mem K w lo b most c Lc fr d cp vC vF) (i : Nat) : w.frozen? ⟨b, i, none⟩ = false := frozen_of_head h.head i

/-- a slice that is owned, written out -/
theorem owns_slice {base n : Nat} {e : TypeId} {size : Nat} {v : Value} {xs : List Value} (h : w.ownsRow base e size v n xs) : ∃ A cap, v = .slice A n cap := by
  rcases h.2 with ⟨rfl, h0⟩ | ⟨g, cap, cur, rfl, _⟩
  · exact ⟨none, 0, by rw [h0]⟩
  · exact ⟨_, _, rfl⟩
theorem owns_some {base n : Nat} {e : TypeId} {size : Nat} {v : Value} {xs : List Value} (h : w.ownsRow base e size v n xs) (hn : 0 < n) : ∃ g cap, v = .slice (some ⟨g, 0, none⟩) n cap := by
  rcases h.2 with ⟨rfl, h0⟩ | ⟨g, cap, cur, rfl, _⟩
  · omega
  · exact ⟨_, _, rfl⟩
theorem owns_stay {base n : Nat} {e : TypeId} {size : Nat} {v : Value} {xs : List Value} (h : w.ownsRow base e size v n xs) (hb : ∀ k, v.ownBlock = some k → w'.heap[k]? = w.heap[k]?) : w'.ownsRow base e size v n xs := by
  refine ⟨h.1, ?_⟩
  rcases h.2 with h' | ⟨g, cap, cur, rfl, hg, hgb, r⟩
  · exact .inl h'
  · exact .inr ⟨g, cap, cur, rfl, hg, (hb g rfl).trans hgb, r⟩
/-- the block of a row that is owned bears the row's type -/
theorem owns_type {base n : Nat} {e : TypeId} {size : Nat} {v : Value} {xs : List Value} (h : w.ownsRow base e size v n xs) {k : Nat} (hk : v.ownBlock = some k) : base ≤ k ∧ ∃ cur, w.heap[k]? = some (.cells cur e (0, 0)) := by
  rcases h.2 with ⟨rfl, _⟩ | ⟨g, cap, cur, rfl, hg, hgb, r⟩
  · cases hk
  · injection hk with hk
    have hk : g = k := hk
    subst hk
    exact ⟨hg, cur, hgb⟩
theorem ChunkAt.stay {j g cap : Nat} (h : ChunkAt K w lo c Lc j g cap) (hb : w'.heap[g]? = w.heap[g]?) : ChunkAt K w' lo c Lc j g cap := by
  obtain ⟨h1, cur, h2, h3⟩ := h
  exact ⟨h1, cur, hb.trans h2, h3⟩
theorem Mem.stay (h : Mem K w lo b most c Lc fr d cp vC vF) (hb : w'.heap[b]? = w.heap[b]?) (hC : ∀ k, vC.ownBlock = some k → w'.heap[k]? = w.heap[k]?)
    (hD : ∀ j, j < nch c Lc.length → w'.heap[d j]? = w.heap[d j]?) (hF : ∀ k, vF.ownBlock = some k → w'.heap[k]? = w.heap[k]?) : Mem K w' lo b most c Lc fr d cp vC vF :=
  ⟨h.c1, h.cm, h.m6, h.len, h.wide, h.one, h.blo, hb.trans h.head, owns_stay h.rowC hC, fun j hj => (h.chunk j hj).stay (hD j hj), h.inj, owns_stay h.rowF hF⟩
theorem Mem.dlt (h : Mem K w lo b most c Lc fr d cp vC vF) {j : Nat} (hj : j < nch c Lc.length) : d j < w.heap.size := by
  obtain ⟨_, cur, h2, _⟩ := h.chunk j hj
  exact (Array.getElem?_eq_some_iff.1 h2).1
/-- what leaves old blocks as they lay leaves the slab -/
theorem Mem.kept (h : Mem K w lo b most c Lc fr d cp vC vF) (hg : w.grownBy w' none) : Mem K w' lo b most c Lc fr d cp vC vF :=
  h.stay (hg.block b h.blt (by simp)) (fun k hk => hg.block k (h.rowC.lt k hk).2 (by simp)) (fun j hj => hg.block _ (h.dlt hj) (by simp)) (fun k hk => hg.block k (h.rowF.lt k hk).2 (by simp))
theorem Mem.drewN (h : Mem K w lo b most c Lc fr d cp vC vF) (q : Nat) : Mem K (w.drewN q) lo b most c Lc fr d cp vC vF := h.kept (grown_drewN w q none)

/-! ### reading -/
theorem Mem.rowCell (h : Mem K w lo b most c Lc fr d cp vC vF) {j : Nat} (hj : j < nch c Lc.length) :
    ∃ gC capC, vC = .slice (some ⟨gC, 0, none⟩) (nch c Lc.length) capC ∧ w.cell? ⟨gC, j, none⟩ = some (.slice (some ⟨d j, 0, none⟩) (lch c Lc.length j) (cp j)) := by
  obtain ⟨gC, capC, rfl⟩ := owns_some h.rowC (by omega)
  refine ⟨gC, capC, rfl, ?_⟩
  rw [h.rowC.cellAt j (by omega), List.getElem?_map, List.getElem?_range hj]
  rfl
theorem Mem.spotCell (h : Mem K w lo b most c Lc fr d cp vC vF) {p t : Nat} (hp : p < Lc.length) (ht : t < K.k) :
    w.cell? ⟨d (p / c), p % c * K.k + t, none⟩ = (Lc.getD p [])[t]? := by
  obtain ⟨_, cur, h2, _, _, _, h3⟩ := h.chunk (p / c) (nch_div h.c1 hp)
  rw [cell_of_head h2, h3 _ t (lch_mod h.c1 hp) ht, at_div]
theorem Mem.spotFree (h : Mem K w lo b most c Lc fr d cp vC vF) {p : Nat} (hp : p < Lc.length) (i : Nat) : w.frozen? ⟨d (p / c), i, none⟩ = false := by
  obtain ⟨_, cur, h2, _⟩ := h.chunk (p / c) (nch_div h.c1 hp)
  exact frozen_of_head h2 i

/-! ### one cell of a place is stored -/
theorem idx_inj {i i' t t' k : Nat} (ht : t < k) (ht' : t' < k) (h : i * k + t = i' * k + t') : i = i' ∧ t = t' := by
  have h1 : (i * k + t) / k = i := by rw [Nat.mul_comm, Nat.mul_add_div (by omega), Nat.div_eq_of_lt ht, Nat.add_zero]
  have h2 : (i' * k + t') / k = i' := by rw [Nat.mul_comm, Nat.mul_add_div (by omega), Nat.div_eq_of_lt ht', Nat.add_zero]
  have : i = i' := by rw [← h1, ← h2, h]
  subst this
  exact ⟨rfl, by omega⟩
theorem mem_set_of {α : Type} {l : List α} {p : Nat} {x y : α} (h : y ∈ l.set p x) : y ∈ l ∨ y = x := by
  rcases List.mem_or_eq_of_mem_set h with h | h
  · exact .inl h
  · exact .inr h
theorem getD_mem {α : Type} {l : List α} {p : Nat} {z : α} (h : p < l.length) : l.getD p z ∈ l := by
  rw [List.getD_eq_getElem?_getD, List.getElem?_eq_getElem h]
  exact List.getElem_mem h
theorem Mem.store (h : Mem K w lo b most c Lc fr d cp vC vF) (hK : K.Ok) {p t : Nat} (hp : p < Lc.length) (ht : t < K.k) (v : Value) (hv : v.oneCell' = true) :
    Mem K (w.setCell ⟨d (p / c), p % c * K.k + t, none⟩ v) lo b most c (Lc.set p ((Lc.getD p []).set t v)) fr d cp vC vF ∧ Keep K lo w (w.setCell ⟨d (p / c), p % c * K.k + t, none⟩ v) := by
  have hj := nch_div h.c1 hp
  obtain ⟨hlo, cur, h2, h3, h4, h5, h6⟩ := h.chunk (p / c) hj
  have hg := grown_setCell w (d (p / c)) (p % c * K.k + t) v
  have hwid : (Lc.getD p []).length = K.k := h.wide _ (getD_mem hp)
  have hoth : ∀ k, k ≠ d (p / c) → (w.setCell ⟨d (p / c), p % c * K.k + t, none⟩ v).heap[k]? = w.heap[k]? := fun k hk => heap_setCell_other _ _ k _ hk
  have hbd : b ≠ d (p / c) := by
    intro e; have := h.head; rw [e] at this; exact hK.sp (type_eq this h2)
  refine ⟨⟨h.c1, h.cm, h.m6, by simpa using h.len, fun x hx => ?_, fun x hx u hu => ?_, h.blo, ?_, ?_, fun j hjj => ?_, by simpa using h.inj, ?_⟩, Keep.of_grown hg fun r hr => ?_⟩
  · rcases mem_set_of hx with hx | rfl
    · exact h.wide x hx
    · rw [List.length_set]; exact hwid
  · rcases mem_set_of hx with hx | rfl
    · exact h.one x hx u hu
    · rcases mem_set_of hu with hu | rfl
      · exact h.one _ (getD_mem hp) u hu
      · exact hv
  · rw [hoth b hbd, List.length_set]; exact h.head
  · rw [List.length_set]
    exact owns_stay h.rowC fun k hk => hoth k fun e => by
      obtain ⟨_, cur', h'⟩ := owns_type h.rowC hk
      rw [e] at h'; exact hK.cp (type_eq h' h2)
  · rw [List.length_set] at hjj
    by_cases hjd : j = p / c
    · subst hjd
      refine ⟨hlo, cur.setIfInBounds (p % c * K.k + t) v, heap_setCell_same w _ _ cur K.tP v h2, by rw [List.length_set]; exact h3, h4, by simpa using h5, fun i t' hi ht' => ?_⟩
      rw [List.length_set] at hi
      have hin : p % c * K.k + t < cur.size := by
        rw [h5]
        have h7 := Nat.lt_of_lt_of_le (lch_mod h.c1 hp) h3
        have := Nat.mul_le_mul_right K.k (Nat.lt_iff_add_one_le.1 h7)
        rw [Nat.add_mul] at this; omega
      have hpc : p / c * c + i < Lc.length := (lch_lt.1 hi).2
      rw [Array.getElem?_setIfInBounds, List.getD_eq_getElem?_getD, List.getElem?_set]
      by_cases hii : p % c = i
      · subst hii
        rw [at_div, if_pos rfl, if_pos hp]
        by_cases htt : t = t'
        · subst htt
          rw [if_pos rfl, if_pos hin]
          simp only [Option.getD_some]
          rw [List.getElem?_set, if_pos rfl, if_pos (by omega)]
        · rw [if_neg (fun e => htt (idx_inj ht ht' e).2)]
          simp only [Option.getD_some]
          rw [List.getElem?_set, if_neg htt, h6 _ t' hi ht', at_div]
      · have e1 : p ≠ p / c * c + i := fun e => hii (by have := at_div c p; omega)
        rw [if_neg (fun e => hii (idx_inj ht ht' e).1), if_neg e1, h6 i t' hi ht', List.getD_eq_getElem?_getD]
    · have hne : d j ≠ d (p / c) := fun e => hjd (h.inj _ _ hjj hj e)
      obtain ⟨k1, cur', k2, k3, k4, k5, k6⟩ := h.chunk j hjj
      refine ⟨k1, cur', (hoth _ hne).trans k2, by rw [List.length_set]; exact k3, k4, k5, fun i t' hi ht' => ?_⟩
      rw [List.length_set] at hi
      rw [k6 i t' hi ht', List.getD_eq_getElem?_getD, List.getD_eq_getElem?_getD, List.getElem?_set, if_neg]
      intro e
      have hi2 := (lch_lt.1 hi).1
      refine hjd ?_
      rw [e, Nat.mul_comm, Nat.mul_add_div (by have := h.c1; omega), Nat.div_eq_of_lt hi2, Nat.add_zero]
  · exact owns_stay h.rowF fun k hk => hoth k fun e => by
      obtain ⟨_, cur', h'⟩ := owns_type h.rowF hk
      rw [e] at h'; exact hK.pf (type_eq h2 h')
  · cases hr
    exact ⟨hlo, fun _ => ⟨_, _, _, h2, by simp [Kd.own]⟩⟩

/-! ### the places that were freed -/
theorem head_set {cs : Array Value} {t : TypeId} (h : w.heap[b]? = some (.cells cs t (0, 0))) (i : Nat) (v : Value) :
    (w.setCell ⟨b, i, none⟩ v).heap[b]? = some (.cells (cs.setIfInBounds i v) t (0, 0)) := heap_setCell_same w b i cs t v h
theorem Mem.not_b (h : Mem K w lo b most c Lc fr d cp vC vF) (hK : K.Ok) {g : Nat} {cur : Array Value} {t : TypeId} (hg : w.heap[g]? = some (.cells cur t (0, 0))) (ht : K.tS ≠ t) : g ≠ b := by
  intro e; rw [e] at hg; exact ht (type_eq h.head hg)
theorem Mem.setF (h : Mem K w lo b most c Lc fr d cp vC vF) (hK : K.Ok) {w1 : World} {vF' : Value} {fr' : List Nat} (hr : w1.ownsRow lo 21 1 vF' fr'.length (frVals fr')) (hg : w.grownBy w1 vF.ownBlock) :
    Mem K (w1.setCell ⟨b, 4, none⟩ vF') lo b most c Lc fr' d cp vC vF' ∧ Keep K lo w (w1.setCell ⟨b, 4, none⟩ vF') := by
  have hk1 : Keep K lo w w1 := Keep.of_grown hg fun r hr' => by
    obtain ⟨h1, cur, h2⟩ := owns_type h.rowF hr'
    exact ⟨h1, fun _ => ⟨_, _, _, h2, by simp [Kd.own]⟩⟩
  have hb1 : w1.heap[b]? = w.heap[b]? := hg.block b h.blt fun e => by
    obtain ⟨h1, cur, h2⟩ := owns_type h.rowF e.symm
    exact h.not_b hK h2 hK.sf rfl
  have hh1 := hb1.trans h.head
  have hoth : ∀ k, k ≠ b → (w1.setCell ⟨b, 4, none⟩ vF').heap[k]? = w1.heap[k]? := fun k hk => heap_setCell_other _ _ k _ hk
  refine ⟨⟨h.c1, h.cm, h.m6, h.len, h.wide, h.one, h.blo, ?_, ?_, fun j hj => ?_, h.inj, ?_⟩, hk1.trans (Keep.of_grown (grown_setCell w1 b 4 vF') fun r hr' => by cases hr'; exact ⟨h.blo, fun _ => ⟨_, _, _, hh1, by simp [Kd.own]⟩⟩)⟩
  · exact (head_set hh1 4 vF').trans (by simp)
  · refine owns_stay h.rowC fun k hk => ?_
    obtain ⟨h1, cur, h2⟩ := owns_type h.rowC hk
    refine (hoth k (h.not_b hK h2 hK.sc)).trans (hg.block k (Array.getElem?_eq_some_iff.1 h2).1 fun e => ?_)
    obtain ⟨_, cur', h3⟩ := owns_type h.rowF e.symm
    exact hK.cf (type_eq h2 h3)
  · obtain ⟨k1, cur', k2, k3⟩ := h.chunk j hj
    refine (h.chunk j hj).stay ((hoth _ (h.not_b hK k2 hK.sp)).trans (hg.block _ (Array.getElem?_eq_some_iff.1 k2).1 fun e => ?_))
    obtain ⟨_, cur', h3⟩ := owns_type h.rowF e.symm
    exact hK.pf (type_eq k2 h3)
  · refine owns_stay hr fun k hk => hoth k fun e => ?_
    obtain ⟨_, cur', h3⟩ := owns_type hr hk
    rw [e] at h3; exact hK.sf (type_eq hh1 h3)
theorem Mem.popF {A : Option Addr} {cap p : Nat} {fr' : List Nat} (h : Mem K w lo b most c Lc (fr' ++ [p]) d cp vC (.slice A (fr'.length + 1) cap)) (hK : K.Ok) :
    Mem K (w.setCell ⟨b, 4, none⟩ (.slice A fr'.length cap)) lo b most c Lc fr' d cp vC (.slice A fr'.length cap) ∧ Keep K lo w (w.setCell ⟨b, 4, none⟩ (.slice A fr'.length cap)) := by
  refine h.setF hK ?_ (World.grownBy.refl _ _)
  have hr := h.rowF
  refine ⟨by simp [frVals], .inr ?_⟩
  rcases hr.2 with ⟨hv, _⟩ | ⟨g, cap', cur, hv, hg, hgb, h1, h2, h3, h4⟩
  · cases hv
  · injection hv with e1 e2 e3
    subst e1; subst e3
    simp only [List.length_append, List.length_cons, List.length_nil] at h1 h4
    refine ⟨g, cap, cur, rfl, hg, hgb, by omega, h2, h3, ?_⟩
    have : (cur.toList.take ((fr'.length + (0 + 1)) * 1)).take (fr'.length * 1) = (frVals (fr' ++ [p])).take (fr'.length * 1) := by rw [h4]
    rw [List.take_take, Nat.min_eq_left (by omega)] at this
    rw [this]
    simp [frVals]

/-! ### one more place -/
theorem Mem.grow (h : Mem K w lo b most c Lc fr d cp vC vF) (hlt : Lc.length < most) {z : List Value} (hz : z.length = K.k) (hzo : ∀ u ∈ z, u.oneCell' = true) {vC' : Value} {g cap : Nat} {xs : List Value}
    (hb : w'.heap[b]? = some (.cells #[.int .i64 (most : Int), .int .i64 (c : Int), .int .i64 ((Lc.length + 1 : Nat) : Int), vC', vF] K.tS (0, 0)))
    (hC : w'.ownsRow lo K.tC 1 vC' (Lc.length / c + 1) ((List.range (Lc.length / c + 1)).map fun j => if j = Lc.length / c then .slice (some ⟨g, 0, none⟩) (Lc.length % c + 1) cap else .slice (some ⟨d j, 0, none⟩) c (cp j)))
    (hP : w'.ownsRow lo K.tP K.k (.slice (some ⟨g, 0, none⟩) (Lc.length % c + 1) cap) (Lc.length % c + 1) (xs ++ z))
    (hxs : ∀ i t, i < Lc.length % c → t < K.k → xs[i * K.k + t]? = (Lc.getD (Lc.length / c * c + i) [])[t]?)
    (hD : ∀ j, j < Lc.length / c → w'.heap[d j]? = w.heap[d j]? ∧ g ≠ d j)
    (hF : ∀ k, vF.ownBlock = some k → w'.heap[k]? = w.heap[k]?) :
    Mem K w' lo b most c (Lc ++ [z]) fr (fun j => if j = Lc.length / c then g else d j) (fun j => if j = Lc.length / c then cap else cp j) vC' vF := by
  have hc := h.c1
  have hl : (Lc ++ [z]).length = Lc.length + 1 := by simp
  have hxl : xs.length = Lc.length % c * K.k := by
    have := hP.1; rw [List.length_append, hz, Nat.add_mul] at this; omega
  have hsub : ∀ j, j < Lc.length / c → j < nch c Lc.length := fun j hj => (nch_lt hc).2 (by
    have h1 := Nat.mul_le_mul_right c (Nat.lt_iff_add_one_le.1 hj)
    have := at_div c Lc.length
    rw [Nat.add_mul] at h1; omega)
  refine ⟨hc, h.cm, h.m6, by omega, fun x hx => ?_, fun x hx => ?_, h.blo, by rw [hl]; exact hb, ?_, fun j hj => ?_, fun i j hi hj e => ?_, owns_stay h.rowF hF⟩
  · rcases List.mem_append.1 hx with hx | hx
    · exact h.wide x hx
    · simp at hx; subst hx; exact hz
  · rcases List.mem_append.1 hx with hx | hx
    · exact h.one x hx
    · simp at hx; subst hx; exact hzo
  · rw [hl, nch_succ hc]
    have e : (List.range (Lc.length / c + 1)).map (chunkVal c (Lc.length + 1) (fun j => if j = Lc.length / c then g else d j) fun j => if j = Lc.length / c then cap else cp j)
        = (List.range (Lc.length / c + 1)).map fun j => if j = Lc.length / c then .slice (some ⟨g, 0, none⟩) (Lc.length % c + 1) cap else .slice (some ⟨d j, 0, none⟩) c (cp j) := by
      refine List.map_congr_left fun j hj => ?_
      have hj := List.mem_range.1 hj
      unfold chunkVal
      by_cases hje : j = Lc.length / c
      · subst hje; simp [lch_end' c _ hc]
      · simp only [if_neg hje]; rw [lch_full' (by omega)]
    rw [e]; exact hC
  · rw [hl, nch_succ hc] at hj
    by_cases hje : j = Lc.length / c
    · subst hje
      simp only [if_true]
      rcases hP.2 with ⟨hv, _⟩ | ⟨g', cap', cur, hv, hlo, hgb, h1, h2, h3, h4⟩
      · cases hv
      · injection hv with e1 e2 e3
        injection e1 with e1; injection e1 with e1
        subst e1; subst e3
        refine ⟨hlo, cur, hgb, by rw [hl, lch_end' c _ hc]; exact h1, h2, h3, fun i t hi ht => ?_⟩
        rw [hl, lch_end' c _ hc] at hi
        have hidx : i * K.k + t < (Lc.length % c + 1) * K.k := by
          have := Nat.mul_le_mul_right K.k (show i + 1 ≤ Lc.length % c + 1 by omega)
          rw [Nat.add_mul] at this; omega
        have hg1 : cur[i * K.k + t]? = (xs ++ z)[i * K.k + t]? := by
          rw [← h4, List.getElem?_take, if_pos hidx, Array.getElem?_toList]
        rw [hg1]
        by_cases hil : i < Lc.length % c
        · have hidx2 : i * K.k + t < xs.length := by
            have := Nat.mul_le_mul_right K.k (show i + 1 ≤ Lc.length % c by omega)
            rw [Nat.add_mul] at this; omega
          rw [List.getElem?_append_left hidx2, hxs i t hil ht, List.getD_eq_getElem?_getD, List.getD_eq_getElem?_getD, List.getElem?_append_left (by have := at_div c Lc.length; omega)]
        · have hie : i = Lc.length % c := by omega
          subst hie
          rw [List.getElem?_append_right (by omega), hxl, Nat.add_sub_cancel_left, at_div, List.getD_eq_getElem?_getD, List.getElem?_append_right (Nat.le_refl _), Nat.sub_self]
          rfl
    · have hj' : j < Lc.length / c := by omega
      simp only [if_neg hje]
      obtain ⟨k1, cur', k2, k3, k4, k5, k6⟩ := h.chunk j (hsub j hj')
      refine ⟨k1, cur', (hD j hj').1.trans k2, by rw [hl, lch_full' hj']; rw [lch_full hj'] at k3; exact k3, k4, k5, fun i t hi ht => ?_⟩
      rw [hl, lch_full' hj'] at hi
      have hin : j * c + i < Lc.length := by
        have h1 := Nat.mul_le_mul_right c (Nat.lt_iff_add_one_le.1 hj')
        have := at_div c Lc.length
        rw [Nat.add_mul] at h1; omega
      rw [k6 i t (by rw [lch_full hj']; exact hi) ht, List.getD_eq_getElem?_getD, List.getD_eq_getElem?_getD, List.getElem?_append_left hin]
  · rw [hl, nch_succ hc] at hi hj
    by_cases hie : i = Lc.length / c
    · by_cases hje : j = Lc.length / c
      · omega
      · simp only [if_pos hie, if_neg hje] at e
        exact absurd e (hD j (by omega)).2
    · by_cases hje : j = Lc.length / c
      · simp only [if_pos hje, if_neg hie] at e
        exact absurd e.symm (hD i (by omega)).2
      · simp only [if_neg hje, if_neg hie] at e
        exact h.inj i j (hsub i (by omega)) (hsub j (by omega)) e
/-- the last chunk, as a row that is owned -/
theorem ChunkAt.owns {j g cap : Nat} (h : ChunkAt K w lo c Lc j g cap) (hw : ∀ x ∈ Lc, x.length = K.k) : ∃ xs, w.ownsRow lo K.tP K.k (.slice (some ⟨g, 0, none⟩) (lch c Lc.length j) cap) (lch c Lc.length j) xs ∧
    ∀ i t, i < lch c Lc.length j → t < K.k → xs[i * K.k + t]? = (Lc.getD (j * c + i) [])[t]? := by
  obtain ⟨h1, cur, h2, h3, h4, h5, h6⟩ := h
  have hle : lch c Lc.length j * K.k ≤ cur.size := by rw [h5]; exact Nat.mul_le_mul_right _ h3
  refine ⟨cur.toList.take (lch c Lc.length j * K.k), ⟨by rw [List.length_take]; simp only [Array.length_toList]; omega, .inr ⟨g, cap, cur, rfl, h1, h2, h3, h4, h5, rfl⟩⟩, fun i t hi ht => ?_⟩
  have hidx : i * K.k + t < lch c Lc.length j * K.k := by
    have := Nat.mul_le_mul_right K.k (show i + 1 ≤ lch c Lc.length j by omega)
    rw [Nat.add_mul] at this; omega
  rw [List.getElem?_take, if_pos hidx, Array.getElem?_toList]
  exact h6 i t hi ht
end
end Go.Proofs.Ytoopfoapkbjdkaa
