/-
  A vault as it lies in memory, and what stays when a row or a field of it turns. No function is walked here.
-/
import Derived.Test.YthpcjgfbngemiaaInsert
namespace Go.Proofs.Ythpcjgfbngemiaa
open Go.ChangeShapes Go.WideShapes Go.ChangeAt Go.RowKit
set_option linter.unusedVariables false
def benc (x : Int) : List Value := [.int .u8 x]
def ienc (x : Int) : List Value := [.int .i64 x]
def kenc (p : Int × Int × Int) : List Value := [.int .i64 p.1, .int .i64 p.2.1, .int .i64 p.2.2]
theorem benc_len (x : Int) : (benc x).length = 1 := rfl
theorem ienc_len (x : Int) : (ienc x).length = 1 := rfl
theorem kenc_len (x : Int × Int × Int) : (kenc x).length = 3 := rfl
theorem benc_one : ∀ x, ∀ v ∈ benc x, v.oneCell' = true := fun x v hv => by simp [benc] at hv; subst hv; rfl
theorem ienc_one : ∀ x, ∀ v ∈ ienc x, v.oneCell' = true := fun x v hv => by simp [ienc] at hv; subst hv; rfl
theorem kenc_one : ∀ x, ∀ v ∈ kenc x, v.oneCell' = true := fun x v hv => by simp [kenc] at hv; rcases hv with rfl | rfl | rfl <;> rfl
/-- a vault's fields -/
structure Vl where
  room : Nat
  bs : List Int
  bk : List (Int × Int × Int)
  fr : List Int
  gp : List (Int × Int)
  used : Nat
  packs : Nat
  moved : Nat
/-- its rows' slices -/
structure Hd where
  vB : Value
  vK : Value
  vF : Value
  vG : Value
def own (b : Nat) (h : Hd) (k : Nat) : Prop := k = b ∨ h.vB.ownBlock = some k ∨ h.vK.ownBlock = some k ∨ h.vF.ownBlock = some k ∨ h.vG.ownBlock = some k
structure VAt (w : World) (lo b : Nat) (h : Hd) (V : Vl) : Prop where
  blo : lo ≤ b
  head : w.heap[b]? = some (.cells #[.int .i64 (V.room : Int), h.vB, h.vK, h.vF, h.vG, .int .i64 (V.used : Int), .int .i64 (V.packs : Int), .int .i64 (V.moved : Int)] 56 (0, 0))
  rB : w.ownsRow lo 5 1 h.vB V.bs.length (rvals benc V.bs)
  rK : w.ownsRow lo 59 3 h.vK V.bk.length (rvals kenc V.bk)
  rF : w.ownsRow lo 3 1 h.vF V.fr.length (rvals ienc V.fr)
  rG : w.ownsRow lo 76 2 h.vG V.gp.length (rvals genc V.gp)
/-- what a call may have turned -/
structure Stp (b : Nat) (h h' : Hd) (w w' : World) : Prop where
  but : But (own b h) w w'
  new : ∀ k, own b h' k → own b h k ∨ w.heap.size ≤ k
theorem Stp.refl (b : Nat) (h : Hd) (w : World) : Stp b h h w w := ⟨But.refl _ _, fun k hk => .inl hk⟩
theorem Stp.trans {b : Nat} {h h1 h2 : Hd} {w w1 w2 : World} (s : Stp b h h1 w w1) (t : Stp b h1 h2 w1 w2) : Stp b h h2 w w2 :=
  ⟨⟨t.but.os.trans s.but.os, t.but.tape.trans s.but.tape, t.but.output.trans s.but.output, Nat.le_trans s.but.size t.but.size, fun k hk hn =>
    (t.but.block k (Nat.lt_of_lt_of_le hk s.but.size) (fun h1 => (s.new k h1).elim hn (fun h3 => by omega))).trans (s.but.block k hk hn)⟩,
   fun k hk => (t.new k hk).elim (fun h1 => s.new k h1) (fun h1 => .inr (Nat.le_trans s.but.size h1))⟩
theorem Stp.of_new {b : Nat} {h : Hd} {w w' : World} (hg : w.grownBy w' none) : Stp b h h w w' := ⟨But.of_new hg, fun k hk => .inl hk⟩
/-- nothing of a world that is older than the vault turns -/
theorem Stp.grown {b lo : Nat} {h h' : Hd} {w0 w w' : World} (s : Stp b h h' w w') (hg : w0.grownBy w none) (ho : ∀ k, own b h k → w0.heap.size ≤ k) : w0.grownBy w' none :=
  ⟨s.but.os.trans hg.os, s.but.tape.trans hg.tape, s.but.output.trans hg.output, Nat.le_trans hg.size s.but.size, fun k hk hr =>
    (s.but.block k (Nat.lt_of_lt_of_le hk hg.size) (fun h1 => by have := ho k h1; omega)).trans (hg.block k hk hr)⟩
section
variable {w w' w1 : World} {lo b : Nat} {h : Hd} {V : Vl}
theorem VAt.blt (x : VAt w lo b h V) : b < w.heap.size := (Array.getElem?_eq_some_iff.1 x.head).1
theorem VAt.own_lo (x : VAt w lo b h V) {k : Nat} (hk : own b h k) : lo ≤ k ∧ k < w.heap.size := by
  rcases hk with rfl | hk | hk | hk | hk
  · exact ⟨x.blo, x.blt⟩
  · exact x.rB.lt k hk
  · exact x.rK.lt k hk
  · exact x.rF.lt k hk
  · exact x.rG.lt k hk
theorem VAt.stay (x : VAt w lo b h V) (hs : ∀ k, own b h k → w'.heap[k]? = w.heap[k]?) : VAt w' lo b h V :=
  ⟨x.blo, (hs b (.inl rfl)).trans x.head, owns_stay x.rB fun k hk => hs k (.inr (.inl hk)), owns_stay x.rK fun k hk => hs k (.inr (.inr (.inl hk))), owns_stay x.rF fun k hk => hs k (.inr (.inr (.inr (.inl hk)))), owns_stay x.rG fun k hk => hs k (.inr (.inr (.inr (.inr hk))))⟩
theorem VAt.kept (x : VAt w lo b h V) (hg : w.grownBy w' none) : VAt w' lo b h V := x.stay fun k hk => hg.block k (x.own_lo hk).2 (by simp)
theorem VAt.free (x : VAt w lo b h V) (i : Nat) : w.frozen? ⟨b, i, none⟩ = false := frozen_of_head x.head i
theorem VAt.c0 (x : VAt w lo b h V) : w.cell? ⟨b, 0, none⟩ = some (.int .i64 (V.room : Int)) := by rw [cell_of_head x.head]; rfl
theorem VAt.c1 (x : VAt w lo b h V) : w.cell? ⟨b, 1, none⟩ = some (h.vB) := by rw [cell_of_head x.head]; rfl
theorem VAt.c2 (x : VAt w lo b h V) : w.cell? ⟨b, 2, none⟩ = some (h.vK) := by rw [cell_of_head x.head]; rfl
theorem VAt.c3 (x : VAt w lo b h V) : w.cell? ⟨b, 3, none⟩ = some (h.vF) := by rw [cell_of_head x.head]; rfl
theorem VAt.c4 (x : VAt w lo b h V) : w.cell? ⟨b, 4, none⟩ = some (h.vG) := by rw [cell_of_head x.head]; rfl
theorem VAt.c5 (x : VAt w lo b h V) : w.cell? ⟨b, 5, none⟩ = some (.int .i64 (V.used : Int)) := by rw [cell_of_head x.head]; rfl
theorem VAt.c6 (x : VAt w lo b h V) : w.cell? ⟨b, 6, none⟩ = some (.int .i64 (V.packs : Int)) := by rw [cell_of_head x.head]; rfl
theorem VAt.c7 (x : VAt w lo b h V) : w.cell? ⟨b, 7, none⟩ = some (.int .i64 (V.moved : Int)) := by rw [cell_of_head x.head]; rfl
theorem VAt.neB (x : VAt w lo b h V) {k : Nat} (hk : h.vB.ownBlock = some k) : k ≠ b := fun e => by
  obtain ⟨_, cur, h2⟩ := owns_type x.rB hk
  rw [e] at h2
  exact absurd (type_eq h2 x.head) (by decide)
theorem VAt.neK (x : VAt w lo b h V) {k : Nat} (hk : h.vK.ownBlock = some k) : k ≠ b := fun e => by
  obtain ⟨_, cur, h2⟩ := owns_type x.rK hk
  rw [e] at h2
  exact absurd (type_eq h2 x.head) (by decide)
theorem VAt.neF (x : VAt w lo b h V) {k : Nat} (hk : h.vF.ownBlock = some k) : k ≠ b := fun e => by
  obtain ⟨_, cur, h2⟩ := owns_type x.rF hk
  rw [e] at h2
  exact absurd (type_eq h2 x.head) (by decide)
theorem VAt.neG (x : VAt w lo b h V) {k : Nat} (hk : h.vG.ownBlock = some k) : k ≠ b := fun e => by
  obtain ⟨_, cur, h2⟩ := owns_type x.rG hk
  rw [e] at h2
  exact absurd (type_eq h2 x.head) (by decide)
theorem VAt.neBK (x : VAt w lo b h V) {k : Nat} (hk : h.vB.ownBlock = some k) : h.vK.ownBlock ≠ some k := fun e => by
  obtain ⟨_, cur, h2⟩ := owns_type x.rB hk
  obtain ⟨_, cur2, h3⟩ := owns_type x.rK e
  exact absurd (type_eq h2 h3) (by decide)
theorem VAt.neBF (x : VAt w lo b h V) {k : Nat} (hk : h.vB.ownBlock = some k) : h.vF.ownBlock ≠ some k := fun e => by
  obtain ⟨_, cur, h2⟩ := owns_type x.rB hk
  obtain ⟨_, cur2, h3⟩ := owns_type x.rF e
  exact absurd (type_eq h2 h3) (by decide)
theorem VAt.neBG (x : VAt w lo b h V) {k : Nat} (hk : h.vB.ownBlock = some k) : h.vG.ownBlock ≠ some k := fun e => by
  obtain ⟨_, cur, h2⟩ := owns_type x.rB hk
  obtain ⟨_, cur2, h3⟩ := owns_type x.rG e
  exact absurd (type_eq h2 h3) (by decide)
theorem VAt.neKB (x : VAt w lo b h V) {k : Nat} (hk : h.vK.ownBlock = some k) : h.vB.ownBlock ≠ some k := fun e => by
  obtain ⟨_, cur, h2⟩ := owns_type x.rK hk
  obtain ⟨_, cur2, h3⟩ := owns_type x.rB e
  exact absurd (type_eq h2 h3) (by decide)
theorem VAt.neKF (x : VAt w lo b h V) {k : Nat} (hk : h.vK.ownBlock = some k) : h.vF.ownBlock ≠ some k := fun e => by
  obtain ⟨_, cur, h2⟩ := owns_type x.rK hk
  obtain ⟨_, cur2, h3⟩ := owns_type x.rF e
  exact absurd (type_eq h2 h3) (by decide)
theorem VAt.neKG (x : VAt w lo b h V) {k : Nat} (hk : h.vK.ownBlock = some k) : h.vG.ownBlock ≠ some k := fun e => by
  obtain ⟨_, cur, h2⟩ := owns_type x.rK hk
  obtain ⟨_, cur2, h3⟩ := owns_type x.rG e
  exact absurd (type_eq h2 h3) (by decide)
theorem VAt.neFB (x : VAt w lo b h V) {k : Nat} (hk : h.vF.ownBlock = some k) : h.vB.ownBlock ≠ some k := fun e => by
  obtain ⟨_, cur, h2⟩ := owns_type x.rF hk
  obtain ⟨_, cur2, h3⟩ := owns_type x.rB e
  exact absurd (type_eq h2 h3) (by decide)
theorem VAt.neFK (x : VAt w lo b h V) {k : Nat} (hk : h.vF.ownBlock = some k) : h.vK.ownBlock ≠ some k := fun e => by
  obtain ⟨_, cur, h2⟩ := owns_type x.rF hk
  obtain ⟨_, cur2, h3⟩ := owns_type x.rK e
  exact absurd (type_eq h2 h3) (by decide)
theorem VAt.neFG (x : VAt w lo b h V) {k : Nat} (hk : h.vF.ownBlock = some k) : h.vG.ownBlock ≠ some k := fun e => by
  obtain ⟨_, cur, h2⟩ := owns_type x.rF hk
  obtain ⟨_, cur2, h3⟩ := owns_type x.rG e
  exact absurd (type_eq h2 h3) (by decide)
theorem VAt.neGB (x : VAt w lo b h V) {k : Nat} (hk : h.vG.ownBlock = some k) : h.vB.ownBlock ≠ some k := fun e => by
  obtain ⟨_, cur, h2⟩ := owns_type x.rG hk
  obtain ⟨_, cur2, h3⟩ := owns_type x.rB e
  exact absurd (type_eq h2 h3) (by decide)
theorem VAt.neGK (x : VAt w lo b h V) {k : Nat} (hk : h.vG.ownBlock = some k) : h.vK.ownBlock ≠ some k := fun e => by
  obtain ⟨_, cur, h2⟩ := owns_type x.rG hk
  obtain ⟨_, cur2, h3⟩ := owns_type x.rK e
  exact absurd (type_eq h2 h3) (by decide)
theorem VAt.neGF (x : VAt w lo b h V) {k : Nat} (hk : h.vG.ownBlock = some k) : h.vF.ownBlock ≠ some k := fun e => by
  obtain ⟨_, cur, h2⟩ := owns_type x.rG hk
  obtain ⟨_, cur2, h3⟩ := owns_type x.rF e
  exact absurd (type_eq h2 h3) (by decide)
/-- a row turns where it lies -/
theorem VAt.inB (x : VAt w lo b h V) (hg : w.grownBy w1 h.vB.ownBlock) {l : List (Int)} (hl : l.length = V.bs.length) (hr : w1.ownsRow lo 5 1 h.vB l.length (rvals benc l)) : VAt w1 lo b h { V with bs := l } ∧ Stp b h h w w1 := by
  have hb : ∀ k, own b h k → h.vB.ownBlock ≠ some k → w1.heap[k]? = w.heap[k]? := fun k hk hn => hg.block k (x.own_lo hk).2 (fun e => hn e.symm)
  refine ⟨⟨x.blo, (hb b (.inl rfl) fun e => x.neB e rfl).trans x.head, hr, owns_stay x.rK fun k hk => hb k (.inr (.inr (.inl hk))) (x.neKB hk), owns_stay x.rF fun k hk => hb k (.inr (.inr (.inr (.inl hk)))) (x.neFB hk), owns_stay x.rG fun k hk => hb k (.inr (.inr (.inr (.inr hk)))) (x.neGB hk)⟩, ⟨But.of_grown hg fun r hr => (.inr (.inl hr)), fun k hk => .inl hk⟩⟩
/-- a row turns, and its slice is stored -/
theorem VAt.setB (x : VAt w lo b h V) (hg : w.grownBy w1 h.vB.ownBlock) {l : List (Int)} {v : Value} (hr : w1.ownsRow lo 5 1 v l.length (rvals benc l)) (hf : h.vB.ownBlock = v.ownBlock ∨ ∀ k, v.ownBlock = some k → w.heap.size ≤ k) :
    VAt (w1.setCell ⟨b, 1, none⟩ v) lo b { h with vB := v } { V with bs := l } ∧ Stp b h { h with vB := v } w (w1.setCell ⟨b, 1, none⟩ v) := by
  have hb : ∀ k, own b h k → h.vB.ownBlock ≠ some k → w1.heap[k]? = w.heap[k]? := fun k hk hn => hg.block k (x.own_lo hk).2 (fun e => hn e.symm)
  have hh := (hb b (.inl rfl) fun e => x.neB e rfl).trans x.head
  have hvb : ∀ k, v.ownBlock = some k → k ≠ b := fun k hk e => by
    obtain ⟨_, cur, h2⟩ := owns_type hr hk
    rw [e] at h2
    exact absurd (type_eq h2 hh) (by decide)
  refine ⟨⟨x.blo, head_set hh 1 v, owns_stay hr fun k hk => heap_setCell_other _ _ _ _ (hvb k hk), owns_stay x.rK fun k hk => (heap_setCell_other _ _ _ _ (x.neK hk)).trans (hb k (.inr (.inr (.inl hk))) (x.neKB hk)), owns_stay x.rF fun k hk => (heap_setCell_other _ _ _ _ (x.neF hk)).trans (hb k (.inr (.inr (.inr (.inl hk)))) (x.neFB hk)), owns_stay x.rG fun k hk => (heap_setCell_other _ _ _ _ (x.neG hk)).trans (hb k (.inr (.inr (.inr (.inr hk)))) (x.neGB hk))⟩, ⟨(But.of_grown hg fun r hr => (.inr (.inl hr))).trans (But.of_set _ _ _ _ (.inl rfl)), fun k hk => ?_⟩⟩
  rcases hk with hk | hk | hk | hk | hk
  · exact .inl (.inl hk)
  · rcases hf with hf | hf
    · exact .inl (.inr (.inl (hf.trans hk)))
    · exact .inr (hf k hk)
  · exact .inl (.inr (.inr (.inl hk)))
  · exact .inl (.inr (.inr (.inr (.inl hk))))
  · exact .inl (.inr (.inr (.inr (.inr hk))))
/-- a row turns where it lies -/
theorem VAt.inK (x : VAt w lo b h V) (hg : w.grownBy w1 h.vK.ownBlock) {l : List (Int × Int × Int)} (hl : l.length = V.bk.length) (hr : w1.ownsRow lo 59 3 h.vK l.length (rvals kenc l)) : VAt w1 lo b h { V with bk := l } ∧ Stp b h h w w1 := by
  have hb : ∀ k, own b h k → h.vK.ownBlock ≠ some k → w1.heap[k]? = w.heap[k]? := fun k hk hn => hg.block k (x.own_lo hk).2 (fun e => hn e.symm)
  refine ⟨⟨x.blo, (hb b (.inl rfl) fun e => x.neK e rfl).trans x.head, owns_stay x.rB fun k hk => hb k (.inr (.inl hk)) (x.neBK hk), hr, owns_stay x.rF fun k hk => hb k (.inr (.inr (.inr (.inl hk)))) (x.neFK hk), owns_stay x.rG fun k hk => hb k (.inr (.inr (.inr (.inr hk)))) (x.neGK hk)⟩, ⟨But.of_grown hg fun r hr => (.inr (.inr (.inl hr))), fun k hk => .inl hk⟩⟩
/-- a row turns, and its slice is stored -/
theorem VAt.setK (x : VAt w lo b h V) (hg : w.grownBy w1 h.vK.ownBlock) {l : List (Int × Int × Int)} {v : Value} (hr : w1.ownsRow lo 59 3 v l.length (rvals kenc l)) (hf : h.vK.ownBlock = v.ownBlock ∨ ∀ k, v.ownBlock = some k → w.heap.size ≤ k) :
    VAt (w1.setCell ⟨b, 2, none⟩ v) lo b { h with vK := v } { V with bk := l } ∧ Stp b h { h with vK := v } w (w1.setCell ⟨b, 2, none⟩ v) := by
  have hb : ∀ k, own b h k → h.vK.ownBlock ≠ some k → w1.heap[k]? = w.heap[k]? := fun k hk hn => hg.block k (x.own_lo hk).2 (fun e => hn e.symm)
  have hh := (hb b (.inl rfl) fun e => x.neK e rfl).trans x.head
  have hvb : ∀ k, v.ownBlock = some k → k ≠ b := fun k hk e => by
    obtain ⟨_, cur, h2⟩ := owns_type hr hk
    rw [e] at h2
    exact absurd (type_eq h2 hh) (by decide)
  refine ⟨⟨x.blo, head_set hh 2 v, owns_stay x.rB fun k hk => (heap_setCell_other _ _ _ _ (x.neB hk)).trans (hb k (.inr (.inl hk)) (x.neBK hk)), owns_stay hr fun k hk => heap_setCell_other _ _ _ _ (hvb k hk), owns_stay x.rF fun k hk => (heap_setCell_other _ _ _ _ (x.neF hk)).trans (hb k (.inr (.inr (.inr (.inl hk)))) (x.neFK hk)), owns_stay x.rG fun k hk => (heap_setCell_other _ _ _ _ (x.neG hk)).trans (hb k (.inr (.inr (.inr (.inr hk)))) (x.neGK hk))⟩, ⟨(But.of_grown hg fun r hr => (.inr (.inr (.inl hr)))).trans (But.of_set _ _ _ _ (.inl rfl)), fun k hk => ?_⟩⟩
  rcases hk with hk | hk | hk | hk | hk
  · exact .inl (.inl hk)
  · exact .inl (.inr (.inl hk))
  · rcases hf with hf | hf
    · exact .inl (.inr (.inr (.inl (hf.trans hk))))
    · exact .inr (hf k hk)
  · exact .inl (.inr (.inr (.inr (.inl hk))))
  · exact .inl (.inr (.inr (.inr (.inr hk))))
/-- a row turns where it lies -/
theorem VAt.inF (x : VAt w lo b h V) (hg : w.grownBy w1 h.vF.ownBlock) {l : List (Int)} (hl : l.length = V.fr.length) (hr : w1.ownsRow lo 3 1 h.vF l.length (rvals ienc l)) : VAt w1 lo b h { V with fr := l } ∧ Stp b h h w w1 := by
  have hb : ∀ k, own b h k → h.vF.ownBlock ≠ some k → w1.heap[k]? = w.heap[k]? := fun k hk hn => hg.block k (x.own_lo hk).2 (fun e => hn e.symm)
  refine ⟨⟨x.blo, (hb b (.inl rfl) fun e => x.neF e rfl).trans x.head, owns_stay x.rB fun k hk => hb k (.inr (.inl hk)) (x.neBF hk), owns_stay x.rK fun k hk => hb k (.inr (.inr (.inl hk))) (x.neKF hk), hr, owns_stay x.rG fun k hk => hb k (.inr (.inr (.inr (.inr hk)))) (x.neGF hk)⟩, ⟨But.of_grown hg fun r hr => (.inr (.inr (.inr (.inl hr)))), fun k hk => .inl hk⟩⟩
/-- a row turns, and its slice is stored -/
theorem VAt.setF (x : VAt w lo b h V) (hg : w.grownBy w1 h.vF.ownBlock) {l : List (Int)} {v : Value} (hr : w1.ownsRow lo 3 1 v l.length (rvals ienc l)) (hf : h.vF.ownBlock = v.ownBlock ∨ ∀ k, v.ownBlock = some k → w.heap.size ≤ k) :
    VAt (w1.setCell ⟨b, 3, none⟩ v) lo b { h with vF := v } { V with fr := l } ∧ Stp b h { h with vF := v } w (w1.setCell ⟨b, 3, none⟩ v) := by
  have hb : ∀ k, own b h k → h.vF.ownBlock ≠ some k → w1.heap[k]? = w.heap[k]? := fun k hk hn => hg.block k (x.own_lo hk).2 (fun e => hn e.symm)
  have hh := (hb b (.inl rfl) fun e => x.neF e rfl).trans x.head
  have hvb : ∀ k, v.ownBlock = some k → k ≠ b := fun k hk e => by
    obtain ⟨_, cur, h2⟩ := owns_type hr hk
    rw [e] at h2
    exact absurd (type_eq h2 hh) (by decide)
  refine ⟨⟨x.blo, head_set hh 3 v, owns_stay x.rB fun k hk => (heap_setCell_other _ _ _ _ (x.neB hk)).trans (hb k (.inr (.inl hk)) (x.neBF hk)), owns_stay x.rK fun k hk => (heap_setCell_other _ _ _ _ (x.neK hk)).trans (hb k (.inr (.inr (.inl hk))) (x.neKF hk)), owns_stay hr fun k hk => heap_setCell_other _ _ _ _ (hvb k hk), owns_stay x.rG fun k hk => (heap_setCell_other _ _ _ _ (x.neG hk)).trans (hb k (.inr (.inr (.inr (.inr hk)))) (x.neGF hk))⟩, ⟨(But.of_grown hg fun r hr => (.inr (.inr (.inr (.inl hr))))).trans (But.of_set _ _ _ _ (.inl rfl)), fun k hk => ?_⟩⟩
  rcases hk with hk | hk | hk | hk | hk
  · exact .inl (.inl hk)
  · exact .inl (.inr (.inl hk))
  · exact .inl (.inr (.inr (.inl hk)))
  · rcases hf with hf | hf
    · exact .inl (.inr (.inr (.inr (.inl (hf.trans hk)))))
    · exact .inr (hf k hk)
  · exact .inl (.inr (.inr (.inr (.inr hk))))
/-- a row turns where it lies -/
theorem VAt.inG (x : VAt w lo b h V) (hg : w.grownBy w1 h.vG.ownBlock) {l : List (Int × Int)} (hl : l.length = V.gp.length) (hr : w1.ownsRow lo 76 2 h.vG l.length (rvals genc l)) : VAt w1 lo b h { V with gp := l } ∧ Stp b h h w w1 := by
  have hb : ∀ k, own b h k → h.vG.ownBlock ≠ some k → w1.heap[k]? = w.heap[k]? := fun k hk hn => hg.block k (x.own_lo hk).2 (fun e => hn e.symm)
  refine ⟨⟨x.blo, (hb b (.inl rfl) fun e => x.neG e rfl).trans x.head, owns_stay x.rB fun k hk => hb k (.inr (.inl hk)) (x.neBG hk), owns_stay x.rK fun k hk => hb k (.inr (.inr (.inl hk))) (x.neKG hk), owns_stay x.rF fun k hk => hb k (.inr (.inr (.inr (.inl hk)))) (x.neFG hk), hr⟩, ⟨But.of_grown hg fun r hr => (.inr (.inr (.inr (.inr hr)))), fun k hk => .inl hk⟩⟩
/-- a row turns, and its slice is stored -/
theorem VAt.setG (x : VAt w lo b h V) (hg : w.grownBy w1 h.vG.ownBlock) {l : List (Int × Int)} {v : Value} (hr : w1.ownsRow lo 76 2 v l.length (rvals genc l)) (hf : h.vG.ownBlock = v.ownBlock ∨ ∀ k, v.ownBlock = some k → w.heap.size ≤ k) :
    VAt (w1.setCell ⟨b, 4, none⟩ v) lo b { h with vG := v } { V with gp := l } ∧ Stp b h { h with vG := v } w (w1.setCell ⟨b, 4, none⟩ v) := by
  have hb : ∀ k, own b h k → h.vG.ownBlock ≠ some k → w1.heap[k]? = w.heap[k]? := fun k hk hn => hg.block k (x.own_lo hk).2 (fun e => hn e.symm)
  have hh := (hb b (.inl rfl) fun e => x.neG e rfl).trans x.head
  have hvb : ∀ k, v.ownBlock = some k → k ≠ b := fun k hk e => by
    obtain ⟨_, cur, h2⟩ := owns_type hr hk
    rw [e] at h2
    exact absurd (type_eq h2 hh) (by decide)
  refine ⟨⟨x.blo, head_set hh 4 v, owns_stay x.rB fun k hk => (heap_setCell_other _ _ _ _ (x.neB hk)).trans (hb k (.inr (.inl hk)) (x.neBG hk)), owns_stay x.rK fun k hk => (heap_setCell_other _ _ _ _ (x.neK hk)).trans (hb k (.inr (.inr (.inl hk))) (x.neKG hk)), owns_stay x.rF fun k hk => (heap_setCell_other _ _ _ _ (x.neF hk)).trans (hb k (.inr (.inr (.inr (.inl hk)))) (x.neFG hk)), owns_stay hr fun k hk => heap_setCell_other _ _ _ _ (hvb k hk)⟩, ⟨(But.of_grown hg fun r hr => (.inr (.inr (.inr (.inr hr))))).trans (But.of_set _ _ _ _ (.inl rfl)), fun k hk => ?_⟩⟩
  rcases hk with hk | hk | hk | hk | hk
  · exact .inl (.inl hk)
  · exact .inl (.inr (.inl hk))
  · exact .inl (.inr (.inr (.inl hk)))
  · exact .inl (.inr (.inr (.inr (.inl hk))))
  · rcases hf with hf | hf
    · exact .inl (.inr (.inr (.inr (.inr (hf.trans hk)))))
    · exact .inr (hf k hk)
theorem VAt.used' (x : VAt w lo b h V) (n : Nat) : VAt (w.setCell ⟨b, 5, none⟩ (.int .i64 (n : Int))) lo b h { V with used := n } ∧ Stp b h h w (w.setCell ⟨b, 5, none⟩ (.int .i64 (n : Int))) := by
  exact ⟨⟨x.blo, head_set x.head 5 _, owns_stay x.rB fun k hk => heap_setCell_other _ _ _ _ (x.neB hk), owns_stay x.rK fun k hk => heap_setCell_other _ _ _ _ (x.neK hk), owns_stay x.rF fun k hk => heap_setCell_other _ _ _ _ (x.neF hk), owns_stay x.rG fun k hk => heap_setCell_other _ _ _ _ (x.neG hk)⟩, ⟨But.of_set _ _ _ _ (.inl rfl), fun k hk => .inl hk⟩⟩
theorem VAt.packs' (x : VAt w lo b h V) (n : Nat) : VAt (w.setCell ⟨b, 6, none⟩ (.int .i64 (n : Int))) lo b h { V with packs := n } ∧ Stp b h h w (w.setCell ⟨b, 6, none⟩ (.int .i64 (n : Int))) := by
  exact ⟨⟨x.blo, head_set x.head 6 _, owns_stay x.rB fun k hk => heap_setCell_other _ _ _ _ (x.neB hk), owns_stay x.rK fun k hk => heap_setCell_other _ _ _ _ (x.neK hk), owns_stay x.rF fun k hk => heap_setCell_other _ _ _ _ (x.neF hk), owns_stay x.rG fun k hk => heap_setCell_other _ _ _ _ (x.neG hk)⟩, ⟨But.of_set _ _ _ _ (.inl rfl), fun k hk => .inl hk⟩⟩
theorem VAt.moved' (x : VAt w lo b h V) (n : Nat) : VAt (w.setCell ⟨b, 7, none⟩ (.int .i64 (n : Int))) lo b h { V with moved := n } ∧ Stp b h h w (w.setCell ⟨b, 7, none⟩ (.int .i64 (n : Int))) := by
  exact ⟨⟨x.blo, head_set x.head 7 _, owns_stay x.rB fun k hk => heap_setCell_other _ _ _ _ (x.neB hk), owns_stay x.rK fun k hk => heap_setCell_other _ _ _ _ (x.neK hk), owns_stay x.rF fun k hk => heap_setCell_other _ _ _ _ (x.neF hk), owns_stay x.rG fun k hk => heap_setCell_other _ _ _ _ (x.neG hk)⟩, ⟨But.of_set _ _ _ _ (.inl rfl), fun k hk => .inl hk⟩⟩
end
end Go.Proofs.Ythpcjgfbngemiaa
