/-
  A state that the program works on: a box of twenty-one cells, and four rows of its own.
  What the program asks of pages and of the state that it works on; keys that leave rows.
  Keys leave rows, stand on top of the stack; the bottom is taken.
-/
import Derived.Test.YtifenpmkbnohhaaG10
namespace Go.Proofs.Ytifenpmkbnohhaa
open Go.RowKit
open Go.Proofs.StackM
set_option linter.unusedVariables false
def Ne2 (A B : Option Addr) : Prop := ∀ a b, A = some a → B = some b → a.block ≠ b.block
theorem Ne2.symm {A B : Option Addr} (h : Ne2 A B) : Ne2 B A := fun a b ha hb e => h b a hb ha e.symm
abbrev ob (A : Option Addr) : Option Nat := (Value.slice A 0 0).ownBlock
theorem ob_some {A : Option Addr} {n c k : Nat} (h : (Value.slice A n c).ownBlock = some k) : ∃ a, A = some a ∧ a.block = k := by
  cases A with
  | none => cases h
  | some a => exact ⟨a, rfl, by injection h⟩
theorem ob_eq (A : Option Addr) (n c : Nat) : (Value.slice A n c).ownBlock = ob A := by cases A <;> rfl
/-- a new row lies where the elder one lay, or in a block of its own -/
def Fr2 (w : World) (A A' : Option Addr) : Prop := ∀ a, A' = some a → (∃ a0, A = some a0 ∧ a0.block = a.block) ∨ w.heap.size ≤ a.block
theorem Fr2.same (w : World) (A : Option Addr) : Fr2 w A A := fun a e => .inl ⟨a, e, rfl⟩
/-- the four rows -/
structure WR (lo : Nat) (w : World) (s : St) (r : R3) (A : Option Addr) (c : Nat) (ev : List Int) : Prop where
  pg : w.ownsRow lo 59 4 (.slice r.a1 s.pg.length r.c1) s.pg.length (pvals s.pg)
  qu : w.ownsRow lo 27 1 (.slice r.a2 s.qu.length r.c2) s.qu.length (uvals s.qu)
  gh : w.ownsRow lo 27 1 (.slice r.a3 s.gh.length r.c3) s.gh.length (uvals s.gh)
  ev : w.ownsRow lo 27 1 (.slice A ev.length c) ev.length (uvals ev)
  qg : Ne2 r.a2 r.a3
  qe : Ne2 r.a2 A
  ge : Ne2 r.a3 A
/-- the box, and the rows -/
structure WK (lo : Nat) (w : World) (B : Nat) (s : St) (r : R3) (A : Option Addr) (c : Nat) (ev : List Int) : Prop where
  box : w.heap[B]? = some (.cells (spA s r A ev.length c) 68 (0, 0))
  hlo : lo ≤ B
  rows : WR lo w s r A c ev
section
variable {lo B c : Nat} {w w' : World} {s : St} {r : R3} {A : Option Addr} {ev : List Int}
theorem owns_grown {e sz n : Nat} {xs : List Value} {A0 : Option Addr} {c0 : Nat} {row : Option Nat} (h : w.ownsRow lo e sz (.slice A0 n c0) n xs) (hg : w.grownBy w' row) (hne : ∀ a, A0 = some a → some a.block ≠ row) : w'.ownsRow lo e sz (.slice A0 n c0) n xs :=
  owns_stay h fun k hk => by
    obtain ⟨a, rfl, rfl⟩ := ob_some hk
    exact hg.block a.block (h.lt _ rfl).2 (hne a rfl)
theorem owns_ne_type {e e' sz sz' n n' : Nat} {xs xs' : List Value} {A0 A1 : Option Addr} {c0 c1 : Nat} (h : w.ownsRow lo e sz (.slice A0 n c0) n xs) (h' : w.ownsRow lo e' sz' (.slice A1 n' c1) n' xs') (hne : e ≠ e') : ∀ a, A0 = some a → some a.block ≠ ob A1 := by
  rintro a rfl e1
  obtain ⟨b, rfl, e2⟩ := ob_some e1.symm
  obtain ⟨_, cur, hc⟩ := owns_type h (k := a.block) rfl
  obtain ⟨_, cur', hc'⟩ := owns_type h' (k := b.block) rfl
  rw [e2] at hc'
  exact hne (type_eq hc hc')
theorem ne_row {A0 A1 : Option Addr} (h : Ne2 A0 A1) : ∀ a, A0 = some a → some a.block ≠ ob A1 := by
  rintro a rfl e1
  obtain ⟨b, rfl, e2⟩ := ob_some e1.symm
  exact h a b rfl rfl e2.symm
theorem box_row {e sz n : Nat} {xs : List Value} {A0 : Option Addr} {c0 : Nat} {cs : Array Value} (hb : w.heap[B]? = some (.cells cs 68 (0, 0))) (h : w.ownsRow lo e sz (.slice A0 n c0) n xs) (hne : e ≠ 68) : ∀ a, A0 = some a → a.block ≠ B := by
  rintro a rfl rfl
  obtain ⟨_, cur, hc⟩ := owns_type h (k := a.block) rfl
  exact hne (type_eq hc hb)
theorem box_grown {e sz n : Nat} {xs : List Value} {A0 : Option Addr} {c0 : Nat} {cs : Array Value} (hb : w.heap[B]? = some (.cells cs 68 (0, 0))) (h : w.ownsRow lo e sz (.slice A0 n c0) n xs) (hne : e ≠ 68) (hg : w.grownBy w' (ob A0)) : w'.heap[B]? = some (.cells cs 68 (0, 0)) := by
  rw [hg.block B (Array.getElem?_eq_some_iff.1 hb).1 (fun e1 => ?_)]
  · exact hb
  · obtain ⟨a, rfl, e2⟩ := ob_some e1.symm
    exact box_row hb h hne a rfl e2
theorem WR.kept (h : WR lo w s r A c ev) (hb : Below w.heap.size w w') : WR lo w' s r A c ev := ⟨own_below h.pg hb, own_below h.qu hb, own_below h.gh hb, own_below h.ev hb, h.qg, h.qe, h.ge⟩
theorem WK.lt (h : WK lo w B s r A c ev) : B < w.heap.size := (Array.getElem?_eq_some_iff.1 h.box).1
theorem WK.kept (h : WK lo w B s r A c ev) (hb : Below w.heap.size w w') : WK lo w' B s r A c ev := ⟨by rw [hb.block B h.lt]; exact h.box, h.hlo, h.rows.kept hb⟩
theorem owns_set {e sz n : Nat} {xs : List Value} {A0 : Option Addr} {c0 : Nat} {cs : Array Value} (hb : w.heap[B]? = some (.cells cs 68 (0, 0))) (h : w.ownsRow lo e sz (.slice A0 n c0) n xs) (hne : e ≠ 68) (k : Nat) (v : Value) : (w.setCell ⟨B, k, none⟩ v).ownsRow lo e sz (.slice A0 n c0) n xs :=
  owns_grown h (grown_setCell w B k v) (fun a e1 e2 => box_row hb h hne a e1 (by injection e2))
theorem WR.set {cs : Array Value} (hb : w.heap[B]? = some (.cells cs 68 (0, 0))) (h : WR lo w s r A c ev) (k : Nat) (v : Value) : WR lo (w.setCell ⟨B, k, none⟩ v) s r A c ev :=
  ⟨owns_set hb h.pg (by decide) k v, owns_set hb h.qu (by decide) k v, owns_set hb h.gh (by decide) k v, owns_set hb h.ev (by decide) k v, h.qg, h.qe, h.ge⟩
theorem box_set {cs : Array Value} (hb : w.heap[B]? = some (.cells cs 68 (0, 0))) (k : Nat) (v : Value) : (w.setCell ⟨B, k, none⟩ v).heap[B]? = some (.cells (cs.setIfInBounds k v) 68 (0, 0)) := by
  simp only [World.setCell, Array.getElem?_modify, ↓reduceIte, hb, Option.map_some]
  rfl
theorem ne2_to {A0 A' A1 : Option Addr} {e sz n : Nat} {xs : List Value} {c1 : Nat} (h : Ne2 A0 A1) (h1 : w.ownsRow lo e sz (.slice A1 n c1) n xs) (hf : Fr2 w A0 A') : Ne2 A' A1 := by
  intro a b ea eb
  rcases hf a ea with ⟨a0, e0, e1⟩ | h2
  · rw [← e1]; exact h a0 b e0 eb
  · subst eb
    have := (h1.lt b.block rfl).2
    omega
theorem WR.pgTo (h : WR lo w s r A c ev) (hg : w.grownBy w' (ob r.a1)) {l : List Pg} {A' : Option Addr} {c' : Nat} (ho : w'.ownsRow lo 59 4 (.slice A' l.length c') l.length (pvals l)) : WR lo w' { s with pg := l } { r with a1 := A', c1 := c' } A c ev :=
  ⟨ho, owns_grown h.qu hg (owns_ne_type h.qu h.pg (by decide)), owns_grown h.gh hg (owns_ne_type h.gh h.pg (by decide)), owns_grown h.ev hg (owns_ne_type h.ev h.pg (by decide)), h.qg, h.qe, h.ge⟩
theorem WR.quTo (h : WR lo w s r A c ev) (hg : w.grownBy w' (ob r.a2)) {l : List Int} {A' : Option Addr} {c' : Nat} (ho : w'.ownsRow lo 27 1 (.slice A' l.length c') l.length (uvals l)) (hf : Fr2 w r.a2 A') : WR lo w' { s with qu := l } { r with a2 := A', c2 := c' } A c ev :=
  ⟨owns_grown h.pg hg (owns_ne_type h.pg h.qu (by decide)), ho, owns_grown h.gh hg (ne_row h.qg.symm), owns_grown h.ev hg (ne_row h.qe.symm), ne2_to h.qg h.gh hf, ne2_to h.qe h.ev hf, h.ge⟩
theorem WR.ghTo (h : WR lo w s r A c ev) (hg : w.grownBy w' (ob r.a3)) {l : List Int} {A' : Option Addr} {c' : Nat} (ho : w'.ownsRow lo 27 1 (.slice A' l.length c') l.length (uvals l)) (hf : Fr2 w r.a3 A') : WR lo w' { s with gh := l } { r with a3 := A', c3 := c' } A c ev :=
  ⟨owns_grown h.pg hg (owns_ne_type h.pg h.gh (by decide)), owns_grown h.qu hg (ne_row h.qg), ho, owns_grown h.ev hg (ne_row h.ge.symm), (ne2_to h.qg.symm h.qu hf).symm, h.qe, ne2_to h.ge h.ev hf⟩
theorem WR.evTo (h : WR lo w s r A c ev) (hg : w.grownBy w' (ob A)) {l : List Int} {A' : Option Addr} {c' : Nat} (ho : w'.ownsRow lo 27 1 (.slice A' l.length c') l.length (uvals l)) (hf : Fr2 w A A') : WR lo w' s r A' c' l :=
  ⟨owns_grown h.pg hg (owns_ne_type h.pg h.ev (by decide)), owns_grown h.qu hg (ne_row h.qe), owns_grown h.gh hg (ne_row h.ge), ho, h.qg, (ne2_to h.qe.symm h.qu hf).symm, (ne2_to h.ge.symm h.gh hf).symm⟩
/-- one cell of the box, and one row -/
theorem WK.pgTo (h : WK lo w B s r A c ev) (hg : w.grownBy w' (ob r.a1)) {l : List Pg} {A' : Option Addr} {c' n : Nat} (ho : w'.ownsRow lo 59 4 (.slice A' l.length c') l.length (pvals l)) (hn : n = l.length) : WK lo (w'.setCell ⟨B, 5, none⟩ (.slice A' n c')) B { s with pg := l } { r with a1 := A', c1 := c' } A c ev := by
  subst hn
  have hb := box_grown h.box h.rows.pg (by decide) hg
  exact ⟨box_set hb 5 _, h.hlo, (h.rows.pgTo hg ho).set hb 5 _⟩
theorem WK.quTo (h : WK lo w B s r A c ev) (hg : w.grownBy w' (ob r.a2)) {l : List Int} {A' : Option Addr} {c' n : Nat} (ho : w'.ownsRow lo 27 1 (.slice A' l.length c') l.length (uvals l)) (hf : Fr2 w r.a2 A') (hn : n = l.length) : WK lo (w'.setCell ⟨B, 6, none⟩ (.slice A' n c')) B { s with qu := l } { r with a2 := A', c2 := c' } A c ev := by
  subst hn
  have hb := box_grown h.box h.rows.qu (by decide) hg
  exact ⟨box_set hb 6 _, h.hlo, (h.rows.quTo hg ho hf).set hb 6 _⟩
theorem WK.ghTo (h : WK lo w B s r A c ev) (hg : w.grownBy w' (ob r.a3)) {l : List Int} {A' : Option Addr} {c' n : Nat} (ho : w'.ownsRow lo 27 1 (.slice A' l.length c') l.length (uvals l)) (hf : Fr2 w r.a3 A') (hn : n = l.length) : WK lo (w'.setCell ⟨B, 7, none⟩ (.slice A' n c')) B { s with gh := l } { r with a3 := A', c3 := c' } A c ev := by
  subst hn
  have hb := box_grown h.box h.rows.gh (by decide) hg
  exact ⟨box_set hb 7 _, h.hlo, (h.rows.ghTo hg ho hf).set hb 7 _⟩
theorem WK.evTo (h : WK lo w B s r A c ev) (hg : w.grownBy w' (ob A)) {l : List Int} {A' : Option Addr} {c' n : Nat} (ho : w'.ownsRow lo 27 1 (.slice A' l.length c') l.length (uvals l)) (hf : Fr2 w A A') (hn : n = l.length) : WK lo (w'.setCell ⟨B, 20, none⟩ (.slice A' n c')) B s r A' c' l := by
  subst hn
  have hb := box_grown h.box h.rows.ev (by decide) hg
  exact ⟨box_set hb 20 _, h.hlo, (h.rows.evTo hg ho hf).set hb 20 _⟩
theorem WK.numTo (h : WK lo w B s r A c ev) (k : Nat) (v : Value) (s' : St) (he : (spA s r A ev.length c).setIfInBounds k v = spA s' r A ev.length c) (h1 : s'.pg = s.pg) (h2 : s'.qu = s.qu) (h3 : s'.gh = s.gh) : WK lo (w.setCell ⟨B, k, none⟩ v) B s' r A c ev := by
  refine ⟨by rw [box_set h.box, he], h.hlo, ?_⟩
  have hr := h.rows.set h.box k v
  exact ⟨by rw [h1]; exact hr.pg, by rw [h2]; exact hr.qu, by rw [h3]; exact hr.gh, hr.ev, hr.qg, hr.qe, hr.ge⟩
theorem WK.ct10 (h : WK lo w B s r A c ev) (n : Int) : WK lo (w.setCell ⟨B, 10, none⟩ (.int .u64 n)) B { s with ct := { s.ct with hi := n } } r A c ev := h.numTo 10 _ _ rfl rfl rfl rfl
theorem WK.ct11 (h : WK lo w B s r A c ev) (n : Int) : WK lo (w.setCell ⟨B, 11, none⟩ (.int .u64 n)) B { s with ct := { s.ct with mi := n } } r A c ev := h.numTo 11 _ _ rfl rfl rfl rfl
theorem WK.ct12 (h : WK lo w B s r A c ev) (n : Int) : WK lo (w.setCell ⟨B, 12, none⟩ (.int .u64 n)) B { s with ct := { s.ct with ra := n } } r A c ev := h.numTo 12 _ _ rfl rfl rfl rfl
theorem WK.ct13 (h : WK lo w B s r A c ev) (n : Int) : WK lo (w.setCell ⟨B, 13, none⟩ (.int .u64 n)) B { s with ct := { s.ct with lo := n } } r A c ev := h.numTo 13 _ _ rfl rfl rfl rfl
theorem WK.ct14 (h : WK lo w B s r A c ev) (n : Int) : WK lo (w.setCell ⟨B, 14, none⟩ (.int .u64 n)) B { s with ct := { s.ct with pr := n } } r A c ev := h.numTo 14 _ _ rfl rfl rfl rfl
theorem WK.ct15 (h : WK lo w B s r A c ev) (n : Int) : WK lo (w.setCell ⟨B, 15, none⟩ (.int .u64 n)) B { s with ct := { s.ct with ev := n } } r A c ev := h.numTo 15 _ _ rfl rfl rfl rfl
theorem WK.ct16 (h : WK lo w B s r A c ev) (n : Int) : WK lo (w.setCell ⟨B, 16, none⟩ (.int .u64 n)) B { s with ct := { s.ct with fo := n } } r A c ev := h.numTo 16 _ _ rfl rfl rfl rfl
theorem WK.at0 (h : WK lo w B s r A c ev) : w.cell? ⟨B, 0, none⟩ = some (.int .i64 s.cf.p) := by rw [cell_of_head h.box]; rfl
theorem WK.at1 (h : WK lo w B s r A c ev) : w.cell? ⟨B, 1, none⟩ = some (.int .i64 s.cf.c) := by rw [cell_of_head h.box]; rfl
theorem WK.at2 (h : WK lo w B s r A c ev) : w.cell? ⟨B, 2, none⟩ = some (.int .i64 s.cf.q) := by rw [cell_of_head h.box]; rfl
theorem WK.at3 (h : WK lo w B s r A c ev) : w.cell? ⟨B, 3, none⟩ = some (.int .i64 s.cf.g) := by rw [cell_of_head h.box]; rfl
theorem WK.at4 (h : WK lo w B s r A c ev) : w.cell? ⟨B, 4, none⟩ = some (.int .i64 s.tg) := by rw [cell_of_head h.box]; rfl
theorem WK.at5 (h : WK lo w B s r A c ev) : w.cell? ⟨B, 5, none⟩ = some (.slice r.a1 s.pg.length r.c1) := by rw [cell_of_head h.box]; rfl
theorem WK.at6 (h : WK lo w B s r A c ev) : w.cell? ⟨B, 6, none⟩ = some (.slice r.a2 s.qu.length r.c2) := by rw [cell_of_head h.box]; rfl
theorem WK.at7 (h : WK lo w B s r A c ev) : w.cell? ⟨B, 7, none⟩ = some (.slice r.a3 s.gh.length r.c3) := by rw [cell_of_head h.box]; rfl
theorem WK.at8 (h : WK lo w B s r A c ev) : w.cell? ⟨B, 8, none⟩ = some (.int .i64 s.co) := by rw [cell_of_head h.box]; rfl
theorem WK.at9 (h : WK lo w B s r A c ev) : w.cell? ⟨B, 9, none⟩ = some (.int .i64 s.te) := by rw [cell_of_head h.box]; rfl
theorem WK.at10 (h : WK lo w B s r A c ev) : w.cell? ⟨B, 10, none⟩ = some (.int .u64 s.ct.hi) := by rw [cell_of_head h.box]; rfl
theorem WK.at11 (h : WK lo w B s r A c ev) : w.cell? ⟨B, 11, none⟩ = some (.int .u64 s.ct.mi) := by rw [cell_of_head h.box]; rfl
theorem WK.at12 (h : WK lo w B s r A c ev) : w.cell? ⟨B, 12, none⟩ = some (.int .u64 s.ct.ra) := by rw [cell_of_head h.box]; rfl
theorem WK.at13 (h : WK lo w B s r A c ev) : w.cell? ⟨B, 13, none⟩ = some (.int .u64 s.ct.lo) := by rw [cell_of_head h.box]; rfl
theorem WK.at14 (h : WK lo w B s r A c ev) : w.cell? ⟨B, 14, none⟩ = some (.int .u64 s.ct.pr) := by rw [cell_of_head h.box]; rfl
theorem WK.at15 (h : WK lo w B s r A c ev) : w.cell? ⟨B, 15, none⟩ = some (.int .u64 s.ct.ev) := by rw [cell_of_head h.box]; rfl
theorem WK.at16 (h : WK lo w B s r A c ev) : w.cell? ⟨B, 16, none⟩ = some (.int .u64 s.ct.fo) := by rw [cell_of_head h.box]; rfl
theorem WK.at17 (h : WK lo w B s r A c ev) : w.cell? ⟨B, 17, none⟩ = some (.int .u64 s.ct.cl) := by rw [cell_of_head h.box]; rfl
theorem WK.at18 (h : WK lo w B s r A c ev) : w.cell? ⟨B, 18, none⟩ = some (.int .u64 s.ct.en) := by rw [cell_of_head h.box]; rfl
theorem WK.at19 (h : WK lo w B s r A c ev) : w.cell? ⟨B, 19, none⟩ = some (.int .u64 s.ct.st) := by rw [cell_of_head h.box]; rfl
theorem WK.at20 (h : WK lo w B s r A c ev) : w.cell? ⟨B, 20, none⟩ = some (.slice A ev.length c) := by rw [cell_of_head h.box]; rfl
theorem WK.free (h : WK lo w B s r A c ev) (k : Nat) : w.frozen? ⟨B, k, none⟩ = false := frozen_of_head h.box k
theorem WK.low (h : WK lo w B s r A c ev) : lo ≤ w.heap.size := Nat.le_trans h.hlo (Nat.le_of_lt h.lt)
/-- what goes on above a mark stays above it -/
theorem grown_lo {e sz n : Nat} {xs : List Value} {A0 : Option Addr} {c0 : Nat} (h : w.ownsRow lo e sz (.slice A0 n c0) n xs) (hg : w.grownBy w' (ob A0)) (hl : lo ≤ w.heap.size) : Below lo w w' := grown_below h (by rw [ob_eq]; exact hg) hl
/-- what a call of a method leaves -/
def WP (lo : Nat) (w : World) (B : Nat) (s : St) (ev : List Int) (w' : World) : Prop := ∃ r A c, WK lo w' B s r A c ev ∧ Below lo w w'
theorem WK.to {w0 : World} (h : WK lo w B s r A c ev) (hb : Below lo w0 w) : WP lo w0 B s ev w := ⟨r, A, c, h, hb⟩
theorem WP.trans {w1 w2 : World} {s' : St} {ev' : List Int} (h : Below lo w w1) (h2 : WP lo w1 B s' ev' w2) : WP lo w B s' ev' w2 := by
  obtain ⟨r, A, c, h3, h4⟩ := h2
  exact ⟨r, A, c, h3, h.trans h4⟩
end
end Go.Proofs.Ytifenpmkbnohhaa
namespace Go.Proofs.Ytifenpmkbnohhaa
open Go.RowKit
open Go.Proofs.StackM
set_option linter.unusedVariables false
set_option maxHeartbeats 1000000 in
set_option maxRecDepth 100000 in
theorem count_at (l : List Pg) (d : Int) (A : Option Addr) (n cap : Nat) (hn : n = l.length) (hb : n ≤ 1000000) (w : World) (hr : PRow w A cap l) :
    Calls Try.prog 62 #[.slice A n cap, .int .i64 d] w fun e w' => e = .returned (.int .i64 (many l d : Int)) ∧ Below w.heap.size w w' := by
  obtain ⟨r, hrr⟩ : ∃ r : Int, r = (many l d : Int) := ⟨_, rfl⟩
  rw [← hrr]
  have HR := Lib.hid hrr
  have HN := Lib.hid hn
  have HP := Lib.hid hr
  clear hrr hn hr
  go_enter Try.func62, Try.ntmps62
  go_wp2
  go_loopw [5, 7, 10] (fun c _ i wr => ∃ m q : Nat, m ≤ n ∧ q ≤ m ∧ i = .int .i64 (m : Int) ∧ c = .int .i64 (q : Int) ∧ Hid (Below w.heap.size w wr) ∧ Hid (q = many (l.take m) d)) (fun _ _ i _ => n - (intOf i).toNat)
  case atStart => exact ⟨0, 0, by omega, by omega, by go_num, by go_num, Lib.hid (Below.refl _ _), Lib.hid (by simp [many])⟩
  case round =>
    obtain ⟨m, q, hm, hq, rfl, rfl, HB, HK⟩ := hrel
    by_cases hlt : m < n
    · have hml : m < l.length := by have := HN.out; omega
      obtain ⟨b, off, rfl, hc⟩ := (PRow.kept HP.out HB.out).at hml
      obtain ⟨c0, c1, c2, c3⟩ := hc m hml
      obtain ⟨y, hy⟩ : ∃ y, y = l[m].kind := ⟨_, rfl⟩
      rw [← hy] at c1
      generalize l[m].key = y0 at c0
      generalize l[m].test = y2 at c2
      generalize l[m].mark = y3 at c3
      have hs : many (l.take (m + 1)) d = many (l.take m) d + if y = d then 1 else 0 := by
        unfold many
        rw [List.take_add_one, List.getElem?_eq_getElem hml, Option.toList_some, List.countP_append, hy]
        simp [List.countP_cons]
      have HS := Lib.hid hs
      have HB2 := Lib.hid (HB.out.trans ((alloc_below wr (.cells #[.int .u64 y0, .int .i64 y, .bool y2, .bool y3] 59)).mono HB.out.size))
      clear hc hy hs
      by_cases hxy : y = d
      · subst hxy
        go_wp2
        go_round
        case rel => exact ⟨m + 1, q + 1, by omega, by omega, by go_num, by go_num, HB2, Lib.hid (by rw [HS.out, if_pos rfl, HK.out])⟩
        case measure => simp only [intOf]; omega
      · go_wp2
        go_round
        case rel => exact ⟨m + 1, q, by omega, by omega, by go_num, by go_num, HB2, Lib.hid (by rw [HS.out, if_neg hxy, HK.out]; rfl)⟩
        case measure => simp only [intOf]; omega
    · obtain rfl : m = n := by omega
      go_wp2
      go_ret
      refine ⟨?_, HB.out⟩
      rw [HR.out, HK.out, List.take_of_length_le (by have := HN.out; omega)]
      rfl
/-- is the bottom hot? -/
def bhot (l : List Pg) : Bool := match l.getLast? with | some p => decide (p.kind = 1) | none => true
set_option maxHeartbeats 400000 in
theorem bottom_at (l : List Pg) (A : Option Addr) (n cap : Nat) (hn : n = l.length) (hb : n ≤ 1000000) (w : World) (hr : PRow w A cap l) :
    Calls Try.prog 50 #[.slice A n cap] w fun e w' => e = .returned (.bool (bhot l)) ∧ w' = w := by
  obtain ⟨r, hrr⟩ : ∃ r, r = bhot l := ⟨_, rfl⟩
  rw [← hrr]
  by_cases h0 : n = 0
  · have : l = [] := List.length_eq_zero_iff.1 (by omega)
    subst this
    obtain rfl : r = true := hrr
    subst h0
    clear hn hr
    go_enter Try.func50, Try.ntmps50
    go_wp2
    go_ret
    exact ⟨rfl, rfl⟩
  · have hml : n - 1 < l.length := by omega
    obtain ⟨b, off, rfl, hc⟩ := hr.at hml
    have c1 := (hc (n - 1) hml).2.1
    have hl : l.getLast? = some l[n - 1] := by rw [List.getLast?_eq_getElem?, ← hn, List.getElem?_eq_getElem hml]
    obtain ⟨y, hy⟩ : ∃ y, y = l[n - 1].kind := ⟨_, rfl⟩
    rw [← hy] at c1
    have hr2 : r = decide (y = 1) := by rw [hrr, bhot, hl, hy]
    obtain ⟨m, rfl⟩ : ∃ m, n = m + 1 := ⟨n - 1, by omega⟩
    simp only [Nat.add_sub_cancel] at c1
    have h1 : ¬ (m : Int) + 1 = 0 := by omega
    have h2 : (((m : Int) + 1) == 0) = false := beq_eq_false_iff_ne.2 h1
    have HR2 := Lib.hid hr2
    clear hc hl hy hrr hr2 hn hr h0 hml
    by_cases hy1 : y = 1
    · subst hy1
      obtain rfl : r = true := HR2.out
      go_enter Try.func50, Try.ntmps50
      go_wp2
      go_ret
      exact ⟨rfl, rfl⟩
    · obtain rfl : r = false := by rw [HR2.out]; exact decide_eq_false hy1
      have hy2 : (y == 1) = false := by simpa using hy1
      go_enter Try.func50, Try.ntmps50
      go_wp2
      go_ret
      exact ⟨rfl, rfl⟩
/-- of which kind the page of a key is; 0: it is none -/
def pkind (l : List Pg) (k : Int) : Int := match l.find? fun p => decide (p.key = k) with | some p => p.kind | none => 0
theorem pkind_hit {l : List Pg} {k : Int} {m : Nat} (hm : m < l.length) (h : l[m].key = k) (hj : ∀ j (h1 : j < m) (h2 : j < l.length), l[j].key ≠ k) : pkind l k = l[m].kind := by
  have : l.find? (fun p => decide (p.key = k)) = some l[m] := by
    rw [List.find?_eq_some_iff_getElem]
    exact ⟨by simpa using h, m, hm, rfl, fun j h1 => by simpa using hj j h1 (by omega)⟩
  unfold pkind
  rw [this]
theorem pkind_no {l : List Pg} {k : Int} (hj : ∀ j (h2 : j < l.length), l[j].key ≠ k) : pkind l k = 0 := by
  have : l.find? (fun p => decide (p.key = k)) = none := by
    rw [List.find?_eq_none]
    intro p hp
    obtain ⟨j, hj2, rfl⟩ := List.getElem_of_mem hp
    simpa using hj j hj2
  unfold pkind
  rw [this]
section
variable {lo B c : Nat} {w : World} {s : St} {r : R3} {A : Option Addr} {ev : List Int}
theorem WK.prow (h : WK lo w B s r A c ev) : PRow w r.a1 r.c1 s.pg := by
  obtain ⟨A', c', e, _, hv, _⟩ := owns_vrow h.rows.pg
  injection e with e1 _ e2
  subst e1 e2
  exact hv
theorem WK.qrow (h : WK lo w B s r A c ev) : URow w r.a2 r.c2 s.qu := by
  obtain ⟨A', c', e, _, hv, _⟩ := owns_vrow h.rows.qu
  injection e with e1 _ e2
  subst e1 e2
  exact hv
theorem WK.grow (h : WK lo w B s r A c ev) : URow w r.a3 r.c3 s.gh := by
  obtain ⟨A', c', e, _, hv, _⟩ := owns_vrow h.rows.gh
  injection e with e1 _ e2
  subst e1 e2
  exact hv
theorem WK.erow (h : WK lo w B s r A c ev) : URow w A c ev := by
  obtain ⟨A', c', e, _, hv, _⟩ := owns_vrow h.rows.ev
  injection e with e1 _ e2
  subst e1 e2
  exact hv
set_option maxHeartbeats 1000000 in
set_option maxRecDepth 100000 in
theorem kind_at (h : WK lo w B s r A c ev) (k : Int) (hb : s.pg.length ≤ 1000000) :
    Calls Try.prog 32 #[.pointer (some ⟨B, 0, none⟩), .int .u64 k] w fun e w' => e = .returned (.int .i64 (pkind s.pg k)) ∧ Below w.heap.size w w' := by
  obtain ⟨rr, hrr⟩ : ∃ rr : Int, rr = pkind s.pg k := ⟨_, rfl⟩
  rw [← hrr]
  have HP := Lib.hid h.prow
  have d5 := h.at5
  obtain ⟨l, hl⟩ : ∃ l, l = s.pg := ⟨_, rfl⟩
  rw [← hl] at d5 HP hb hrr
  obtain ⟨n, hn⟩ : ∃ n, n = l.length := ⟨_, rfl⟩
  rw [← hn] at d5 hb
  obtain ⟨A1, hA1⟩ : ∃ A1, A1 = r.a1 := ⟨_, rfl⟩
  obtain ⟨c1, hc1⟩ : ∃ c1, c1 = r.c1 := ⟨_, rfl⟩
  rw [← hA1, ← hc1] at d5 HP
  have HR := Lib.hid hrr
  have HN := Lib.hid hn
  clear hrr hn hl hA1 hc1 h
  go_enter Try.func32, Try.ntmps32
  go_wp2
  go_loopw [6, 13] (fun _ i wr => ∃ m : Nat, m ≤ n ∧ i = .int .i64 (m : Int) ∧ Hid (Below w.heap.size w wr) ∧ Hid (∀ j (h1 : j < m) (h2 : j < l.length), l[j].key ≠ k)) (fun _ i _ => n - (intOf i).toNat)
  case atStart => exact ⟨0, by omega, by go_num, Lib.hid (Below.refl _ _), Lib.hid (fun j h1 => absurd h1 (by omega))⟩
  case round =>
    obtain ⟨m, hm, rfl, HB, HK⟩ := hrel
    by_cases hlt : m < n
    · have hml : m < l.length := by have := HN.out; omega
      obtain ⟨b, off, rfl, hc⟩ := (PRow.kept HP.out HB.out).at hml
      obtain ⟨c0, c1, c2, c3⟩ := hc m hml
      obtain ⟨p, hp⟩ : ∃ p, p = l[m] := ⟨_, rfl⟩
      rw [← hp] at c0 c1 c2 c3
      have HY := Lib.hid hp
      have HB2 := Lib.hid (HB.out.trans ((alloc_below wr (.cells #[.int .u64 p.key, .int .i64 p.kind, .bool p.test, .bool p.mark] 59)).mono HB.out.size))
      clear hc hp
      obtain ⟨y, hy⟩ : ∃ y, y = p.key := ⟨_, rfl⟩
      rw [← hy] at c0 HB2
      have HY2 := Lib.hid hy
      clear hy
      by_cases hxy : y = k
      · subst hxy
        go_wp2
        go_ret
        refine ⟨?_, HB2.out⟩
        rw [HR.out, pkind_hit hml (by rw [← HY.out]; exact HY2.out.symm) HK.out, ← HY.out]
        rfl
      · go_wp2
        go_round
        case rel => exact ⟨m + 1, by omega, by go_num, HB2, Lib.hid (fun j h1 h2 => by
          rcases Nat.lt_succ_iff_lt_or_eq.1 h1 with h | rfl
          · exact HK.out j h h2
          · rw [← HY.out, ← HY2.out]; exact hxy)⟩
        case measure => simp only [intOf]; omega
    · go_wp2
      go_ret
      refine ⟨?_, HB.out⟩
      rw [HR.out, pkind_no (fun j h2 => HK.out j (by have := HN.out; omega) h2)]
      rfl
/-- is there room for one more hot page? -/
def hroom (s : St) : Bool := decide ((many s.pg 1 : Int) < rm s.cf.p s.cf.c s.cf.q s.cf.g)
set_option maxHeartbeats 1000000 in
set_option maxRecDepth 100000 in
theorem hroom_at (h : WK lo w B s r A c ev) (hb : s.pg.length ≤ 1000000) :
    Calls Try.prog 34 #[.pointer (some ⟨B, 0, none⟩)] w fun e w' => e = .returned (.bool (hroom s)) ∧ Below w.heap.size w w' := by
  obtain ⟨rr, hrr⟩ : ∃ rr, rr = hroom s := ⟨_, rfl⟩
  rw [← hrr]
  have C62 := Lib.hid (grown_call (w := w) (f := 62) (args := #[.slice r.a1 s.pg.length r.c1, .int .i64 1]) (fun V hV => count_at s.pg 1 r.a1 s.pg.length r.c1 rfl hb V (PRow.kept h.prow hV)))
  have C63 := Lib.hid (grown_call (w := w) (f := 63) (args := #[.agg #[.int .i64 s.cf.p, .int .i64 s.cf.c, .int .i64 s.cf.q, .int .i64 s.cf.g]]) (fun V hV => croom_at s.cf.p s.cf.c s.cf.q s.cf.g V))
  have hk : ∀ V, Below w.heap.size w V → WK lo V B s r A c ev := fun V hV => h.kept hV
  have d0 : ∀ p : GrB w, p.v.cell? ⟨B, 0, none⟩ = some (.int .i64 s.cf.p) := fun p => (hk _ p.h).at0
  have d1 : ∀ p : GrB w, p.v.cell? ⟨B, 1, none⟩ = some (.int .i64 s.cf.c) := fun p => (hk _ p.h).at1
  have d2 : ∀ p : GrB w, p.v.cell? ⟨B, 2, none⟩ = some (.int .i64 s.cf.q) := fun p => (hk _ p.h).at2
  have d3 : ∀ p : GrB w, p.v.cell? ⟨B, 3, none⟩ = some (.int .i64 s.cf.g) := fun p => (hk _ p.h).at3
  have d5 : ∀ p : GrB w, p.v.cell? ⟨B, 5, none⟩ = some (.slice r.a1 s.pg.length r.c1) := fun p => (hk _ p.h).at5
  obtain ⟨mm, hmm⟩ : ∃ z, z = (many s.pg 1 : Int) := ⟨_, rfl⟩
  obtain ⟨rm', hrm⟩ : ∃ z, z = rm s.cf.p s.cf.c s.cf.q s.cf.g := ⟨_, rfl⟩
  have hr2 : rr = decide (mm < rm') := by rw [hrr, hmm, hrm]; rfl
  rw [← hmm] at C62
  rw [← hrm] at C63
  have HR := Lib.hid hr2
  clear hrr hmm hrm hr2 hk h hb
  go_enter Try.func34, Try.ntmps34
  go_wp2_with fail
  refine region_grown (by kernel_rfl) (by kernel_rfl) ?_
  repeat (go_big_quiet_step (first | (go_at_call 62; exact C62.out _) | (go_at_call 63; exact C63.out _)))
  refine wpQuiet_nil ?_
  rintro w' ⟨⟨w9, hgl⟩, rfl⟩
  clear d0 d1 d2 d3 d5
  go_wp2
  go_ret
  exact ⟨by rw [HR.out]; rfl, hgl⟩
end
end Go.Proofs.Ytifenpmkbnohhaa
namespace Go.Proofs.Ytifenpmkbnohhaa
open Go.RowKit
open Go.Proofs.StackM
set_option linter.unusedVariables false
set_option maxHeartbeats 1000000 in
theorem pwithout_at (l : List Int) (k : Int) (A : Option Addr) (c lo : Nat) (hb : l.length ≤ 1000000) (w : World) (ho : GRu w lo (.slice A l.length c) l) :
    Calls Try.prog 64 #[.slice A l.length c, .int .u64 k] w (DelFPostu w lo A c (ls l k)) := by
  have hbel := alloc_below w (.cells #[.int .u64 k] 27)
  have hq : (w.alloc (.cells #[.int .u64 k] 27)).heap[w.heap.size]? = some (.cells #[.int .u64 k] 27 (0, 0)) := heap_alloc_new w _
  have C := delu_at l k A c w.heap.size lo hb (w.alloc (.cells #[.int .u64 k] 27)) (own_below ho hbel) hq (fun a e => by subst e; have := (ho.lt a.block rfl).2; omega)
  have C2 : Calls Try.prog 85 #[.slice A l.length c, .func (.func 86) #[] #[.pointer (some ⟨w.heap.size, 0, none⟩)]] (w.alloc (.cells #[.int .u64 k] 27)) (DelFPostu w lo A c (ls l k)) := C.mono fun e w' ⟨h1, h2, h3⟩ => ⟨h1, h2, grown_trans (grown_any (World.grownBy_alloc w _ none) _) h3⟩
  have HC := Lib.hid C2
  clear C C2 hbel hq ho
  go_enter Try.func64, Try.ntmps64
  go_wp2_with fail
  refine HC.out.mono ?_
  rintro e w' ⟨rfl, h⟩
  go_wp2_with fail
  go_ret
  exact ⟨rfl, h⟩
section
variable {lo B c : Nat} {w : World} {s : St} {r : R3} {A : Option Addr} {ev : List Int}
set_option maxHeartbeats 1000000 in
theorem leaveStack_at (h : WK lo w B s r A c ev) (k : Int) (hb : s.pg.length ≤ 1000000) :
    Calls Try.prog 60 #[.pointer (some ⟨B, 0, none⟩), .int .u64 k] w fun e w' => e = .returned (.tuple #[]) ∧ WP lo w B { s with pg := wo s.pg k } ev w' := by
  have hbel := alloc_below w (.cells #[.int .u64 k] 27)
  have hq : (w.alloc (.cells #[.int .u64 k] 27)).heap[w.heap.size]? = some (.cells #[.int .u64 k] 27 (0, 0)) := heap_alloc_new w _
  have h1 := h.kept hbel
  have C := delp_at s.pg k r.a1 r.c1 w.heap.size lo hb (w.alloc (.cells #[.int .u64 k] 27)) h1.rows.pg hq (fun a e => by have := (h.rows.pg.lt a.block (by rw [e]; rfl)).2; omega)
  have HC := Lib.hid C
  have H1 := Lib.hid h1
  have HL := Lib.hid (Below.mono hbel h.low)
  have d5 := h1.at5
  clear C hbel hq h h1
  go_enter Try.func60, Try.ntmps60
  go_wp2_with fail
  refine HC.out.mono ?_
  rintro e w2 ⟨rfl, hg, hgr⟩
  rw [ob_eq] at hgr
  have hy := H1.out.pgTo hgr hg rfl
  have hbx := box_grown H1.out.box H1.out.rows.pg (by decide) hgr
  have e5 : w2.cell? ⟨B, 5, none⟩ = some (.slice r.a1 s.pg.length r.c1) := by rw [cell_of_head hbx]; rfl
  have f5 : w2.frozen? ⟨B, 5, none⟩ = false := frozen_of_head hbx 5
  have HY := Lib.hid (hy.to (below_setCell (HL.out.trans (grown_lo H1.out.rows.pg hgr H1.out.low)) H1.out.hlo))
  clear hg hgr hy hbx H1 HL HC d5
  go_wp2_with fail
  go_end0
  exact ⟨rfl, HY.out⟩
set_option maxHeartbeats 1000000 in
theorem leave_at (h : WK lo w B s r A c ev) (k : Int) (hb : s.pg.length ≤ 1000000) (hb2 : s.qu.length ≤ 1000000) (hb3 : s.gh.length ≤ 1000000) :
    Calls Try.prog 38 #[.pointer (some ⟨B, 0, none⟩), .int .u64 k] w fun e w' => e = .returned (.tuple #[]) ∧ WP lo w B (gone s k) ev w' := by
  have C60 := Lib.hid (leaveStack_at h k hb)
  clear h
  go_enter Try.func38, Try.ntmps38
  go_wp2_with fail
  refine C60.out.mono ?_
  rintro e w1 ⟨rfl, r1, A1, c1, h1, hb1⟩
  have d6 := h1.at6
  have H1 := Lib.hid (And.intro h1 hb1)
  clear h1 hb1
  go_wp2_with fail
  refine (pwithout_at s.qu k r1.a2 r1.c2 lo hb2 w1 H1.out.1.rows.qu).mono ?_
  rintro e w2 ⟨rfl, hg, hgr⟩
  rw [ob_eq] at hgr
  have hy := H1.out.1.quTo hgr hg (Fr2.same _ _) rfl
  have hbx := box_grown H1.out.1.box H1.out.1.rows.qu (by decide) hgr
  have e6 : w2.cell? ⟨B, 6, none⟩ = some (.slice r1.a2 s.qu.length r1.c2) := by rw [cell_of_head hbx]; rfl
  have f6 : w2.frozen? ⟨B, 6, none⟩ = false := frozen_of_head hbx 6
  have e7 : w2.cell? ⟨B, 7, none⟩ = some (.slice r1.a3 s.gh.length r1.c3) := by rw [cell_of_head hbx]; rfl
  have HY := Lib.hid (And.intro hy (below_setCell (k := 6) (v := .slice r1.a2 (ls s.qu k).length r1.c2) (H1.out.2.trans (grown_lo H1.out.1.rows.qu hgr H1.out.1.low)) H1.out.1.hlo))
  clear hg hgr hy hbx H1 d6
  go_wp2_with fail
  obtain ⟨w3, hw3⟩ : ∃ w3, w3 = w2.setCell ⟨B, 6, none⟩ (.slice r1.a2 (ls s.qu k).length r1.c2) := ⟨_, rfl⟩
  rw [← hw3] at HY ⊢
  clear hw3 e6 f6 e7
  have d7 := HY.out.1.at7
  refine (pwithout_at s.gh k r1.a3 r1.c3 lo hb3 w3 HY.out.1.rows.gh).mono ?_
  rintro e w4 ⟨rfl, hg, hgr⟩
  rw [ob_eq] at hgr
  have hy := HY.out.1.ghTo hgr hg (Fr2.same _ _) rfl
  have hbx := box_grown HY.out.1.box HY.out.1.rows.gh (by decide) hgr
  have e7 : w4.cell? ⟨B, 7, none⟩ = some (.slice r1.a3 s.gh.length r1.c3) := by rw [cell_of_head hbx]; rfl
  have f7 : w4.frozen? ⟨B, 7, none⟩ = false := frozen_of_head hbx 7
  have HZ := Lib.hid (hy.to (below_setCell (HY.out.2.trans (grown_lo HY.out.1.rows.gh hgr HY.out.1.low)) HY.out.1.hlo))
  clear hg hgr hy hbx HY d7
  go_wp2_with fail
  go_end0
  exact ⟨rfl, HZ.out⟩
set_option maxHeartbeats 1000000 in
theorem stand_at (h : WK lo w B s r A c ev) (k d : Int) (hb : s.pg.length ≤ 900000) :
    Calls Try.prog 33 #[.pointer (some ⟨B, 0, none⟩), .int .u64 k, .int .i64 d] w fun e w' => e = .returned (.tuple #[]) ∧ WP lo w B { s with pg := ⟨k, d, false, false⟩ :: wo s.pg k } ev w' := by
  have C60 := Lib.hid (leaveStack_at h k (by omega))
  have hle := wo_len s.pg k
  clear h
  go_enter Try.func33, Try.ntmps33
  go_wp2_with fail
  refine C60.out.mono ?_
  rintro e w1 ⟨rfl, r1, A1, c1, h1, hb1⟩
  have d5 := h1.at5
  dsimp only at d5
  have hbel := alloc_below w1 (.cells #[.int .u64 k, .int .i64 d, .bool false, .bool false] 59)
  have h2 := h1.kept hbel
  have hq : (w1.alloc (.cells #[.int .u64 k, .int .i64 d, .bool false, .bool false] 59)).heap[w1.heap.size]? = some (.cells #[.int .u64 k, .int .i64 d, .bool false, .bool false] 59 (0, 0)) := heap_alloc_new w1 _
  have C61 := insert_at (x := ⟨k, d, false, false⟩) (i := 0) (A := r1.a1) (q := w1.heap.size) (c := r1.c1) (l := wo s.pg k) h2.rows.pg hq (by
    cases e : r1.a1 with
    | none => exact .inl rfl
    | some a => exact .inr ⟨a, rfl, by have := (h1.rows.pg.lt a.block (by rw [e]; rfl)).2; omega⟩) (by omega) (Nat.zero_le _) h2.low
  have e0 : (((0 : Nat) : Int)) = 0 := rfl
  have ei : ins (wo s.pg k) 0 ⟨k, d, false, false⟩ = ⟨k, d, false, false⟩ :: wo s.pg k := rfl
  rw [e0, ei] at C61
  have HC := Lib.hid C61
  have H2 := Lib.hid (And.intro h2 (hb1.trans (hbel.mono h1.low)))
  clear hbel hq C61 e0 ei h1 h2 hb1 C60
  go_wp2_with fail
  refine HC.out.mono ?_
  rintro e w3 ⟨g', c', rfl, hg, hgr, hf⟩
  rw [ob_eq] at hgr
  have hy := H2.out.1.pgTo hgr hg rfl
  have hbx := box_grown H2.out.1.box H2.out.1.rows.pg (by decide) hgr
  have e5 : w3.cell? ⟨B, 5, none⟩ = some (.slice r1.a1 (wo s.pg k).length r1.c1) := by rw [cell_of_head hbx]; rfl
  have f5 : w3.frozen? ⟨B, 5, none⟩ = false := frozen_of_head hbx 5
  have HY := Lib.hid (hy.to (below_setCell (H2.out.2.trans (grown_lo H2.out.1.rows.pg hgr H2.out.1.low)) H2.out.1.hlo))
  clear hg hgr hy hbx hf H2 HC d5
  go_wp2_with fail
  go_end0
  exact ⟨rfl, HY.out⟩
set_option maxHeartbeats 1000000 in
theorem cold_at (h : WK lo w B s r A c ev) (k : Int) (hb : s.pg.length ≤ 900000) (hb2 : s.qu.length ≤ 900000) :
    Calls Try.prog 36 #[.pointer (some ⟨B, 0, none⟩), .int .u64 k] w fun e w' => e = .returned (.tuple #[]) ∧ WP lo w B { s with pg := ⟨k, 2, false, false⟩ :: wo s.pg k, qu := ls s.qu k ++ [k] } ev w' := by
  have C33 := Lib.hid (stand_at h k 2 hb)
  have hle := ls_le s.qu k
  clear h
  go_enter Try.func36, Try.ntmps36
  go_wp2_with fail
  refine C33.out.mono ?_
  rintro e w1 ⟨rfl, r1, A1, c1, h1, hb1⟩
  have d6 := h1.at6
  dsimp only at d6
  have H1 := Lib.hid (And.intro h1 hb1)
  clear h1 hb1 C33
  go_wp2_with fail
  refine (pwithout_at s.qu k r1.a2 r1.c2 lo (by omega) w1 H1.out.1.rows.qu).mono ?_
  rintro e w2 ⟨rfl, hg, hgr⟩
  rw [ob_eq] at hgr
  obtain ⟨g', cap', w3, hrun, ho3, hg3, hf3⟩ := appU1 k hg (Nat.le_trans H1.out.1.low hgr.size) (by omega)
  have hgr2 : w1.grownBy w3 (ob r1.a2) := grown_trans hgr (by rw [ob_eq] at hg3; exact hg3)
  have ho3' : w3.ownsRow lo 27 1 (.slice (some ⟨g', 0, none⟩) (ls s.qu k ++ [k]).length cap') (ls s.qu k ++ [k]).length (uvals (ls s.qu k ++ [k])) := by simpa using ho3
  have hfr : Fr2 w1 r1.a2 (some ⟨g', 0, none⟩) := fun a e => by
    injection e with e
    subst e
    rcases hf3 with h | h
    · obtain ⟨a0, e0, e1⟩ := ob_some h
      exact .inl ⟨a0, e0, e1⟩
    · exact .inr (Nat.le_trans hgr.size h)
  have hy := H1.out.1.quTo (n := (ls s.qu k).length + 1) hgr2 ho3' hfr (by simp)
  have hbx := box_grown H1.out.1.box H1.out.1.rows.qu (by decide) hgr2
  have e6 : w3.cell? ⟨B, 6, none⟩ = some (.slice r1.a2 s.qu.length r1.c2) := by rw [cell_of_head hbx]; rfl
  have f6 : w3.frozen? ⟨B, 6, none⟩ = false := frozen_of_head hbx 6
  have HY := Lib.hid (hy.to (below_setCell (H1.out.2.trans (grown_lo H1.out.1.rows.qu hgr2 H1.out.1.low)) H1.out.1.hlo))
  have HR := Lib.hid hrun
  clear hg hgr hrun ho3 hg3 hf3 hgr2 ho3' hfr hy hbx H1 d6
  go_wp2_with (at_builtin; refine append_run rfl (.tmp 14) (.tmp 16) 26 rfl rfl rfl HR.out ?_)
  go_end0
  exact ⟨rfl, HY.out⟩
theorem dropLast_wo {l : List Pg} {p : Pg} (hn : (l.map Pg.key).Nodup) (h : l.getLast? = some p) : l.dropLast = wo l p.key := by
  obtain ⟨ys, rfl⟩ := List.getLast?_eq_some_iff.1 h
  rw [List.dropLast_concat]
  unfold wo
  rw [List.filter_append]
  have h1 : ys.filter (fun q => decide (q.key ≠ p.key)) = ys := by
    rw [List.filter_eq_self]
    intro q hq
    rw [List.map_append, List.nodup_append] at hn
    have := hn.2.2 q.key (List.mem_map.2 ⟨q, hq, rfl⟩) p.key (by simp)
    simpa using this
  rw [h1]
  simp
end
end Go.Proofs.Ytifenpmkbnohhaa
