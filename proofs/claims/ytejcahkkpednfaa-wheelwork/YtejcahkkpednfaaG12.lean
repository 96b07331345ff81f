/-
  A state that the program works on: a box of twenty-one cells, and four rows of its own.
  What the program asks of pages and of the state that it works on; keys that leave rows.
  What the program asks of pages: is a config of Clock, how many pages are kept, where a key's page is, of which kind.
  A page is taken out of a row of pages: slices.Delete.
  The bottom is taken; the stack is pruned.
  A key is raised; a page goes; the queue is spilled; the ghosts are trimmed.
  A state is taken to work on: its rows are copied.
-/
import Derived.Test.YtejcahkkpednfaaG05
import Derived.Test.YtejcahkkpednfaaG06
import Derived.Test.YtejcahkkpednfaaG04
import Derived.BigQuiet
import Derived.Lib.SliceRun
namespace Go.Proofs.Ytejcahkkpednfaa
open Go.RowKit
open Go.Proofs.StackM
set_option linter.unusedVariables false
def Ne2 (A B : Option Addr) : Prop := ∀ a b, A = some a → B = some b → a.block ≠ b.block
theorem Ne2.symm {A B : Option Addr} (h : Ne2 A B) : Ne2 B A := fun a b ha hb e => h b a hb ha e.symm
abbrev ob (A : Option Addr) : Option Nat := (Value.slice A 0 0).ownBlock
theorem ob_some {A : Option Addr} {n c k : Nat} (h : (Value.slice A n c).ownBlock = some k) : ∃ a, A = some a ∧ a.block = k := by
  cases A with
  | none => cases h
  | some a => exact ⟨a, rfl, by injection h⟩
theorem ob_eq (A : Option Addr) (n c : Nat) : (Value.slice A n c).ownBlock = ob A := by cases A <;> rfl
/-- a new row lies where the elder one lay, or in a block of its own -/
def Fr2 (w : World) (A A' : Option Addr) : Prop := ∀ a, A' = some a → (∃ a0, A = some a0 ∧ a0.block = a.block) ∨ w.heap.size ≤ a.block
theorem Fr2.same (w : World) (A : Option Addr) : Fr2 w A A := fun a e => .inl ⟨a, e, rfl⟩
/-- the four rows -/
structure WR (lo : Nat) (w : World) (s : St) (r : R3) (A : Option Addr) (c : Nat) (ev : List Int) : Prop where
  pg : w.ownsRow lo 58 4 (.slice r.a1 s.pg.length r.c1) s.pg.length (pvals s.pg)
  qu : w.ownsRow lo 27 1 (.slice r.a2 s.qu.length r.c2) s.qu.length (uvals s.qu)
  gh : w.ownsRow lo 27 1 (.slice r.a3 s.gh.length r.c3) s.gh.length (uvals s.gh)
  ev : w.ownsRow lo 27 1 (.slice A ev.length c) ev.length (uvals ev)
  qg : Ne2 r.a2 r.a3
  qe : Ne2 r.a2 A
  ge : Ne2 r.a3 A
/-- the box, and the rows -/
structure WK (lo : Nat) (w : World) (B : Nat) (s : St) (r : R3) (A : Option Addr) (c : Nat) (ev : List Int) : Prop where
  box : w.heap[B]? = some (.cells (spA s r A ev.length c) 72 (0, 0))
  hlo : lo ≤ B
  rows : WR lo w s r A c ev
section
variable {lo B c : Nat} {w w' : World} {s : St} {r : R3} {A : Option Addr} {ev : List Int}
theorem owns_grown {e sz n : Nat} {xs : List Value} {A0 : Option Addr} {c0 : Nat} {row : Option Nat} (h : w.ownsRow lo e sz (.slice A0 n c0) n xs) (hg : w.grownBy w' row) (hne : ∀ a, A0 = some a → some a.block ≠ row) : w'.ownsRow lo e sz (.slice A0 n c0) n xs :=
  owns_stay h fun k hk => by
    obtain ⟨a, rfl, rfl⟩ := ob_some hk
    exact hg.block a.block (h.lt _ rfl).2 (hne a rfl)
theorem owns_ne_type {e e' sz sz' n n' : Nat} {xs xs' : List Value} {A0 A1 : Option Addr} {c0 c1 : Nat} (h : w.ownsRow lo e sz (.slice A0 n c0) n xs) (h' : w.ownsRow lo e' sz' (.slice A1 n' c1) n' xs') (hne : e ≠ e') : ∀ a, A0 = some a → some a.block ≠ ob A1 := by
  rintro a rfl e1
  obtain ⟨b, rfl, e2⟩ := ob_some e1.symm
  obtain ⟨_, cur, hc⟩ := owns_type h (k := a.block) rfl
  obtain ⟨_, cur', hc'⟩ := owns_type h' (k := b.block) rfl
  rw [e2] at hc'
  exact hne (type_eq hc hc')
theorem ne_row {A0 A1 : Option Addr} (h : Ne2 A0 A1) : ∀ a, A0 = some a → some a.block ≠ ob A1 := by
  rintro a rfl e1
  obtain ⟨b, rfl, e2⟩ := ob_some e1.symm
  exact h a b rfl rfl e2.symm
theorem box_row {e sz n : Nat} {xs : List Value} {A0 : Option Addr} {c0 : Nat} {cs : Array Value} (hb : w.heap[B]? = some (.cells cs 72 (0, 0))) (h : w.ownsRow lo e sz (.slice A0 n c0) n xs) (hne : e ≠ 72) : ∀ a, A0 = some a → a.block ≠ B := by
  rintro a rfl rfl
  obtain ⟨_, cur, hc⟩ := owns_type h (k := a.block) rfl
  exact hne (type_eq hc hb)
theorem box_grown {e sz n : Nat} {xs : List Value} {A0 : Option Addr} {c0 : Nat} {cs : Array Value} (hb : w.heap[B]? = some (.cells cs 72 (0, 0))) (h : w.ownsRow lo e sz (.slice A0 n c0) n xs) (hne : e ≠ 72) (hg : w.grownBy w' (ob A0)) : w'.heap[B]? = some (.cells cs 72 (0, 0)) := by
  rw [hg.block B (Array.getElem?_eq_some_iff.1 hb).1 (fun e1 => ?_)]
  · exact hb
  · obtain ⟨a, rfl, e2⟩ := ob_some e1.symm
    exact box_row hb h hne a rfl e2
theorem WR.kept (h : WR lo w s r A c ev) (hb : Below w.heap.size w w') : WR lo w' s r A c ev := ⟨own_below h.pg hb, own_below h.qu hb, own_below h.gh hb, own_below h.ev hb, h.qg, h.qe, h.ge⟩
theorem WK.lt (h : WK lo w B s r A c ev) : B < w.heap.size := (Array.getElem?_eq_some_iff.1 h.box).1
theorem WK.kept (h : WK lo w B s r A c ev) (hb : Below w.heap.size w w') : WK lo w' B s r A c ev := ⟨by rw [hb.block B h.lt]; exact h.box, h.hlo, h.rows.kept hb⟩
theorem owns_set {e sz n : Nat} {xs : List Value} {A0 : Option Addr} {c0 : Nat} {cs : Array Value} (hb : w.heap[B]? = some (.cells cs 72 (0, 0))) (h : w.ownsRow lo e sz (.slice A0 n c0) n xs) (hne : e ≠ 72) (k : Nat) (v : Value) : (w.setCell ⟨B, k, none⟩ v).ownsRow lo e sz (.slice A0 n c0) n xs :=
  owns_grown h (grown_setCell w B k v) (fun a e1 e2 => box_row hb h hne a e1 (by injection e2))
theorem WR.set {cs : Array Value} (hb : w.heap[B]? = some (.cells cs 72 (0, 0))) (h : WR lo w s r A c ev) (k : Nat) (v : Value) : WR lo (w.setCell ⟨B, k, none⟩ v) s r A c ev :=
  ⟨owns_set hb h.pg (by decide) k v, owns_set hb h.qu (by decide) k v, owns_set hb h.gh (by decide) k v, owns_set hb h.ev (by decide) k v, h.qg, h.qe, h.ge⟩
theorem box_set {cs : Array Value} (hb : w.heap[B]? = some (.cells cs 72 (0, 0))) (k : Nat) (v : Value) : (w.setCell ⟨B, k, none⟩ v).heap[B]? = some (.cells (cs.setIfInBounds k v) 72 (0, 0)) := by
  simp only [World.setCell, Array.getElem?_modify, ↓reduceIte, hb, Option.map_some]
  rfl
theorem ne2_to {A0 A' A1 : Option Addr} {e sz n : Nat} {xs : List Value} {c1 : Nat} (h : Ne2 A0 A1) (h1 : w.ownsRow lo e sz (.slice A1 n c1) n xs) (hf : Fr2 w A0 A') : Ne2 A' A1 := by
  intro a b ea eb
  rcases hf a ea with ⟨a0, e0, e1⟩ | h2
  · rw [← e1]; exact h a0 b e0 eb
  · subst eb
    have := (h1.lt b.block rfl).2
    omega
theorem WR.pgTo (h : WR lo w s r A c ev) (hg : w.grownBy w' (ob r.a1)) {l : List Pg} {A' : Option Addr} {c' : Nat} (ho : w'.ownsRow lo 58 4 (.slice A' l.length c') l.length (pvals l)) : WR lo w' { s with pg := l } { r with a1 := A', c1 := c' } A c ev :=
  ⟨ho, owns_grown h.qu hg (owns_ne_type h.qu h.pg (by decide)), owns_grown h.gh hg (owns_ne_type h.gh h.pg (by decide)), owns_grown h.ev hg (owns_ne_type h.ev h.pg (by decide)), h.qg, h.qe, h.ge⟩
theorem WR.quTo (h : WR lo w s r A c ev) (hg : w.grownBy w' (ob r.a2)) {l : List Int} {A' : Option Addr} {c' : Nat} (ho : w'.ownsRow lo 27 1 (.slice A' l.length c') l.length (uvals l)) (hf : Fr2 w r.a2 A') : WR lo w' { s with qu := l } { r with a2 := A', c2 := c' } A c ev :=
  ⟨owns_grown h.pg hg (owns_ne_type h.pg h.qu (by decide)), ho, owns_grown h.gh hg (ne_row h.qg.symm), owns_grown h.ev hg (ne_row h.qe.symm), ne2_to h.qg h.gh hf, ne2_to h.qe h.ev hf, h.ge⟩
theorem WR.ghTo (h : WR lo w s r A c ev) (hg : w.grownBy w' (ob r.a3)) {l : List Int} {A' : Option Addr} {c' : Nat} (ho : w'.ownsRow lo 27 1 (.slice A' l.length c') l.length (uvals l)) (hf : Fr2 w r.a3 A') : WR lo w' { s with gh := l } { r with a3 := A', c3 := c' } A c ev :=
  ⟨owns_grown h.pg hg (owns_ne_type h.pg h.gh (by decide)), owns_grown h.qu hg (ne_row h.qg), ho, owns_grown h.ev hg (ne_row h.ge.symm), (ne2_to h.qg.symm h.qu hf).symm, h.qe, ne2_to h.ge h.ev hf⟩
theorem WR.evTo (h : WR lo w s r A c ev) (hg : w.grownBy w' (ob A)) {l : List Int} {A' : Option Addr} {c' : Nat} (ho : w'.ownsRow lo 27 1 (.slice A' l.length c') l.length (uvals l)) (hf : Fr2 w A A') : WR lo w' s r A' c' l :=
  ⟨owns_grown h.pg hg (owns_ne_type h.pg h.ev (by decide)), owns_grown h.qu hg (ne_row h.qe), owns_grown h.gh hg (ne_row h.ge), ho, h.qg, (ne2_to h.qe.symm h.qu hf).symm, (ne2_to h.ge.symm h.gh hf).symm⟩
/-- one cell of the box, and one row -/
theorem WK.pgTo (h : WK lo w B s r A c ev) (hg : w.grownBy w' (ob r.a1)) {l : List Pg} {A' : Option Addr} {c' n : Nat} (ho : w'.ownsRow lo 58 4 (.slice A' l.length c') l.length (pvals l)) (hn : n = l.length) : WK lo (w'.setCell ⟨B, 5, none⟩ (.slice A' n c')) B { s with pg := l } { r with a1 := A', c1 := c' } A c ev := by
  subst hn
  have hb := box_grown h.box h.rows.pg (by decide) hg
  exact ⟨box_set hb 5 _, h.hlo, (h.rows.pgTo hg ho).set hb 5 _⟩
theorem WK.quTo (h : WK lo w B s r A c ev) (hg : w.grownBy w' (ob r.a2)) {l : List Int} {A' : Option Addr} {c' n : Nat} (ho : w'.ownsRow lo 27 1 (.slice A' l.length c') l.length (uvals l)) (hf : Fr2 w r.a2 A') (hn : n = l.length) : WK lo (w'.setCell ⟨B, 6, none⟩ (.slice A' n c')) B { s with qu := l } { r with a2 := A', c2 := c' } A c ev := by
  subst hn
  have hb := box_grown h.box h.rows.qu (by decide) hg
  exact ⟨box_set hb 6 _, h.hlo, (h.rows.quTo hg ho hf).set hb 6 _⟩
theorem WK.ghTo (h : WK lo w B s r A c ev) (hg : w.grownBy w' (ob r.a3)) {l : List Int} {A' : Option Addr} {c' n : Nat} (ho : w'.ownsRow lo 27 1 (.slice A' l.length c') l.length (uvals l)) (hf : Fr2 w r.a3 A') (hn : n = l.length) : WK lo (w'.setCell ⟨B, 7, none⟩ (.slice A' n c')) B { s with gh := l } { r with a3 := A', c3 := c' } A c ev := by
  subst hn
  have hb := box_grown h.box h.rows.gh (by decide) hg
  exact ⟨box_set hb 7 _, h.hlo, (h.rows.ghTo hg ho hf).set hb 7 _⟩
theorem WK.evTo (h : WK lo w B s r A c ev) (hg : w.grownBy w' (ob A)) {l : List Int} {A' : Option Addr} {c' n : Nat} (ho : w'.ownsRow lo 27 1 (.slice A' l.length c') l.length (uvals l)) (hf : Fr2 w A A') (hn : n = l.length) : WK lo (w'.setCell ⟨B, 20, none⟩ (.slice A' n c')) B s r A' c' l := by
  subst hn
  have hb := box_grown h.box h.rows.ev (by decide) hg
  exact ⟨box_set hb 20 _, h.hlo, (h.rows.evTo hg ho hf).set hb 20 _⟩
theorem WK.numTo (h : WK lo w B s r A c ev) (k : Nat) (v : Value) (s' : St) (he : (spA s r A ev.length c).setIfInBounds k v = spA s' r A ev.length c) (h1 : s'.pg = s.pg) (h2 : s'.qu = s.qu) (h3 : s'.gh = s.gh) : WK lo (w.setCell ⟨B, k, none⟩ v) B s' r A c ev := by
  refine ⟨by rw [box_set h.box, he], h.hlo, ?_⟩
  have hr := h.rows.set h.box k v
  exact ⟨by rw [h1]; exact hr.pg, by rw [h2]; exact hr.qu, by rw [h3]; exact hr.gh, hr.ev, hr.qg, hr.qe, hr.ge⟩
theorem WK.ct10 (h : WK lo w B s r A c ev) (n : Int) : WK lo (w.setCell ⟨B, 10, none⟩ (.int .u64 n)) B { s with ct := { s.ct with hi := n } } r A c ev := h.numTo 10 _ _ rfl rfl rfl rfl
theorem WK.ct11 (h : WK lo w B s r A c ev) (n : Int) : WK lo (w.setCell ⟨B, 11, none⟩ (.int .u64 n)) B { s with ct := { s.ct with mi := n } } r A c ev := h.numTo 11 _ _ rfl rfl rfl rfl
theorem WK.ct12 (h : WK lo w B s r A c ev) (n : Int) : WK lo (w.setCell ⟨B, 12, none⟩ (.int .u64 n)) B { s with ct := { s.ct with ra := n } } r A c ev := h.numTo 12 _ _ rfl rfl rfl rfl
theorem WK.ct13 (h : WK lo w B s r A c ev) (n : Int) : WK lo (w.setCell ⟨B, 13, none⟩ (.int .u64 n)) B { s with ct := { s.ct with lo := n } } r A c ev := h.numTo 13 _ _ rfl rfl rfl rfl
theorem WK.ct14 (h : WK lo w B s r A c ev) (n : Int) : WK lo (w.setCell ⟨B, 14, none⟩ (.int .u64 n)) B { s with ct := { s.ct with pr := n } } r A c ev := h.numTo 14 _ _ rfl rfl rfl rfl
theorem WK.ct15 (h : WK lo w B s r A c ev) (n : Int) : WK lo (w.setCell ⟨B, 15, none⟩ (.int .u64 n)) B { s with ct := { s.ct with ev := n } } r A c ev := h.numTo 15 _ _ rfl rfl rfl rfl
theorem WK.ct16 (h : WK lo w B s r A c ev) (n : Int) : WK lo (w.setCell ⟨B, 16, none⟩ (.int .u64 n)) B { s with ct := { s.ct with fo := n } } r A c ev := h.numTo 16 _ _ rfl rfl rfl rfl
theorem WK.at0 (h : WK lo w B s r A c ev) : w.cell? ⟨B, 0, none⟩ = some (.int .i64 s.cf.p) := by rw [cell_of_head h.box]; rfl
theorem WK.at1 (h : WK lo w B s r A c ev) : w.cell? ⟨B, 1, none⟩ = some (.int .i64 s.cf.c) := by rw [cell_of_head h.box]; rfl
theorem WK.at2 (h : WK lo w B s r A c ev) : w.cell? ⟨B, 2, none⟩ = some (.int .i64 s.cf.q) := by rw [cell_of_head h.box]; rfl
theorem WK.at3 (h : WK lo w B s r A c ev) : w.cell? ⟨B, 3, none⟩ = some (.int .i64 s.cf.g) := by rw [cell_of_head h.box]; rfl
theorem WK.at4 (h : WK lo w B s r A c ev) : w.cell? ⟨B, 4, none⟩ = some (.int .i64 s.tg) := by rw [cell_of_head h.box]; rfl
theorem WK.at5 (h : WK lo w B s r A c ev) : w.cell? ⟨B, 5, none⟩ = some (.slice r.a1 s.pg.length r.c1) := by rw [cell_of_head h.box]; rfl
theorem WK.at6 (h : WK lo w B s r A c ev) : w.cell? ⟨B, 6, none⟩ = some (.slice r.a2 s.qu.length r.c2) := by rw [cell_of_head h.box]; rfl
theorem WK.at7 (h : WK lo w B s r A c ev) : w.cell? ⟨B, 7, none⟩ = some (.slice r.a3 s.gh.length r.c3) := by rw [cell_of_head h.box]; rfl
theorem WK.at8 (h : WK lo w B s r A c ev) : w.cell? ⟨B, 8, none⟩ = some (.int .i64 s.co) := by rw [cell_of_head h.box]; rfl
theorem WK.at9 (h : WK lo w B s r A c ev) : w.cell? ⟨B, 9, none⟩ = some (.int .i64 s.te) := by rw [cell_of_head h.box]; rfl
theorem WK.at10 (h : WK lo w B s r A c ev) : w.cell? ⟨B, 10, none⟩ = some (.int .u64 s.ct.hi) := by rw [cell_of_head h.box]; rfl
theorem WK.at11 (h : WK lo w B s r A c ev) : w.cell? ⟨B, 11, none⟩ = some (.int .u64 s.ct.mi) := by rw [cell_of_head h.box]; rfl
theorem WK.at12 (h : WK lo w B s r A c ev) : w.cell? ⟨B, 12, none⟩ = some (.int .u64 s.ct.ra) := by rw [cell_of_head h.box]; rfl
theorem WK.at13 (h : WK lo w B s r A c ev) : w.cell? ⟨B, 13, none⟩ = some (.int .u64 s.ct.lo) := by rw [cell_of_head h.box]; rfl
theorem WK.at14 (h : WK lo w B s r A c ev) : w.cell? ⟨B, 14, none⟩ = some (.int .u64 s.ct.pr) := by rw [cell_of_head h.box]; rfl
theorem WK.at15 (h : WK lo w B s r A c ev) : w.cell? ⟨B, 15, none⟩ = some (.int .u64 s.ct.ev) := by rw [cell_of_head h.box]; rfl
theorem WK.at16 (h : WK lo w B s r A c ev) : w.cell? ⟨B, 16, none⟩ = some (.int .u64 s.ct.fo) := by rw [cell_of_head h.box]; rfl
theorem WK.at17 (h : WK lo w B s r A c ev) : w.cell? ⟨B, 17, none⟩ = some (.int .u64 s.ct.cl) := by rw [cell_of_head h.box]; rfl
theorem WK.at18 (h : WK lo w B s r A c ev) : w.cell? ⟨B, 18, none⟩ = some (.int .u64 s.ct.en) := by rw [cell_of_head h.box]; rfl
theorem WK.at19 (h : WK lo w B s r A c ev) : w.cell? ⟨B, 19, none⟩ = some (.int .u64 s.ct.st) := by rw [cell_of_head h.box]; rfl
theorem WK.at20 (h : WK lo w B s r A c ev) : w.cell? ⟨B, 20, none⟩ = some (.slice A ev.length c) := by rw [cell_of_head h.box]; rfl
theorem WK.free (h : WK lo w B s r A c ev) (k : Nat) : w.frozen? ⟨B, k, none⟩ = false := frozen_of_head h.box k
theorem WK.low (h : WK lo w B s r A c ev) : lo ≤ w.heap.size := Nat.le_trans h.hlo (Nat.le_of_lt h.lt)
/-- what goes on above a mark stays above it -/
theorem grown_lo {e sz n : Nat} {xs : List Value} {A0 : Option Addr} {c0 : Nat} (h : w.ownsRow lo e sz (.slice A0 n c0) n xs) (hg : w.grownBy w' (ob A0)) (hl : lo ≤ w.heap.size) : Below lo w w' := grown_below h (by rw [ob_eq]; exact hg) hl
/-- what a call of a method leaves -/
def WP (lo : Nat) (w : World) (B : Nat) (s : St) (ev : List Int) (w' : World) : Prop := ∃ r A c, WK lo w' B s r A c ev ∧ Below lo w w'
theorem WK.to {w0 : World} (h : WK lo w B s r A c ev) (hb : Below lo w0 w) : WP lo w0 B s ev w := ⟨r, A, c, h, hb⟩
theorem WP.trans {w1 w2 : World} {s' : St} {ev' : List Int} (h : Below lo w w1) (h2 : WP lo w1 B s' ev' w2) : WP lo w B s' ev' w2 := by
  obtain ⟨r, A, c, h3, h4⟩ := h2
  exact ⟨r, A, c, h3, h.trans h4⟩
end
end Go.Proofs.Ytejcahkkpednfaa
namespace Go.Proofs.Ytejcahkkpednfaa
open Go.RowKit
open Go.Proofs.StackM
set_option linter.unusedVariables false
set_option maxHeartbeats 1000000 in
set_option maxRecDepth 100000 in
theorem count_at (l : List Pg) (d : Int) (A : Option Addr) (n cap : Nat) (hn : n = l.length) (hb : n ≤ 1000000) (w : World) (hr : PRow w A cap l) :
    Calls Try.prog 60 #[.slice A n cap, .int .i64 d] w fun e w' => e = .returned (.int .i64 (many l d : Int)) ∧ Below w.heap.size w w' := by
  obtain ⟨r, hrr⟩ : ∃ r : Int, r = (many l d : Int) := ⟨_, rfl⟩
  rw [← hrr]
  have HR := Lib.hid hrr
  have HN := Lib.hid hn
  have HP := Lib.hid hr
  clear hrr hn hr
  go_enter Try.func60, Try.ntmps60
  go_wp2
  go_loopw [5, 7, 10] (fun c _ i wr => ∃ m q : Nat, m ≤ n ∧ q ≤ m ∧ i = .int .i64 (m : Int) ∧ c = .int .i64 (q : Int) ∧ Hid (Below w.heap.size w wr) ∧ Hid (q = many (l.take m) d)) (fun _ _ i _ => n - (intOf i).toNat)
  case atStart => exact ⟨0, 0, by omega, by omega, by go_num, by go_num, Lib.hid (Below.refl _ _), Lib.hid (by simp [many])⟩
  case round =>
    obtain ⟨m, q, hm, hq, rfl, rfl, HB, HK⟩ := hrel
    by_cases hlt : m < n
    · have hml : m < l.length := by have := HN.out; omega
      obtain ⟨b, off, rfl, hc⟩ := (PRow.kept HP.out HB.out).at hml
      obtain ⟨c0, c1, c2, c3⟩ := hc m hml
      obtain ⟨y, hy⟩ : ∃ y, y = l[m].kind := ⟨_, rfl⟩
      rw [← hy] at c1
      generalize l[m].key = y0 at c0
      generalize l[m].test = y2 at c2
      generalize l[m].mark = y3 at c3
      have hs : many (l.take (m + 1)) d = many (l.take m) d + if y = d then 1 else 0 := by
        unfold many
        rw [List.take_add_one, List.getElem?_eq_getElem hml, Option.toList_some, List.countP_append, hy]
        simp [List.countP_cons]
      have HS := Lib.hid hs
      have HB2 := Lib.hid (HB.out.trans ((alloc_below wr (.cells #[.int .u64 y0, .int .i64 y, .bool y2, .bool y3] 58)).mono HB.out.size))
      clear hc hy hs
      by_cases hxy : y = d
      · subst hxy
        go_wp2
        go_round
        case rel => exact ⟨m + 1, q + 1, by omega, by omega, by go_num, by go_num, HB2, Lib.hid (by rw [HS.out, if_pos rfl, HK.out])⟩
        case measure => simp only [intOf]; omega
      · go_wp2
        go_round
        case rel => exact ⟨m + 1, q, by omega, by omega, by go_num, by go_num, HB2, Lib.hid (by rw [HS.out, if_neg hxy, HK.out]; rfl)⟩
        case measure => simp only [intOf]; omega
    · obtain rfl : m = n := by omega
      go_wp2
      go_ret
      refine ⟨?_, HB.out⟩
      rw [HR.out, HK.out, List.take_of_length_le (by have := HN.out; omega)]
      rfl
section
variable {lo B c : Nat} {w : World} {s : St} {r : R3} {A : Option Addr} {ev : List Int}
theorem WK.prow (h : WK lo w B s r A c ev) : PRow w r.a1 r.c1 s.pg := by
  obtain ⟨A', c', e, _, hv, _⟩ := owns_vrow h.rows.pg
  injection e with e1 _ e2
  subst e1 e2
  exact hv
theorem WK.qrow (h : WK lo w B s r A c ev) : URow w r.a2 r.c2 s.qu := by
  obtain ⟨A', c', e, _, hv, _⟩ := owns_vrow h.rows.qu
  injection e with e1 _ e2
  subst e1 e2
  exact hv
theorem WK.grow (h : WK lo w B s r A c ev) : URow w r.a3 r.c3 s.gh := by
  obtain ⟨A', c', e, _, hv, _⟩ := owns_vrow h.rows.gh
  injection e with e1 _ e2
  subst e1 e2
  exact hv
theorem WK.erow (h : WK lo w B s r A c ev) : URow w A c ev := by
  obtain ⟨A', c', e, _, hv, _⟩ := owns_vrow h.rows.ev
  injection e with e1 _ e2
  subst e1 e2
  exact hv
end
end Go.Proofs.Ytejcahkkpednfaa
namespace Go.Proofs.Ytejcahkkpednfaa
open Go.RowKit
open Go.Proofs.StackM (Pg Cf Ct St up many fnd fnd_at fnd_no)
open Go.Proofs.WheelM
set_option linter.unusedVariables false
theorem clk_mb {c : Cf} (h : Clk c) : Mb c.p c.c c.q c.g := ⟨by have := h.1; omega, h.2⟩
instance (c : Cf) : Decidable (Clk c) := by unfold Clk; infer_instance
set_option maxHeartbeats 400000 in
set_option maxRecDepth 100000 in
theorem clock_at (p c q g : Int) (w : World) : Calls Try.prog 43 #[.agg #[.int .i64 p, .int .i64 c, .int .i64 q, .int .i64 g]] w fun e w' => e = .returned (.bool (decide (Clk ⟨p, c, q, g⟩))) ∧ Below w.heap.size w w' := by
  have cc := fun W => check_at p c q g W
  by_cases h : Mb p c q g
  · rw [ck_ok h] at cc
    have CC := Lib.hid cc
    clear cc
    by_cases hp : p = 2
    · rw [decide_eq_true (show Clk ⟨p, c, q, g⟩ from ⟨hp, h.2⟩)]
      have HP := Lib.hid hp
      clear h hp
      go_enter Try.func43, Try.ntmps43
      go_wp2_with fail
      refine (CC.out _).mono ?_
      rintro e w2 ⟨rfl, hb⟩
      obtain ⟨d0, d1, d2, d3⟩ := (at4_alloc w p c q g).kept hb (at4_alloc w p c q g).lt
      have HB := Lib.hid ((alloc_below w _).trans (hb.mono (alloc_below w _).size))
      have hp2 : (p == 2) = true := by simpa using HP.out
      clear hb
      go_wp2_with fail
      go_ret
      exact ⟨rfl, HB.out⟩
    · rw [decide_eq_false (fun h : Clk ⟨p, c, q, g⟩ => hp h.1)]
      have HP := Lib.hid hp
      clear h hp
      go_enter Try.func43, Try.ntmps43
      go_wp2_with fail
      refine (CC.out _).mono ?_
      rintro e w2 ⟨rfl, hb⟩
      obtain ⟨d0, d1, d2, d3⟩ := (at4_alloc w p c q g).kept hb (at4_alloc w p c q g).lt
      have HB := Lib.hid ((alloc_below w _).trans (hb.mono (alloc_below w _).size))
      have hp2 : (p == 2) = false := by simpa using HP.out
      clear hb
      go_wp2_with fail
      go_ret
      exact ⟨rfl, HB.out⟩
  · rw [ck_no h] at cc
    rw [decide_eq_false (fun hc : Clk ⟨p, c, q, g⟩ => h (clk_mb hc))]
    have CC := Lib.hid cc
    clear cc h
    go_enter Try.func43, Try.ntmps43
    go_wp2_with fail
    refine (CC.out _).mono ?_
    rintro e w2 ⟨rfl, hb⟩
    have HB := Lib.hid ((alloc_below w _).trans (hb.mono (alloc_below w _).size))
    clear hb
    go_wp2_with fail
    go_ret
    exact ⟨rfl, HB.out⟩
theorem iskept_at (d : Int) (w : World) : Calls Try.prog 33 #[.int .i64 d] w fun e w' => e = .returned (.bool (decide (d = 1 ∨ d = 2))) ∧ w' = w := by
  by_cases h1 : d = 1
  · subst h1
    go_enter Try.func33, Try.ntmps33
    go_wp2
    go_ret
    exact ⟨rfl, rfl⟩
  · have h1' : (d == 1) = false := by simpa using h1
    by_cases h2 : d = 2
    · subst h2
      go_enter Try.func33, Try.ntmps33
      go_wp2
      go_ret
      exact ⟨rfl, rfl⟩
    · have h2' : (d == 2) = false := by simpa using h2
      rw [decide_eq_false (show ¬ (d = 1 ∨ d = 2) from fun h => h.elim h1 h2)]
      go_enter Try.func33, Try.ntmps33
      go_wp2
      go_ret
      exact ⟨rfl, rfl⟩
set_option maxHeartbeats 1000000 in
theorem pkepts_at (l : List Pg) (A : Option Addr) (n cap : Nat) (hn : n = l.length) (hb : n ≤ 1000000) (w : World) (hr : PRow w A cap l) :
    Calls Try.prog 63 #[.slice A n cap] w fun e w' => e = .returned (.int .i64 (kps l : Int)) ∧ Below w.heap.size w w' := by
  have c1 := count_at l 1 A n cap hn hb w hr
  have c2 := fun W (hW : Below w.heap.size w W) => count_at l 2 A n cap hn hb W (PRow.kept hr hW)
  have h1 : many l 1 ≤ n := by rw [hn]; exact List.countP_le_length
  have h2 : many l 2 ≤ n := by rw [hn]; exact List.countP_le_length
  have e : (kps l : Int) = (many l 1 : Int) + (many l 2 : Int) := by unfold kps; omega
  rw [e]
  have C1 := Lib.hid c1
  have C2 := Lib.hid c2
  clear c1 c2 hr hn e
  generalize many l 1 = a at *
  generalize many l 2 = b at *
  go_enter Try.func63, Try.ntmps63
  go_wp2_with fail
  refine C1.out.mono ?_
  rintro e w1 ⟨rfl, h⟩
  have C3 := Lib.hid (C2.out w1 h)
  have H := Lib.hid h
  clear h
  go_wp2_with fail
  refine C3.out.mono ?_
  rintro e w2 ⟨rfl, h⟩
  have H2 := Lib.hid (H.out.trans (h.mono H.out.size))
  have hw : IntKind.i64.wrap ((a : Int) + (b : Int)) = (a : Int) + (b : Int) := by rw [IntKind.wrap_i64]; omega
  clear h
  go_wp2_with fail
  go_ret
  exact ⟨rfl, H2.out⟩
set_option maxHeartbeats 1000000 in
theorem place_at (l : List Pg) (k : Int) (A : Option Addr) (n cap : Nat) (hn : n = l.length) (hb : n ≤ 1000000) (w : World) (hr : PRow w A cap l) :
    Calls Try.prog 35 #[.slice A n cap, .int .u64 k] w fun e w' => e = .returned (.int .i64 (fi l k)) ∧ Below w.heap.size w w' := by
  have hb1 := alloc_below w (.cells #[.int .u64 k] 27)
  have c1 := ixp_at l k A n cap w.heap.size hn hb (w.alloc (.cells #[.int .u64 k] 27)) (PRow.kept hr hb1) (by rw [World.cell?_alloc_new]; rfl)
  obtain ⟨z, hz⟩ : ∃ z, z = fi l k := ⟨_, rfl⟩
  rw [← hz] at c1 ⊢
  have C1 := Lib.hid c1
  have HB := Lib.hid hb1
  clear c1 hb1 hr hz hn
  go_enter Try.func35, Try.ntmps35
  go_wp2_with fail
  refine C1.out.mono ?_
  rintro e w2 ⟨rfl, h⟩
  have H2 := Lib.hid (HB.out.trans (h.mono HB.out.size))
  clear h
  go_wp2_with fail
  go_ret
  exact ⟨rfl, H2.out⟩
/-- of which kind the page of a key is -/
def kdl (l : List Pg) (k : Int) : Int :=
  match fnd l k with
  | some i => match l[i]? with
    | some p => p.kind
    | none => 0
  | none => 0
theorem kdl_is (s : St) (k : Int) : kdl s.pg k = isW s k := rfl
theorem fnd_lt {l : List Pg} {k : Int} {i : Nat} (h : fnd l k = some i) : i < l.length := (List.findIdx?_eq_some_iff_getElem.1 h).1
set_option maxHeartbeats 1000000 in
theorem kindOf_at (l : List Pg) (k : Int) (A : Option Addr) (n cap : Nat) (hn : n = l.length) (hb : n ≤ 1000000) (w : World) (hr : PRow w A cap l) :
    Calls Try.prog 34 #[.slice A n cap, .int .u64 k] w fun e w' => e = .returned (.int .i64 (kdl l k)) ∧ Below w.heap.size w w' := by
  have c1 := place_at l k A n cap hn hb w hr
  unfold kdl
  unfold fi at c1
  cases hf : fnd l k with
  | none =>
    rw [hf] at c1
    have C1 := Lib.hid c1
    clear c1 hr hf hn
    go_enter Try.func34, Try.ntmps34
    go_wp2_with fail
    refine C1.out.mono ?_
    rintro e w2 ⟨rfl, h⟩
    have H2 := Lib.hid h
    clear h
    go_wp2_with fail
    go_ret
    exact ⟨rfl, H2.out⟩
  | some i =>
    rw [hf] at c1
    have hi := fnd_lt hf
    dsimp only at c1 ⊢
    rw [List.getElem?_eq_getElem hi]
    dsimp only
    obtain ⟨y, hy⟩ : ∃ y, y = l[i].kind := ⟨_, rfl⟩
    rw [← hy]
    have C1 := Lib.hid c1
    have HR := Lib.hid hr
    have HY := Lib.hid hy
    have HN := Lib.hid hn
    have hin : i < n := by omega
    have z0 : ¬ (i : Int) < 0 := by omega
    have z1 : (0 : Int) ≤ (i : Int) := by omega
    have z2 : (i : Int) < (n : Int) := by omega
    clear c1 hr hf hy hn
    go_enter Try.func34, Try.ntmps34
    go_wp2_with fail
    refine C1.out.mono ?_
    rintro e w2 ⟨rfl, h⟩
    have H2 := Lib.hid h
    obtain ⟨b, off, rfl, hc⟩ := (PRow.kept HR.out h).at hi
    have d1 := (hc i hi).2.1
    rw [← HY.out] at d1
    clear h hc
    go_wp2_with fail
    go_ret
    exact ⟨rfl, H2.out⟩
end Go.Proofs.Ytejcahkkpednfaa
namespace Go.Proofs.Ytejcahkkpednfaa
open Go.RowKit
open Go.Proofs.StackM
set_option linter.unusedVariables false
set_option maxRecDepth 100000
section
variable {w : World} {lo g n c : Nat} {l : List Pg}
theorem clear_end {xs : List Value} (h : w.ownsRow lo 58 4 (.slice (some ⟨g, 0, none⟩) n c) n xs) (hc : n < c) (ty : TypeId) :
    ∃ w', (∀ cc, (Builtin.clear_ #[25] ty #[.slice (some ⟨g, n * 4, none⟩) 1 cc]).run Try.prog w = .ok (.tuple #[]) w') ∧ w'.ownsRow lo 58 4 (.slice (some ⟨g, 0, none⟩) n c) n xs ∧ w.grownBy w' (some g) := by
  rcases h.2 with ⟨e, _⟩ | ⟨g', cap', cur, e, hbg, hgb, hnc, hcm, hcs, ht⟩
  · simp at e
  · simp only [Value.slice.injEq, Option.some.injEq, Addr.mk.injEq, and_true, true_and] at e
    obtain ⟨rfl, rfl⟩ := e
    have hz : (Value.agg #[.int .u64 0, .int .i64 0, .bool false, .bool false]).cells = #[.int .u64 0, .int .i64 0, .bool false, .bool false] := rfl
    have hr := fun cc => run_clear_rowK (P := Try.prog) w 25 58 ty _ Try.underlying25 zero59 (by rw [hz]; intro v hv; simp at hv; rcases hv with rfl | rfl | rfl | rfl <;> rfl) g (n * 4) cc cur 58 hgb (by rw [hz, hcs]; simp; omega)
    refine ⟨_, hr, ⟨h.1, .inr ⟨g, c, _, rfl, hbg, setRow_heap w g cur _ 58 _ hgb, hnc, hcm, ?_, ?_⟩⟩, grown_setRow _⟩
    · rw [hz]
      simp only [List.size_toArray, List.length_append, List.length_take, List.length_drop, Array.length_toList]
      simp
      omega
    · rw [List.append_assoc, List.take_append_of_le_length (by rw [List.length_take, Array.length_toList]; omega), List.take_take, Nat.min_self, ht]
theorem append_del (h : GRw w lo (.slice (some ⟨g, 0, none⟩) l.length c) l) {i m : Nat} (hi : i + 1 + m = l.length) (a : Addr) (ha : 0 < m → a = ⟨g, (i + 1) * 4, none⟩) (cc : Nat) (ty : TypeId) :
    ∃ w', (Builtin.append_ #[25, 25] ty #[.slice (some ⟨g, 0, none⟩) i c, .slice (some a) m cc]).run Try.prog w = .ok (.slice (some ⟨g, 0, none⟩) (i + m) c) w' ∧ w'.ownsRow lo 58 4 (.slice (some ⟨g, 0, none⟩) (i + m) c) (i + m) (pvals (l.eraseIdx i)) ∧ w.grownBy w' (some g) := by
  obtain ⟨i0, hi0, hz0, hz1, hz2⟩ := info_parts infoP
  have hcap := owns_cap h
  have hrow := owns_cut h (show i ≤ l.length by omega)
  rw [← pvals_take] at hrow
  obtain ⟨w', hr, ho, hg⟩ := run_append_fits (P := Try.prog) w lo 25 ty 58 i0 4 Try.underlying25 hi0 hz1 g i c _ hrow a m cc (pvals (l.drop (i + 1))) (by rw [pvals_len, List.length_drop]; omega)
    (fun j u hu => by
      have hj : j < (pvals (l.drop (i + 1))).length := (List.getElem?_eq_some_iff.1 hu).1
      rw [pvals_len, List.length_drop] at hj
      rw [ha (by omega)]
      rw [pvals_drop, List.getElem?_drop] at hu
      have hc := h.cellAt ((i + 1) * 4 + j) (by omega)
      rw [← hu, ← hc]
      congr 1
      by_cases h1 : j = 0
      · subst h1; simp [Addr.add]
      · simp [Addr.add, h1]) (pvals_one _) (by omega)
  refine ⟨w', hr, ?_, hg⟩
  rw [List.eraseIdx_eq_take_drop_succ, pvals_app]
  exact ho
def DelPost (w : World) (lo g n c : Nat) (l : List Pg) (e : Ending) (w' : World) : Prop := e = .returned (.slice (some ⟨g, 0, none⟩) n c) ∧ GRw w' lo (.slice (some ⟨g, 0, none⟩) n c) l ∧ w.grownBy w' (some g)
set_option maxHeartbeats 400000 in
theorem delete_at (h : GRw w lo (.slice (some ⟨g, 0, none⟩) l.length c) l) (i : Nat) (hi : i < l.length) (hn : l.length ≤ 1000000) :
    Calls Try.prog 58 #[.slice (some ⟨g, 0, none⟩) l.length c, .int .i64 (i : Int), .int .i64 ((i : Int) + 1)] w (DelPost w lo g (l.length - 1) c (l.eraseIdx i)) := by
  obtain ⟨m, hm⟩ : ∃ m, i + 1 + m = l.length := ⟨l.length - (i + 1), by omega⟩
  obtain ⟨n, HN⟩ : ∃ n, Hid (l.length = n) := ⟨_, Lib.hid rfl⟩
  have hcap := owns_cap h
  have HH := Lib.hid h
  rw [HN.out] at hm hn hcap hi ⊢
  have e1 : n - 1 = i + m := by omega
  rw [e1]
  have k0 : (0 : Int) ≤ (i : Int) := by omega
  have k1 : (0 : Int) ≤ (i : Int) + 1 := by omega
  have k2 : (i : Int) ≤ (i : Int) + 1 := by omega
  have k3 : (i : Int) + 1 ≤ (n : Int) := by omega
  have k4 : (n : Int) ≤ (c : Int) := by omega
  have k5 : ¬ (n : Int) = (i : Int) := by omega
  have k6 : (i : Int) ≤ (c : Int) := by omega
  have hne : ¬ (i : Int) = (i : Int) + 1 := by omega
  clear h e1
  go_enter Try.func58, Try.ntmps58
  go_wp2_with fail
  refine region_tail 6 (by kernel_rfl) (by kernel_rfl) ?_
  intro w4 hw4
  have HG4 : Hid (w.grownBy w4 none) := Lib.hid (by rw [hw4]; exact grown_drewN w 1 none)
  have HH4 : Hid (GRw w4 lo (.slice (some ⟨g, 0, none⟩) l.length c) l) := Lib.hid (owns_stay HH.out fun k hk => HG4.out.block k (HH.out.lt k hk).2 (by simp))
  have e2 : n - (i + 1) = m := by omega
  have e3 : IntKind.i64.wrap ((i : Int) + 1) = (i : Int) + 1 := by rw [IntKind.wrap_i64]; omega
  have k7 : (i : Int) + 1 ≤ (c : Int) := by omega
  have hmn : m < c - i := by omega
  simp only [List.take_succ_cons, List.take_zero, List.drop_succ_cons, List.drop_zero]
  by_cases hm0 : c = i + 1
  · subst hm0
    clear k4 k6 k7
    have k4 : (n : Int) ≤ (i : Int) + 1 := by omega
    obtain ⟨w5, hr5, ho5, hg5⟩ := append_del HH4.out (i := i) (m := m) (by rw [HN.out]; exact hm) ⟨g, 0, none⟩ (fun h => by omega) 0 25
    skip
    have HR5 := Lib.hid hr5
    obtain ⟨w6, hr6, ho6, hg6⟩ := clear_end ho5 (by omega) 0
    have q5 : n - (i + m) = 1 := by omega
    skip
    rw [← q5] at hr6
    have HO6 := Lib.hid ho6
    have HG6 : Hid (w.grownBy w6 (some g)) := Lib.hid (grown_trans (grown_trans (grown_any HG4.out _) hg5) hg6)
    have HL6 : Hid ((l.eraseIdx i).length = i + m) := Lib.hid (by rw [List.length_eraseIdx, HN.out, if_pos hi]; omega)
    clear hw4 hr5 ho5 hg5 ho6 hg6 HH HH4 HG4 q5
    have q1 : (0 : Int) ≤ (i : Int) + (m : Int) := by omega
    have q2 : (i : Int) + (m : Int) ≤ (n : Int) := by omega
    have q3 : (n : Int) ≤ (i : Int) + 1 := by omega
    have q4 : ¬ (i : Int) + 1 = (i : Int) + (m : Int) := by omega
    repeat still_step
    refine wpStill_nil ?_
    go_wp2_with (at_builtin; refine append_run rfl (.tmp 22) (.tmp 25) 25 rfl rfl rfl HR5.out ?_)
    go_ret
    refine ⟨rfl, ?_, HG6.out⟩
    unfold GRw
    rw [HL6.out]
    exact HO6.out
  · have k8 : ¬ (c : Int) = (i : Int) + 1 := by omega
    obtain ⟨w5, hr5, ho5, hg5⟩ := append_del HH4.out (i := i) (m := m) (by rw [HN.out]; exact hm) ⟨g, (i + 1) * 4, none⟩ (fun _ => rfl) (c - (i + 1)) 25
    skip
    have HR5 := Lib.hid hr5
    obtain ⟨w6, hr6, ho6, hg6⟩ := clear_end ho5 (by omega) 0
    have q5 : n - (i + m) = 1 := by omega
    skip
    rw [← q5] at hr6
    have HO6 := Lib.hid ho6
    have HG6 : Hid (w.grownBy w6 (some g)) := Lib.hid (grown_trans (grown_trans (grown_any HG4.out _) hg5) hg6)
    have HL6 : Hid ((l.eraseIdx i).length = i + m) := Lib.hid (by rw [List.length_eraseIdx, HN.out, if_pos hi]; omega)
    clear hw4 hr5 ho5 hg5 ho6 hg6 HH HH4 HG4 q5
    have q1 : (0 : Int) ≤ (i : Int) + (m : Int) := by omega
    have q2 : (i : Int) + (m : Int) ≤ (n : Int) := by omega
    have q3 : (n : Int) ≤ (c : Int) := by omega
    have q4 : ¬ (c : Int) = (i : Int) + (m : Int) := by omega
    repeat still_step
    refine wpStill_nil ?_
    go_wp2_with (at_builtin; refine append_run rfl (.tmp 22) (.tmp 25) 25 rfl rfl rfl HR5.out ?_)
    go_ret
    refine ⟨rfl, ?_, HG6.out⟩
    unfold GRw
    rw [HL6.out]
    exact HO6.out
end
end Go.Proofs.Ytejcahkkpednfaa
namespace Go.Proofs.Ytejcahkkpednfaa
open Go.RowKit
open Go.Proofs.StackM
set_option linter.unusedVariables false
theorem st59 {ops : Array Oper} {rest : List Oper} {o : Oper} {a : Act} {w : World} {Q : Exit → Act → World → Prop} (hgd : o.guard = none) (x y : Operand) (ho : o.op = .store 58 x y) (g : Nat) (p0 p1 : Int) (p2 p3 : Bool) (hx : a.eval x = .pointer (some ⟨g, 0, none⟩)) (hy : a.eval y = .agg #[.int .u64 p0, .int .i64 p1, .bool p2, .bool p3])
    (old : Array Value) (hold : old.size = 4) (hb : w.heap[g]? = some (.cells old 58 (0, 0)))
    (hK : wpList Try.prog ops Q rest a (w.setRow g #[.int .u64 p0, .int .i64 p1, .bool p2, .bool p3])) (hd : o.dst = none := by rfl) : wpList Try.prog ops Q (o :: rest) a w :=
  wpList_store_row hgd 58 x y ho g #[.int .u64 p0, .int .i64 p1, .bool p2, .bool p3] hx hy 58 old hb info59 (by rw [hold]; rfl) (by simp [Value.oneCell']) (by rw [hd]; exact hK)
theorem results_p {fn : Func} {p : Tmp} (h : fn.results = #[.cell p 58]) (tmps : Array Value) (w : World) (g : Nat) (cs : Array Value)
    (hp : tmps.getD p undef = .pointer (some ⟨g, 0, none⟩)) (hg : w.heap[g]? = some (.cells cs 58 (0, 0))) (hs : cs.size = 4) : (results fn tmps).run Try.prog w = .ok (.agg cs) w := by
  have hp' : tmps[p]?.getD undef = .pointer (some ⟨g, 0, none⟩) := by simpa using hp
  have hl : (loadVar 58 ⟨g, 0, none⟩).run Try.prog w = .ok (.agg cs) w := run_loadVar_row (P := Try.prog) w g 58 58 cs (0, 0) _ hg Try.underlying58 rfl (by rw [hs]; kernel_rfl)
  simp only [results, h]
  simp [hp', asAddr, hl]
section
variable {lo B c : Nat} {w w' : World} {s s' : St} {r r' : R3} {A A' : Option Addr} {ev ev' : List Int} {c' : Nat}
theorem WK.viaBox (h : WK lo w B s r A c ev) (hg : w.grownBy w' (some B)) (hb : w'.heap[B]? = some (.cells (spA s' r' A' ev'.length c') 72 (0, 0))) (hr : WR lo w s' r' A' c' ev') : WK lo w' B s' r' A' c' ev' :=
  ⟨hb, h.hlo, ⟨owns_grown hr.pg hg (fun a e e2 => box_row h.box hr.pg (by decide) a e (by injection e2)), owns_grown hr.qu hg (fun a e e2 => box_row h.box hr.qu (by decide) a e (by injection e2)), owns_grown hr.gh hg (fun a e e2 => box_row h.box hr.gh (by decide) a e (by injection e2)), owns_grown hr.ev hg (fun a e e2 => box_row h.box hr.ev (by decide) a e (by injection e2)), hr.qg, hr.qe, hr.ge⟩⟩
end
end Go.Proofs.Ytejcahkkpednfaa
namespace Go.Proofs.Ytejcahkkpednfaa
open Go.RowKit
open Go.Proofs.StackM
set_option linter.unusedVariables false
section
variable {lo B c : Nat} {w : World} {s : St} {r : R3} {A : Option Addr} {ev : List Int}
theorem pvals_kind (l : List Pg) (i : Nat) (hi : i < l.length) (d : Int) : (pvals l).set (i * 4 + 1) (.int .i64 d) = pvals (l.set i { l[i] with kind := d }) := by
  induction l generalizing i with
  | nil => cases hi
  | cons a l ih =>
    cases i with
    | zero => rfl
    | succ i =>
      have e : ∀ q : List Pg, ∀ b : Pg, pvals (b :: q) = .int .u64 b.key :: .int .i64 b.kind :: .bool b.test :: .bool b.mark :: pvals q := fun _ _ => rfl
      have h0 : (i + 1) * 4 + 1 = i * 4 + 1 + 1 + 1 + 1 + 1 := by omega
      rw [List.set_cons_succ, e, e, h0]
      simp only [List.set_cons_succ, List.getElem_cons_succ]
      rw [ih i (by simpa using hi)]
theorem WK.pgSame {w' : World} (h : WK lo w B s r A c ev) (hg : w.grownBy w' (ob r.a1)) {l : List Pg} (ho : w'.ownsRow lo 58 4 (.slice r.a1 l.length r.c1) l.length (pvals l)) (hl : l.length = s.pg.length) : WK lo w' B { s with pg := l } r A c ev := by
  have hb := box_grown h.box h.rows.pg (by decide) hg
  refine ⟨?_, h.hlo, h.rows.pgTo hg ho⟩
  rw [hb]
  unfold spA sA
  rw [hl]
end
end Go.Proofs.Ytejcahkkpednfaa
namespace Go.Proofs.Ytejcahkkpednfaa
open Go.RowKit
open Go.Proofs.StackM
set_option linter.unusedVariables false
/-- what a copy is -/
def ClPost (el sz : Nat) (vs : List Value) (n : Nat) (w : World) (e : Ending) (w' : World) : Prop := ∃ A c, e = .returned (.slice A n c) ∧ w'.ownsRow w.heap.size el sz (.slice A n c) n vs ∧ Below w.heap.size w w'
set_option maxHeartbeats 1000000 in
set_option maxRecDepth 100000 in
theorem clonep_at (l : List Pg) (A : Option Addr) (n cap : Nat) (hn : n = l.length) (hb : n ≤ 900000) (w : World) (hr : PRow w A cap l) :
    Calls Try.prog 54 #[.slice A n cap] w (ClPost 58 4 (pvals l) n w) := by
  have qeq : ∀ (w : World) (a : Option Addr) (n c n' c' : Nat), (binOp .eql 25 (.slice a n c) (.slice none n' c')).run Try.prog w = .ok (.bool a.isNone) w := fun w a n c n' c' => Lib.run_eql_slice_nil w _ _ a n c n' c' Try.underlying25
  cases A with
  | none =>
    have hnil : l = [] ∧ cap = 0 := by
      rcases hr with ⟨_, h2, h3⟩ | ⟨b, off, e, _⟩
      · refine ⟨?_, h2⟩
        have := congrArg List.length h3
        rw [pvals_len] at this
        apply List.eq_nil_of_length_eq_zero
        simp only [List.length_nil] at this
        omega
      · cases e
    obtain ⟨rfl, rfl⟩ := hnil
    obtain rfl : n = 0 := hn
    clear hr
    show Calls Try.prog 54 #[.slice none 0 0] w fun e w' => ClPost 58 4 (pvals []) 0 w e w'
    go_enter Try.func54, Try.ntmps54
    go_wp2_with fail
    go_ret
    exact ⟨none, 0, rfl, World.ownsRow_nil _ _ _ _, Below.refl _ _⟩
  | some a =>
    obtain ⟨b, off, rfl⟩ : ∃ b off, a = ⟨b, off, none⟩ := by
      rcases hr with ⟨e, _⟩ | ⟨b, off, e, _⟩
      · cases e
      · injection e with e; exact ⟨b, off, e⟩
    have l0 : (w.alloc (.cells #[] 58)).ownsRow w.heap.size 58 4 (.slice (some ⟨w.heap.size, 0, none⟩) 0 0) 0 (pvals []) := World.ownsRow_lit (base := w.heap.size) (e := 58) (size := 4) w #[] 0 (Nat.le_refl _) (by decide) rfl
    obtain ⟨v7, w7, hrun7, o7, hb7⟩ := appP (n := 0) (m := n) (r := l) (A := some ⟨b, off, none⟩) (cap := cap) l0 (PRow.kept hr (alloc_below w (.cells #[] 58))) hn.symm (by omega) (alloc_below w (.cells #[] 58)).size
    rw [List.nil_append, Nat.zero_add] at o7
    have HB := Lib.hid ((alloc_below w (.cells #[] 58)).trans hb7)
    have HO := Lib.hid o7
    have HR := Lib.hid hrun7
    clear l0 hrun7 o7 hb7 hr hn
    show Calls Try.prog 54 #[.slice (some ⟨b, off, none⟩) n cap] w fun e w' => ClPost 58 4 (pvals l) n w e w'
    go_enter Try.func54, Try.ntmps54
    go_wp2_with (at_builtin; refine append_run rfl (.tmp 5) (.tmp 6) 25 rfl rfl rfl HR.out ?_)
    go_ret
    obtain ⟨A', c', hv, _⟩ := owns_vrow HO.out
    exact ⟨A', c', by rw [← hv]; rfl, by rw [← hv]; exact HO.out, HB.out⟩
set_option maxHeartbeats 1000000 in
set_option maxRecDepth 100000 in
theorem cloneu_at (l : List Int) (A : Option Addr) (n cap : Nat) (hn : n = l.length) (hb : n ≤ 900000) (w : World) (hr : URow w A cap l) :
    Calls Try.prog 55 #[.slice A n cap] w (ClPost 27 1 (uvals l) n w) := by
  have qeq : ∀ (w : World) (a : Option Addr) (n c n' c' : Nat), (binOp .eql 26 (.slice a n c) (.slice none n' c')).run Try.prog w = .ok (.bool a.isNone) w := fun w a n c n' c' => Lib.run_eql_slice_nil w _ _ a n c n' c' Try.underlying26
  cases A with
  | none =>
    have hnil : l = [] ∧ cap = 0 := by
      rcases hr with ⟨_, h2, h3⟩ | ⟨b, off, e, _⟩
      · refine ⟨?_, h2⟩
        have := congrArg List.length h3
        rw [uvals_len] at this
        apply List.eq_nil_of_length_eq_zero
        simp only [List.length_nil] at this
        omega
      · cases e
    obtain ⟨rfl, rfl⟩ := hnil
    obtain rfl : n = 0 := hn
    clear hr
    show Calls Try.prog 55 #[.slice none 0 0] w fun e w' => ClPost 27 1 (uvals []) 0 w e w'
    go_enter Try.func55, Try.ntmps55
    go_wp2_with fail
    go_ret
    exact ⟨none, 0, rfl, World.ownsRow_nil _ _ _ _, Below.refl _ _⟩
  | some a =>
    obtain ⟨b, off, rfl⟩ : ∃ b off, a = ⟨b, off, none⟩ := by
      rcases hr with ⟨e, _⟩ | ⟨b, off, e, _⟩
      · cases e
      · injection e with e; exact ⟨b, off, e⟩
    have l0 : (w.alloc (.cells #[] 27)).ownsRow w.heap.size 27 1 (.slice (some ⟨w.heap.size, 0, none⟩) 0 0) 0 (uvals []) := World.ownsRow_lit (base := w.heap.size) (e := 27) (size := 1) w #[] 0 (Nat.le_refl _) (by decide) rfl
    obtain ⟨v7, w7, hrun7, o7, hb7⟩ := appU (n := 0) (m := n) (r := l) (A := some ⟨b, off, none⟩) (cap := cap) l0 (URow.kept hr (alloc_below w (.cells #[] 27))) hn.symm (by omega) (alloc_below w (.cells #[] 27)).size
    rw [List.nil_append, Nat.zero_add] at o7
    have HB := Lib.hid ((alloc_below w (.cells #[] 27)).trans hb7)
    have HO := Lib.hid o7
    have HR := Lib.hid hrun7
    clear l0 hrun7 o7 hb7 hr hn
    show Calls Try.prog 55 #[.slice (some ⟨b, off, none⟩) n cap] w fun e w' => ClPost 27 1 (uvals l) n w e w'
    go_enter Try.func55, Try.ntmps55
    go_wp2_with (at_builtin; refine append_run rfl (.tmp 5) (.tmp 6) 26 rfl rfl rfl HR.out ?_)
    go_ret
    obtain ⟨A', c', hv, _⟩ := owns_vrow HO.out
    exact ⟨A', c', by rw [← hv]; rfl, by rw [← hv]; exact HO.out, HB.out⟩
theorem bld68run (s : St) (r : R3) (w : World) : (Instr.build 72 #[(0, sV s r)]).run Try.prog w = .ok (.agg (spA s r none 0 0)) w := by
  kernel_rfl
theorem bld68 {ops : Array Oper} {rest : List Oper} {o : Oper} {a : Act} {w : World} {Q : Exit → Act → World → Prop} (hg : o.guard = none) (x : Operand) (ho : o.op = .build 72 #[(0, x)]) (s : St) (r : R3) (hx : a.eval x = sV s r)
    (hK : wpList Try.prog ops Q rest (a.put o.dst (.agg (spA s r none 0 0))) w) : wpList Try.prog ops Q (o :: rest) a w := by
  refine wpList_plain hg fun K k => ?_
  unfold Oper.wp
  have := bld68run s r w
  simp [execOp, ho, hx, this]
  exact k _ _ hK
theorem owns_lo {w : World} {a b e sz n : Nat} {v : Value} {xs : List Value} (h : w.ownsRow a e sz v n xs) (hb : b ≤ a) : w.ownsRow b e sz v n xs := owns_base h hb
theorem Box.setOwn {w : World} {b e sz n lo : Nat} {A : Option Addr} {c : Nat} {xs : List Value} {cs : Array Value} (hb : Box w b cs) (h : w.ownsRow lo e sz (.slice A n c) n xs) (hne : b < lo) (k : Nat) (v : Value) : (w.setCell ⟨b, k, none⟩ v).ownsRow lo e sz (.slice A n c) n xs :=
  owns_grown h (grown_setCell w b k v) (fun a e1 e2 => by subst e1; injection e2 with e2; have := (h.lt a.block rfl).1; omega)
theorem sr_row2 {w : World} {s : St} {r : R3} {t b : Nat} (hr : SR w s r) (ho : Old t r) (hb : t ≤ b) (k : Nat) (v : Value) : SR (w.setCell ⟨b, k, none⟩ v) s r := by
  have hs : (w.setCell ⟨b, k, none⟩ v).heap.size = w.heap.size := by simp [World.setCell]
  exact ⟨⟨vrow_set hr.pg.row (fun a e => by have := ho.1 a e; omega), fun a e => by rw [hs]; exact hr.pg.lt a e, hr.pg.le⟩, ⟨vrow_set hr.qu.row (fun a e => by have := ho.2.1 a e; omega), fun a e => by rw [hs]; exact hr.qu.lt a e, hr.qu.le⟩, ⟨vrow_set hr.gh.row (fun a e => by have := ho.2.2 a e; omega), fun a e => by rw [hs]; exact hr.gh.lt a e, hr.gh.le⟩⟩
set_option maxHeartbeats 2000000 in
set_option maxRecDepth 100000 in
theorem begin_at (s : St) (r : R3) (hl : Lim s 900000) (w : World) (hr : SR w s r) :
    Calls Try.prog 32 #[sV s r] w fun e w' => ∃ B r' A c, e = .returned (.pointer (some ⟨B, 0, none⟩)) ∧ WK w.heap.size w' B s r' A c [] ∧ Below w.heap.size w w' := by
  have b1 := alloc_below w (.cells (sA s r) 31)
  have x1 := box_alloc w (sA s r) (sA_len _ _)
  have hr1 := hr.kept b1
  obtain ⟨w1, hw1⟩ : ∃ w1, w1 = w.alloc (.cells (sA s r) 31) := ⟨_, rfl⟩
  rw [← hw1] at b1 x1 hr1
  obtain ⟨g, hg⟩ : ∃ g, g = w.heap.size := ⟨_, rfl⟩
  rw [← hg] at x1
  have hg1 : g < w1.heap.size := x1.lt
  have C1 := Lib.hid (clonep_at s.pg r.a1 s.pg.length r.c1 rfl hl.1 w1 hr1.pg.row)
  have HW := Lib.hid (And.intro hw1 hg)
  have H1 := Lib.hid (And.intro x1 (And.intro b1 (And.intro hr1 (And.intro hl hr.old))))
  have d5 := at5 x1
  clear b1 x1 hr1 hw1 hg hr hl
  go_enter Try.func32, Try.ntmps32
  go_wp2_with (first | fail | rw [← HW.out.1, ← HW.out.2])
  refine C1.out.mono ?_
  rintro e w2 ⟨A1, c1, rfl, o2, hb2⟩
  have x2 := H1.out.1.kept hb2 hg1
  have e5 := at5 x2
  have f5 := x2.free 5
  have y2 := x2.set 5 (.slice A1 s.pg.length c1)
  have p2 := x2.setOwn (owns_lo o2 (Nat.le_refl _)) hg1 5 (.slice A1 s.pg.length c1)
  have q2 := below_setCell (k := 5) (v := .slice A1 s.pg.length c1) ((H1.out.2.1.trans (hb2.mono H1.out.2.1.size))) (Nat.le_of_eq HW.out.2.symm)
  have x3 := x2.set 5 (.slice A1 s.pg.length c1)
  have hr3 : SR w2 s r := H1.out.2.2.1.kept hb2
  have hrg : Old w.heap.size r := H1.out.2.2.2.2
  obtain ⟨w3, hw3⟩ : ∃ w3, w3 = w2.setCell ⟨g, 5, none⟩ (.slice A1 s.pg.length c1) := ⟨_, rfl⟩
  have hr4 : SR w3 s r := by rw [hw3]; exact sr_row2 hr3 hrg (Nat.le_of_eq HW.out.2.symm) 5 _
  rw [← hw3] at x3 p2 q2
  have e6 := x3.cell 6 (.slice r.a2 s.qu.length r.c2) rfl
  have hg3 : g < w3.heap.size := x3.lt
  have HH3 := Lib.hid (And.intro x3 (And.intro p2 (And.intro q2 hr4)))
  have d6 := at6 x2
  have HW3 := Lib.hid hw3
  clear x2 y2 p2 q2 x3 hr3 hr4 hrg o2 hb2 hw3 d5 C1
  go_wp2_with (first | fail | rw [← HW3.out])
  clear e5 f5 d6
  refine (cloneu_at s.qu r.a2 s.qu.length r.c2 rfl H1.out.2.2.2.1.2.1 w3 HH3.out.2.2.2.qu.row).mono ?_
  rintro e w4 ⟨A2, c2, rfl, o4, hb4⟩
  have x4 := HH3.out.1.kept hb4 hg3
  have i6 := x4.cell 6 (.slice r.a2 s.qu.length r.c2) rfl
  have f6 := x4.free 6
  have i7 := x4.cell 7 (.slice r.a3 s.gh.length r.c3) rfl
  have x5 := x4.set 6 (.slice A2 s.qu.length c2)
  have p5 := x4.setOwn (own_below HH3.out.2.1 hb4) hg1 6 (.slice A2 s.qu.length c2)
  have o5 := x4.setOwn o4 hg3 6 (.slice A2 s.qu.length c2)
  have q5 := below_setCell (k := 6) (v := .slice A2 s.qu.length c2) (HH3.out.2.2.1.trans (hb4.mono HH3.out.2.2.1.size)) (Nat.le_of_eq HW.out.2.symm)
  have r5 := sr_row2 (HH3.out.2.2.2.kept hb4) H1.out.2.2.2.2 (Nat.le_of_eq HW.out.2.symm) 6 (.slice A2 s.qu.length c2)
  have sz5 : (w4.setCell ⟨g, 6, none⟩ (.slice A2 s.qu.length c2)).heap.size = w4.heap.size := by simp [World.setCell]
  have sz4 := hb4.size
  obtain ⟨w5, hw5⟩ : ∃ w5, w5 = w4.setCell ⟨g, 6, none⟩ (.slice A2 s.qu.length c2) := ⟨_, rfl⟩
  rw [← hw5] at x5 p5 o5 q5 r5 sz5
  have hg5 : g < w5.heap.size := x5.lt
  have j7 := x5.cell 7 (.slice r.a3 s.gh.length r.c3) rfl
  have HH5 := Lib.hid (And.intro x5 (And.intro p5 (And.intro o5 (And.intro q5 (And.intro r5 (And.intro sz5 sz4))))))
  have HW5 := Lib.hid hw5
  have hw3l : g < w3.heap.size := hg3
  clear x4 x5 p5 o5 q5 r5 sz5 sz4 hw5 o4 hb4 e6
  go_wp2_with (first | fail | rw [← HW5.out])
  clear i6 f6 i7 j7
  refine (cloneu_at s.gh r.a3 s.gh.length r.c3 rfl H1.out.2.2.2.1.2.2 w5 HH5.out.2.2.2.2.1.gh.row).mono ?_
  rintro e w6 ⟨A3, c3, rfl, o6, hb6⟩
  have x6 := HH5.out.1.kept hb6 hg5
  have i7 := x6.cell 7 (.slice r.a3 s.gh.length r.c3) rfl
  have f7 := x6.free 7
  have x7 := x6.set 7 (.slice A3 s.gh.length c3)
  have p7 := x6.setOwn (own_below HH5.out.2.1 hb6) hg1 7 (.slice A3 s.gh.length c3)
  have o7 := x6.setOwn (own_below HH5.out.2.2.1 hb6) hw3l 7 (.slice A3 s.gh.length c3)
  have t7 := x6.setOwn o6 hg5 7 (.slice A3 s.gh.length c3)
  have q7 := below_setCell (k := 7) (v := .slice A3 s.gh.length c3) (HH5.out.2.2.2.1.trans (hb6.mono HH5.out.2.2.2.1.size)) (Nat.le_of_eq HW.out.2.symm)
  have hbx : (((sA s r).setIfInBounds 5 (.slice A1 s.pg.length c1)).setIfInBounds 6 (.slice A2 s.qu.length c2)).setIfInBounds 7 (.slice A3 s.gh.length c3) = sA s ⟨A1, c1, A2, c2, A3, c3⟩ := rfl
  rw [hbx] at x7
  have sz7 : (w6.setCell ⟨g, 7, none⟩ (.slice A3 s.gh.length c3)).heap.size = w6.heap.size := by simp [World.setCell]
  obtain ⟨w7, hw7⟩ : ∃ w7, w7 = w6.setCell ⟨g, 7, none⟩ (.slice A3 s.gh.length c3) := ⟨_, rfl⟩
  rw [← hw7] at x7 p7 o7 t7 q7 sz7
  have hb8 := alloc_below w7 (.cells (spA s ⟨A1, c1, A2, c2, A3, c3⟩ none 0 0) 72)
  have hlo : w.heap.size ≤ w1.heap.size := H1.out.2.1.size
  have hlo3 : w.heap.size ≤ w3.heap.size := HH3.out.2.2.1.size
  have hlo5 : w.heap.size ≤ w5.heap.size := HH5.out.2.2.2.1.size
  have hWK : WK w.heap.size (w7.alloc (.cells (spA s ⟨A1, c1, A2, c2, A3, c3⟩ none 0 0) 72)) w7.heap.size s ⟨A1, c1, A2, c2, A3, c3⟩ none 0 [] := by
    refine ⟨heap_alloc_new w7 _, q7.size, ?_⟩
    refine ⟨own_below (owns_base p7 hlo) hb8, own_below (owns_base o7 hlo3) hb8, own_below (owns_base t7 hlo5) hb8, World.ownsRow_nil _ _ _ _, ?_, (fun a b _ e => nomatch e), (fun a b _ e => nomatch e)⟩
    intro a b ea eb e
    have h2 := (HH5.out.2.2.1.lt a.block (by rw [show A2 = some a from ea]; rfl)).2
    have h3 := (t7.lt b.block (by rw [show A3 = some b from eb]; rfl)).1
    omega
  have HZ := Lib.hid (And.intro hWK (q7.trans (hb8.mono q7.size)))
  have HX7 := Lib.hid x7
  have HW7 := Lib.hid hw7
  clear x6 x7 p7 o7 t7 q7 hbx hw7 o6 hb6 hb8 hlo hlo3 hlo5 hWK sz7
  go_wp2_with (first | fail | (rw [← HW7.out]; refine ld31 rfl (.tmp 1) rfl _ rfl _ HX7.out ?_) | refine bld68 rfl (.tmp 15) rfl s ⟨A1, c1, A2, c2, A3, c3⟩ rfl ?_)
  go_ret
  exact ⟨_, _, _, _, rfl, HZ.out.1, HZ.out.2⟩
end Go.Proofs.Ytejcahkkpednfaa
