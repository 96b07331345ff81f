/-
  A range over a function whose iterator keeps memory of its own between two rounds, and may itself range over another one: what the caller owns is told by a set of blocks ('Ft') that goes along; whatever else lies since the call began is the iterator's. No program is named here.
-/
import Derived.RangeFuncNested
import Derived.RangeFuncBound
import Derived.RangeFuncCalls
import Derived.RangeFuncLeaves
import Derived.Shelf.Abstract
import Derived.WalkKit
import Derived.OwnWalkIn
import Derived.TacticsInMore
import Derived.LoopNIn
import Derived.LoopIn
namespace Go.Proofs.Ytcphbendmnmpiaa
open Go.RowKit Go.Shelf
set_option linter.unusedVariables false

abbrev WF : Fence := Fence.wide

/-- the blocks of S lie as they lay; the heap has at most grown -/
structure Stay (S : Nat → Prop) (W W' : World) : Prop where
  os : W'.os = W.os
  tape : W'.tape = W.tape
  output : W'.output = W.output
  size : W.heap.size ≤ W'.heap.size
  block : ∀ k, k < W.heap.size → S k → W'.heap[k]? = W.heap[k]?

theorem Stay.refl (S : Nat → Prop) (W : World) : Stay S W W := ⟨rfl, rfl, rfl, Nat.le_refl _, fun _ _ _ => rfl⟩
theorem Stay.trans {S : Nat → Prop} {A B C : World} (h : Stay S A B) (k : Stay S B C) : Stay S A C :=
  ⟨k.os.trans h.os, k.tape.trans h.tape, k.output.trans h.output, Nat.le_trans h.size k.size, fun j hj hs => (k.block j (Nat.lt_of_lt_of_le hj h.size) hs).trans (h.block j hj hs)⟩
theorem Stay.weaken {S T : Nat → Prop} {A B : World} (h : Stay S A B) (ht : ∀ k, k < A.heap.size → T k → S k) : Stay T A B :=
  ⟨h.os, h.tape, h.output, h.size, fun j hj hs => h.block j hj (ht j hj hs)⟩
theorem Stay.of_grown {A B : World} {row : Option Nat} (h : A.grownBy B row) {S : Nat → Prop} (hr : ∀ r, row = some r → r < A.heap.size → ¬ S r) : Stay S A B :=
  ⟨h.os, h.tape, h.output, h.size, fun j hj hs => h.block j hj (fun e => hr j e.symm hj hs)⟩
theorem Stay.grown {A B : World} (h : Stay (fun _ => True) A B) (row : Option Nat) : A.grownBy B row :=
  ⟨h.os, h.tape, h.output, h.size, fun k hk _ => h.block k hk trivial⟩
theorem Stay.putObj (S : Nat → Prop) (W : World) (l : Nat) (o : Obj) (h : ¬ S l) : Stay S W (W.putObj l o) :=
  Stay.of_grown (grownBy_putObj' W l o) (fun r e _ hs => by cases e; exact h hs)

/-- what is said abides whatever leaves the blocks below B, and the caller's own, as they lay -/
def Firm {β : Type} (B : Nat) (J : β → (Nat → Prop) → World → Prop) : Prop :=
  ∀ s Ft W W', J s Ft W → Stay (fun k => k < B ∨ Ft k) W W' → J s Ft W'
theorem Firm.mono {β : Type} {B B' : Nat} {J : β → (Nat → Prop) → World → Prop} (h : Firm B J) (hB : B ≤ B') : Firm B' J :=
  fun s Ft W W' hs hst => h s Ft W W' hs (hst.weaken fun k _ hk => hk.elim (fun h' => .inl (Nat.lt_of_lt_of_le h' hB)) .inr)
/-- the caller's own blocks are cells, from lo on -/
def Owned {β : Type} (lo : Nat) (J : β → (Nat → Prop) → World → Prop) : Prop :=
  ∀ s Ft W k, J s Ft W → Ft k → lo ≤ k ∧ ∃ o : Obj, W.heap[k]? = some o ∧ o.isCells = true
/-- what a round does: it turns none but the caller's own blocks (and those of X: records of loops around it); those that are the caller's behind it were so, or are new -/
structure Step (X : Nat → Prop) (Ft Ft' : Nat → Prop) (W W' : World) : Prop where
  stay : Stay (fun k => ¬ Ft k ∧ ¬ X k) W W'
  foot : ∀ k, Ft' k → Ft k ∨ W.heap.size ≤ k

theorem Step.refl (X : Nat → Prop) (Ft : Nat → Prop) (W : World) : Step X Ft Ft W W := ⟨Stay.refl _ _, fun _ h => .inl h⟩
theorem Step.trans {X : Nat → Prop} {F1 F2 F3 : Nat → Prop} {A B C : World} (h : Step X F1 F2 A B) (k : Step X F2 F3 B C) : Step X F1 F3 A C := by
  refine ⟨⟨k.stay.os.trans h.stay.os, k.stay.tape.trans h.stay.tape, k.stay.output.trans h.stay.output, Nat.le_trans h.stay.size k.stay.size, fun j hj hs => ?_⟩, fun j hj => ?_⟩
  · refine (k.stay.block j (Nat.lt_of_lt_of_le hj h.stay.size) ⟨fun h2 => ?_, hs.2⟩).trans (h.stay.block j hj hs)
    rcases h.foot j h2 with h3 | h3
    · exact hs.1 h3
    · omega
  · rcases k.foot j hj with h2 | h2
    · exact h.foot j h2
    · exact .inr (Nat.le_trans h.stay.size h2)

/-- how a call of yield comes back -/
def YPost {α : Type} (X : Nat → Prop) (J Jx : List α → (Nat → Prop) → World → Prop) (pre : List α) (x : α) (Ft : Nat → Prop) (W : World) (e : Ending) (W' : World) : Prop :=
  (e = .returned (.bool true) ∧ ∃ Ft', J (pre ++ [x]) Ft' W' ∧ Step X Ft Ft' W W') ∨ (e = .returned (.bool false) ∧ ∃ Ft', Jx (pre ++ [x]) Ft' W' ∧ Step X Ft Ft' W W')

/-- the contract of an iterator value -/
def Seq {α : Type} (P : Program) (Prot : Nat → Prop) (lo g : Nat) (lb : Array Value) (encs : α → Array Value) (S Sp : List α → Prop) (N : Nat) (w : World) : Prop :=
  ∀ (n l : Nat) (X : Nat → Prop) (J Jx : List α → (Nat → Prop) → World → Prop) (W : World) (F0 : Nat → Prop), w.grownBy W none → lo ≤ W.heap.size → (∀ k, X k → lo ≤ k ∧ k < W.heap.size ∧ ¬ Prot k) →
    Firm W.heap.size J → Firm W.heap.size Jx → Owned lo J → Owned lo Jx → (∀ s Ft W', J s Ft W' → ∀ k, Prot k → ¬ Ft k) →
    (∀ (m : Nat) (pre : List α) (x : α) (Ft : Nat → Prop) (W1 : World), J pre Ft W1 → pre.length < N → Sp (pre ++ [x]) → YieldAt WF m P l (encs x) W1 (YPost X J Jx pre x Ft W1)) →
    J [] F0 W → (∀ k, F0 k → k < W.heap.size) →
    CallsIn WF n P g (#[.func (.yield l) #[] #[]] ++ lb) W fun e W' => (∃ v, e = .returned v) ∧ ((∃ xs Ft, S xs ∧ J xs Ft W') ∨ (∃ pre Ft, Sp pre ∧ Jx pre Ft W'))

/-- how the body of a round may be left -/
def BPost {α : Type} (X : Nat → Prop) (I : List α → (Nat → Prop) → World → Prop) (Ix : Code → List α → (Nat → Prop) → World → Prop) (pre : List α) (Ft : Nat → Prop) (W : World) : Exit → Act → World → Prop
  | .normal, _, W' => ∃ Ft', I pre Ft' W' ∧ Step X Ft Ft' W W'
  | .ret, _, W' => ∃ Ft', Ix .ret pre Ft' W' ∧ Step X Ft Ft' W W'
  | .exit id, _, W' => ∃ Ft', Ix (.exit id) pre Ft' W' ∧ Step X Ft Ft' W W'
  | .goto t, _, W' => ∃ Ft', Ix (.goto t) pre Ft' W' ∧ Step X Ft Ft' W W'
  | .panic _, _, _ => False
  | .outgrown, _, _ => False

section
variable {P : Program}

theorem not_cells_loop (r : Loop) : (Obj.loop r).isCells = false := rfl

/-- one round of the loop whose record lies at l, the block for deferred calls at D -/
theorem round_of {α : Type} {lo B D l : Nat} {X : Nat → Prop} (hX : ∀ k, X k → k < B) {fn : FuncId} {tmps : Array Value} {ps : Array Tmp} {assign body : Code} {encs : α → Array Value} (hps : ∀ x, (encs x).size = ps.size)
    {I : List α → (Nat → Prop) → World → Prop} {Ix : Code → List α → (Nat → Prop) → World → Prop} (hI : Firm B I) (hIx : ∀ c, Firm B (Ix c)) (oI : Owned lo I) (oIx : ∀ c, Owned lo (Ix c)) (hlB : B ≤ l) (hDB : B ≤ D) (hDl : D ≠ l)
    (a₁ : α → Act)
    (hassign : ∀ (m : Nat) (x : α) (W : World) (K : Act → World → Prop), K (a₁ x) W →
      assign.wpIn (WF.inRound l) m P (Exit.then K (fun _ _ _ => False)) { tmps := (ps.zip (encs x)).foldl (fun t (p, v) => t.setIfInBounds p v) tmps, defers := [] } W)
    {pre : List α} {x : α} {Ft : Nat → Prop} {W : World}
    (hbody : ∀ (m : Nat) (W : World), I pre Ft W → body.wpIn (WF.inRound l) m P (BPost X I Ix (pre ++ [x]) Ft W) (a₁ x) W)
    (hi : I pre Ft W) (m : Nat)
    (hl : W.heap[l]? = some (.loop { state := .ready, pending := none, fn := fn, tmps := tmps, params := ps, assign := assign, body := body, defers := D }))
    (hD : W.heap[D]? = some (.deferred (some []))) :
    YieldAt WF m P l (encs x) W fun e W' =>
      (e = .returned (.bool true) ∧ ∃ Ft', (I (pre ++ [x]) Ft' W' ∧ W'.heap[l]? = W.heap[l]? ∧ W'.heap[D]? = some (.deferred (some []))) ∧ Step (fun k => k = l ∨ X k) Ft Ft' W W') ∨
      (e = .returned (.bool false) ∧ ∃ Ft', (∃ c, Ix c (pre ++ [x]) Ft' W' ∧ W'.heap[l]? = some (.loop { state := .done, pending := some c, fn := fn, tmps := tmps, params := ps, assign := assign, body := body, defers := D }) ∧ W'.heap[D]? = some (.deferred (some []))) ∧ Step (fun k => k = l ∨ X k) Ft Ft' W W') := by
  have hlt : l < W.heap.size := (Array.getElem?_eq_some_iff.1 hl).1
  refine ⟨fn, _, assign, body, run_yield (P := P) (args := encs x) hl (hps x), roundIn_of_wpIn trivial (hassign _ x W _ ⟨_, run_beginRound hl rfl, ?_⟩)⟩
  -- the record is busy
  have hnl : ¬ Ft l := fun h => by
    obtain ⟨_, o, ho, hc⟩ := oI _ _ _ _ hi h
    rw [hl] at ho; cases ho; cases hc
  have hi2 := hI _ _ _ _ hi (Stay.putObj (fun k => k < B ∨ Ft k) W l (.loop { state := .busy, pending := none, fn := fn, tmps := tmps, params := ps, assign := assign, body := body, defers := D }) (fun h => h.elim (fun h => by omega) hnl))
  refine wpIn_mono (hbody _ _ hi2) ?_
  have hl2 := World.putObj_heap_same (w := W) (o := .loop { state := .busy, pending := none, fn := fn, tmps := tmps, params := ps, assign := assign, body := body, defers := D }) hlt
  have hD2 : (W.putObj l (.loop { state := .busy, pending := none, fn := fn, tmps := tmps, params := ps, assign := assign, body := body, defers := D })).heap[D]? = some (.deferred (some [])) := (World.putObj_heap_other hDl).trans hD
  have s0 := Stay.putObj (fun k => ¬ Ft k ∧ ¬ (k = l ∨ X k)) W l (.loop { state := .busy, pending := none, fn := fn, tmps := tmps, params := ps, assign := assign, body := body, defers := D }) (fun h => h.2 (.inl rfl))
  have hz : (W.putObj l (.loop { state := .busy, pending := none, fn := fn, tmps := tmps, params := ps, assign := assign, body := body, defers := D })).heap.size = W.heap.size := World.putObj_size
  have hnD : ¬ Ft D := fun h => by
    obtain ⟨_, o, ho, hc⟩ := oI _ _ _ _ hi h
    rw [hD] at ho; cases ho; cases hc
  generalize W.putObj l (.loop { state := .busy, pending := none, fn := fn, tmps := tmps, params := ps, assign := assign, body := body, defers := D }) = W2 at *
  -- what the round's end does, whatever the body owns behind it
  have fin : ∀ (jump : Option Code) (Ft' : Nat → Prop) (W3 : World), Step X Ft Ft' W2 W3 →
      W3.heap[l]? = some (.loop { state := .busy, pending := none, fn := fn, tmps := tmps, params := ps, assign := assign, body := body, defers := D }) ∧ W3.heap[D]? = some (.deferred (some [])) := by
    intro jump Ft' W3 h3
    exact ⟨(h3.stay.block l (Array.getElem?_eq_some_iff.1 hl2).1 ⟨hnl, fun h => by have := hX _ h; omega⟩).trans hl2, (h3.stay.block D (Array.getElem?_eq_some_iff.1 hD2).1 ⟨hnD, fun h => by have := hX _ h; omega⟩).trans hD2⟩
  have fin2 : ∀ (Ft' : Nat → Prop) (W3 : World) (o : Obj), Step X Ft Ft' W2 W3 → Step (fun k => k = l ∨ X k) Ft Ft' W (W3.putObj l o) := by
    intro Ft' W3 o h3
    refine ⟨(s0.trans (h3.stay.weaken fun k _ hk => ⟨hk.1, fun h => hk.2 (.inr h)⟩)).trans (Stay.putObj _ _ _ _ fun h => h.2 (.inl rfl)), fun k hk => ?_⟩
    rcases h3.foot k hk with h | h
    · exact .inl h
    · exact .inr (by omega)
  have fin3 : ∀ (Ft' : Nat → Prop) (W3 : World), Step X Ft Ft' W2 W3 → (∀ k, Ft' k → ∃ o : Obj, W3.heap[k]? = some o ∧ o.isCells = true) → ¬ Ft' l := by
    intro Ft' W3 h3 ho h
    obtain ⟨o, ho, hc⟩ := ho l h
    rw [(fin none Ft' W3 h3).1] at ho; cases ho; cases hc
  rintro e a3 W3 hp
  cases e with
  | normal =>
    obtain ⟨Ft', hi3, hst⟩ := hp
    obtain ⟨hl3, hD3⟩ := fin none Ft' W3 hst
    have hlt3 := (Array.getElem?_eq_some_iff.1 hl3).1
    have hn3 := fin3 Ft' W3 hst fun k hk => (oI _ _ _ _ hi3 hk).2
    exact ⟨_, _, run_endRound (P := P) none hl3, .inl ⟨rfl, Ft', ⟨hI _ _ _ _ hi3 (Stay.putObj _ _ _ _ fun h => h.elim (fun h => by omega) hn3), (World.putObj_heap_same hlt3).trans hl.symm, (World.putObj_heap_other hDl).trans hD3⟩, fin2 Ft' W3 _ hst⟩⟩
  | ret =>
    obtain ⟨Ft', hi3, hst⟩ := hp
    obtain ⟨hl3, hD3⟩ := fin none Ft' W3 hst
    have hlt3 := (Array.getElem?_eq_some_iff.1 hl3).1
    have hn3 := fin3 Ft' W3 hst fun k hk => (oIx _ _ _ _ _ hi3 hk).2
    exact ⟨_, _, run_endRound (P := P) (some .ret) hl3, .inr ⟨rfl, Ft', ⟨.ret, hIx _ _ _ _ _ hi3 (Stay.putObj _ _ _ _ fun h => h.elim (fun h => by omega) hn3), World.putObj_heap_same hlt3, (World.putObj_heap_other hDl).trans hD3⟩, fin2 Ft' W3 _ hst⟩⟩
  | exit id =>
    obtain ⟨Ft', hi3, hst⟩ := hp
    obtain ⟨hl3, hD3⟩ := fin none Ft' W3 hst
    have hlt3 := (Array.getElem?_eq_some_iff.1 hl3).1
    have hn3 := fin3 Ft' W3 hst fun k hk => (oIx _ _ _ _ _ hi3 hk).2
    exact ⟨_, _, run_endRound (P := P) (some (.exit id)) hl3, .inr ⟨rfl, Ft', ⟨.exit id, hIx _ _ _ _ _ hi3 (Stay.putObj _ _ _ _ fun h => h.elim (fun h => by omega) hn3), World.putObj_heap_same hlt3, (World.putObj_heap_other hDl).trans hD3⟩, fin2 Ft' W3 _ hst⟩⟩
  | goto t =>
    obtain ⟨Ft', hi3, hst⟩ := hp
    obtain ⟨hl3, hD3⟩ := fin none Ft' W3 hst
    have hlt3 := (Array.getElem?_eq_some_iff.1 hl3).1
    have hn3 := fin3 Ft' W3 hst fun k hk => (oIx _ _ _ _ _ hi3 hk).2
    exact ⟨_, _, run_endRound (P := P) (some (.goto t)) hl3, .inr ⟨rfl, Ft', ⟨.goto t, hIx _ _ _ _ _ hi3 (Stay.putObj _ _ _ _ fun h => h.elim (fun h => by omega) hn3), World.putObj_heap_same hlt3, (World.putObj_heap_other hDl).trans hD3⟩, fin2 Ft' W3 _ hst⟩⟩
  | panic ch => exact hp.elim
  | outgrown => exact hp.elim

/-- a range over a function, out of the iterator's contract and one walk of the body -/
theorem range_own {α : Type} {n : Nat} {g : Operand} {ps : Array Tmp} {assign body : Code} {Q : Exit → Act → World → Prop} {a : Act} {w : World}
    {gf : Nat} {lb : Array Value} (hg : a.eval g = .func (.func gf) #[] lb) (eg : ∀ args w, (callFunc gf args).run P w = .ok (.enter gf args) w)
    {encs : α → Array Value} {S Sp : List α → Prop} {N lo : Nat} {w0 : World} {Prot : Nat → Prop} (hPr : ∀ k, Prot k → k < w.heap.size) (hseq : Seq P Prot lo gf lb encs S Sp N w0) (hb0 : w0.grownBy w none) (hlo : lo ≤ w.heap.size) (hps : ∀ x, (encs x).size = ps.size) (X : Nat → Prop) (hX : ∀ k, X k → lo ≤ k ∧ k < w.heap.size ∧ ¬ Prot k)
    (I : List α → (Nat → Prop) → World → Prop) (Ix : Code → List α → (Nat → Prop) → World → Prop) (hI : Firm w.heap.size I) (hIx : ∀ c, Firm w.heap.size (Ix c)) (oI : Owned lo I) (oIx : ∀ c, Owned lo (Ix c)) (hProt : ∀ s Ft W', I s Ft W' → ∀ k, Prot k → ¬ Ft k)
    (F0 : Nat → Prop) (h0 : I [] F0 w) (hF0 : ∀ k, F0 k → k < w.heap.size) (a₁ : α → Act)
    (hassign : ∀ (l m : Nat) (x : α) (W : World) (K : Act → World → Prop), K (a₁ x) W →
      assign.wpIn (WF.inRound l) m P (Exit.then K (fun _ _ _ => False)) { tmps := (ps.zip (encs x)).foldl (fun t (p, v) => t.setIfInBounds p v) a.tmps, defers := [] } W)
    (hbody : ∀ (l m : Nat) (pre : List α) (x : α) (Ft : Nat → Prop) (W : World), I pre Ft W → pre.length < N → Sp (pre ++ [x]) → body.wpIn (WF.inRound l) m P (BPost X I Ix (pre ++ [x]) Ft W) (a₁ x) W)
    (hdone : ∀ (xs : List α) (Ft : Nat → Prop) (W : World), S xs → I xs Ft W → W.heap[w.heap.size]? = some (.deferred (some [])) → Q .normal { a with defers := { target := .collected w.heap.size, args := #[] } :: a.defers } W)
    (hstop : ∀ (c : Code) (pre : List α) (Ft : Nat → Prop) (W : World), Sp pre → Ix c pre Ft W → W.heap[w.heap.size]? = some (.deferred (some [])) → c.wpIn WF n P Q { a with defers := { target := .collected w.heap.size, args := #[] } :: a.defers } W) :
    (Code.rangeFunc g ps assign body).wpIn WF n P Q a w := by
  refine wpIn_rangeFunc fun fn _ => ?_
  have hW1 := run_enterLoop_outer (P := P) (w := w) fn a.tmps ps assign body
  have hz1 : ((w.alloc (.deferred (some []))).alloc (.loop { state := .ready, pending := none, fn := fn, tmps := a.tmps, params := ps, assign := assign, body := body, defers := w.heap.size })).heap.size = w.heap.size + 2 := by simp
  have hL1 : ((w.alloc (.deferred (some []))).alloc (.loop { state := .ready, pending := none, fn := fn, tmps := a.tmps, params := ps, assign := assign, body := body, defers := w.heap.size })).heap[w.heap.size + 1]? = some (.loop { state := .ready, pending := none, fn := fn, tmps := a.tmps, params := ps, assign := assign, body := body, defers := w.heap.size }) := by
    have := World.alloc_heap_new (w.alloc (.deferred (some []))) (.loop { state := .ready, pending := none, fn := fn, tmps := a.tmps, params := ps, assign := assign, body := body, defers := w.heap.size })
    rwa [World.size_alloc] at this
  have hD1 : ((w.alloc (.deferred (some []))).alloc (.loop { state := .ready, pending := none, fn := fn, tmps := a.tmps, params := ps, assign := assign, body := body, defers := w.heap.size })).heap[w.heap.size]? = some (.deferred (some [])) :=
    (Below.heap_alloc _ _ _ (by simp)).trans (World.alloc_heap_new w _)
  have hg1 : Stay (fun _ => True) w ((w.alloc (.deferred (some []))).alloc (.loop { state := .ready, pending := none, fn := fn, tmps := a.tmps, params := ps, assign := assign, body := body, defers := w.heap.size })) :=
    (Stay.of_grown (World.grownBy_alloc _ _ none) (by simp)).trans (Stay.of_grown (World.grownBy_alloc _ _ none) (by simp))
  generalize (w.alloc (.deferred (some []))).alloc (.loop { state := .ready, pending := none, fn := fn, tmps := a.tmps, params := ps, assign := assign, body := body, defers := w.heap.size }) = W1 at *
  refine ⟨w.heap.size + 1, _, W1, { target := .fn (.func gf) lb, args := #[.func (.yield (w.heap.size + 1)) #[] #[]] }, W1, gf, #[.func (.yield (w.heap.size + 1)) #[] #[]] ++ lb, W1, hW1, ?_, ?_, ?_, ?_, ?_⟩
  · simp only [resolve, hg]
    simp [go_sem]
  · intro f' _; trivial
  · simp [invoke, go_sem, eg]
  · intro h; simp [Fence.wide] at h
  · refine (hseq (n - 1) (w.heap.size + 1) (fun k => k = w.heap.size + 1 ∨ X k)
      (fun pre Ft W => I pre Ft W ∧ W.heap[w.heap.size + 1]? = some (.loop { state := .ready, pending := none, fn := fn, tmps := a.tmps, params := ps, assign := assign, body := body, defers := w.heap.size }) ∧ W.heap[w.heap.size]? = some (.deferred (some [])))
      (fun pre Ft W => ∃ c, Ix c pre Ft W ∧ W.heap[w.heap.size + 1]? = some (.loop { state := .done, pending := some c, fn := fn, tmps := a.tmps, params := ps, assign := assign, body := body, defers := w.heap.size }) ∧ W.heap[w.heap.size]? = some (.deferred (some [])))
      W1 F0 ?_ (by omega) (fun k hk => hk.elim (fun h => ⟨by omega, by omega, fun hp => by have := hPr k hp; omega⟩) (fun h => by obtain ⟨h1, h2, h3⟩ := hX k h; exact ⟨h1, by omega, h3⟩)) ?_ ?_ ?_ ?_ (fun s Ft W' h k hk => hProt s Ft W' h.1 k hk) ?_ ?_ ?_).mono ?_
    · exact ⟨hg1.os.trans hb0.os, hg1.tape.trans hb0.tape, hg1.output.trans hb0.output, Nat.le_trans hb0.size hg1.size, fun k hk hr => (hg1.block k (Nat.lt_of_lt_of_le hk hb0.size) trivial).trans (hb0.block k hk hr)⟩
    · rintro s Ft W W' ⟨hi, hl, hd⟩ hst
      refine ⟨hI _ _ _ _ hi (hst.weaken fun k _ hk => hk.elim (fun h => .inl (by omega)) .inr), (hst.block _ (Array.getElem?_eq_some_iff.1 hl).1 (.inl (by omega))).trans hl, (hst.block _ (Array.getElem?_eq_some_iff.1 hd).1 (.inl (by omega))).trans hd⟩
    · rintro s Ft W W' ⟨c, hi, hl, hd⟩ hst
      refine ⟨c, hIx _ _ _ _ _ hi (hst.weaken fun k _ hk => hk.elim (fun h => .inl (by omega)) .inr), (hst.block _ (Array.getElem?_eq_some_iff.1 hl).1 (.inl (by omega))).trans hl, (hst.block _ (Array.getElem?_eq_some_iff.1 hd).1 (.inl (by omega))).trans hd⟩
    · rintro s Ft W k ⟨hi, _, _⟩ hk; exact oI _ _ _ _ hi hk
    · rintro s Ft W k ⟨c, hi, _, _⟩ hk; exact oIx _ _ _ _ _ hi hk
    · rintro m pre x Ft W ⟨hi, hl, hd⟩ hlen hsp
      have hr := round_of (P := P) (lo := lo) (B := w.heap.size) (D := w.heap.size) (l := w.heap.size + 1) (X := X) (fun k hk => (hX k hk).2.1) hps hI hIx oI oIx (by omega) (Nat.le_refl _) (by omega) a₁ (hassign _) (pre := pre) (x := x) (Ft := Ft) (fun m W hi => hbody _ m pre x Ft W hi hlen hsp) hi m hl hd
      obtain ⟨fn', tmps', as', bd', hy, hR⟩ := hr
      refine ⟨fn', tmps', as', bd', hy, hR.mono ?_⟩
      rintro e W' (⟨he, Ft', ⟨hi', hl', hd'⟩, hst⟩ | ⟨he, Ft', hx, hst⟩)
      · exact .inl ⟨he, Ft', ⟨hi', hl'.trans hl, hd'⟩, hst⟩
      · exact .inr ⟨he, Ft', hx, hst⟩
    · exact ⟨hI _ _ _ _ h0 (hg1.weaken fun _ _ _ => trivial), hL1, hD1⟩
    · intro k hk; have := hF0 k hk; omega
    · rintro e W2 ⟨⟨v, rfl⟩, (⟨xs, Ft, hS, hi, hl, hd⟩ | ⟨pre, Ft, hSp, c, hi, hl, hd⟩)⟩
      · have hnl : ¬ Ft (w.heap.size + 1) := fun h => by
          obtain ⟨_, o, ho, hc⟩ := oI _ _ _ _ hi h
          rw [hl] at ho; cases ho; cases hc
        exact ⟨none, _, run_endLoop (P := P) hl (by simp), hdone xs Ft _ hS (hI _ _ _ _ hi (Stay.putObj _ _ _ _ fun h => h.elim (fun h => by omega) hnl)) ((World.putObj_heap_other (by omega)).trans hd)⟩
      · have hnl : ¬ Ft (w.heap.size + 1) := fun h => by
          obtain ⟨_, o, ho, hc⟩ := oIx _ _ _ _ _ hi h
          rw [hl] at ho; cases ho; cases hc
        exact ⟨some c, _, run_endLoop (P := P) hl (by simp), hstop c pre Ft _ hSp (hIx _ _ _ _ _ hi (Stay.putObj _ _ _ _ fun h => h.elim (fun h => by omega) hnl)) ((World.putObj_heap_other (by omega)).trans hd)⟩
end
end Go.Proofs.Ytcphbendmnmpiaa
