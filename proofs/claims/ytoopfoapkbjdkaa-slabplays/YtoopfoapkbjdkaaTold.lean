/-
  The law's going through a slab: it tells just the document's nodes, as far as one goes on.
-/
import Derived.Test.YtoopfoapkbjdkaaAll
import Derived.Test.YtoopfoapkbjdkaaRef
import Derived.Test.YtoopfoapkbjdkaaLoopBox
import Derived.Deep.RegionHeld3
import Derived.ControlIn
namespace Go.Proofs.Ytoopfoapkbjdkaa
open Go.RowKit Go.Shelf
set_option linter.unusedVariables false
attribute [local go_sem] Oper.semAt_some

/-! ### plain facts of the places that are told -/
theorem standing_same {L : List (Spot Int)} {a : Nat} (h : up L a = false) : standing L (a + 1) = standing L a := by rw [standing_succ, h]; simp
theorem standing_up {L : List (Spot Int)} {a : Nat} (h : up L a = true) : standing L (a + 1) = standing L a ++ [a] := by rw [standing_succ, h]; simp
theorem standing_next {L : List (Spot Int)} {a : Nat} {ys : List Nat} {x : Nat} (hy : ys = standing L a) (ha : a ≤ L.length) (hu : a = L.length ∨ up L a = true) (hp : ys ++ [x] <+: standing L L.length) : a < L.length ∧ x = a := by
  rcases hu with rfl | hu
  · have := hp.length_le
    rw [hy] at this
    simp at this
    omega
  · have hl : a < L.length := by
      refine Nat.lt_of_le_of_ne ha fun e => ?_
      unfold up at hu
      rw [e, List.getElem?_eq_none (Nat.le_refl _)] at hu; cases hu
    have h1 := standing_prefix L hl
    rw [standing_up hu] at h1
    have e1 := List.prefix_iff_eq_take.1 h1
    have e2 := List.prefix_iff_eq_take.1 hp
    rw [hy] at e2
    rw [show (standing L a ++ [x]).length = (standing L a ++ [a]).length by simp, ← e1] at e2
    have := List.append_cancel_left e2
    exact ⟨hl, by simpa using this⟩
theorem standing_count (L : List (Spot Int)) : ∀ k, k ≤ L.length → (standing L k).length = (L.take k).countP (fun s => s.stands)
  | 0, _ => by simp [standing]
  | k + 1, hk => by
    obtain ⟨s, hs⟩ : ∃ s, L[k]? = some s := ⟨_, List.getElem?_eq_getElem (by omega)⟩
    have hup : up L k = s.stands := by unfold up; rw [hs]
    rw [standing_succ, List.length_append, standing_count L k (by omega), countP_take_succ hs, hup]
    cases s.stands <;> simp
theorem standing_all (S : SI) : (standing S.L S.L.length).length = S.len := by
  rw [standing_count _ _ (Nat.le_refl _), List.take_length]; rfl
theorem run_eql_func_nil {P : Program} (w : World) {t : TypeId} {ps rs : Array TypeId} {vr : Bool} (f : Fn) (a b : Array Value) (ht : P.underlying t = some (.func ps rs vr)) :
    (binOp .eql t (.func f a b) .nilFunc).run P w = .ok (.bool false) w := by
  have h : ∀ d : Nat, (Op.equalIn (d + 1) t (.func f a b) .nilFunc).run P w = .ok false w := fun d => by
    simp [Op.equalIn, run_underlying ht]
  simp only [binOp]
  simp [Op.equal, Op.maxDepth, h 9999]

/-- what holds between two rounds -/
structure TI (w : World) (m : Nat) (S : SI) (vL vF : Value) (ys : List (Fin S.L.length)) (a : Nat) (Ft : Nat → Prop) (W : World) : Prop where
  list : ys.map Fin.val = standing S.L a
  ale : a ≤ S.L.length
  few : ys.length ≤ m
  ft : Ft = fun k => k = w.heap.size + 4 ∨ k = w.heap.size + 5 ∨ k = w.heap.size + 2
  rbox : W.heap[w.heap.size]? = some (.cells #[.int .i64 (S.most : Int), .int .i64 (S.c : Int), vL, vF] 32 (0, 0))
  mbox : Boxed W (w.heap.size + 1) 3 (.int .i64 (m : Int))
  obox : Boxed W (w.heap.size + 2) 4 (.bool false)
  nbox : Boxed W (w.heap.size + 4) 3 (.int .i64 (ys.length : Int))
  abox : Boxed W (w.heap.size + 5) 3 (.int .i64 (a : Int))
  ref : RefAt W 0 S vL vF
  rlt : ∀ k, vL.ownBlock = some k ∨ vF.ownBlock = some k → k < w.heap.size
  grown : w.grownBy W none
theorem TI.firm {w : World} {m : Nat} {S : SI} {vL vF : Value} {ys : List (Fin S.L.length)} {a B : Nat} {Ft : Nat → Prop} {W W' : World} (h : TI w m S vL vF ys a Ft W) (hB : w.heap.size + 6 ≤ B) (hs : Stay (fun k => k < B ∨ Ft k) W W') : TI w m S vL vF ys a Ft W' := by
  have hb : ∀ k, k < W.heap.size → k < w.heap.size + 6 → W'.heap[k]? = W.heap[k]? := fun k h1 h2 => hs.block k h1 (.inl (by omega))
  refine ⟨h.list, h.ale, h.few, h.ft, (hb _ (Array.getElem?_eq_some_iff.1 h.rbox).1 (by omega)).trans h.rbox, (hb _ h.mbox.lt (by omega)).trans h.mbox, (hb _ h.obox.lt (by omega)).trans h.obox, (hb _ h.nbox.lt (by omega)).trans h.nbox, (hb _ h.abox.lt (by omega)).trans h.abox, ?_, h.rlt, ?_⟩
  · exact ⟨owns_stay h.ref.rowL fun k hk => hb k (h.ref.rowL.lt k hk).2 (by have := h.rlt k (.inl hk); omega), owns_stay h.ref.rowF fun k hk => hb k (h.ref.rowF.lt k hk).2 (by have := h.rlt k (.inr hk); omega)⟩
  · exact ⟨hs.os.trans h.grown.os, hs.tape.trans h.grown.tape, hs.output.trans h.grown.output, Nat.le_trans h.grown.size hs.size, fun k hk hr => (hb k (Nat.lt_of_lt_of_le hk h.grown.size) (by omega)).trans (h.grown.block k hk hr)⟩
theorem TI.own {w : World} {m : Nat} {S : SI} {vL vF : Value} {ys : List (Fin S.L.length)} {a : Nat} {Ft : Nat → Prop} {W : World} (h : TI w m S vL vF ys a Ft W) {k : Nat} (hk : Ft k) : w.heap.size ≤ k ∧ ∃ o : Obj, W.heap[k]? = some o ∧ o.isCells = true := by
  rw [h.ft] at hk
  rcases hk with rfl | rfl | rfl
  · exact ⟨by omega, _, h.nbox, rfl⟩
  · exact ⟨by omega, _, h.abox, rfl⟩
  · exact ⟨by omega, _, h.obox, rfl⟩

section
variable {w : World} {m : Nat} {S : SI} {vL vF : Value} {ys : List (Fin S.L.length)} {a : Nat} {Ft : Nat → Prop} {W : World}
theorem TI.set (h : TI w m S vL vF ys a Ft W) {k : Nat} (hk : k = w.heap.size + 4 ∨ k = w.heap.size + 5) (v : Value) : Step (fun _ => False) Ft Ft W (W.setCell ⟨k, 0, none⟩ v) := by
  refine ⟨Stay.of_grown (grown_setCell W k 0 v) fun r e _ hs => ?_, fun _ h => .inl h⟩
  cases e
  refine hs.1 ?_
  rw [h.ft]
  rcases hk with rfl | rfl
  · exact .inl rfl
  · exact .inr (.inl rfl)
theorem TI.setA (h : TI w m S vL vF ys a Ft W) {ys' : List (Fin S.L.length)} {a' : Nat} (hl : ys'.map Fin.val = standing S.L a') (ha : a' ≤ S.L.length) (hlen : ys'.length = ys.length) : TI w m S vL vF ys' a' Ft (W.setCell ⟨w.heap.size + 5, 0, none⟩ (.int .i64 (a' : Int))) := by
  have ho : ∀ k, k ≠ w.heap.size + 5 → (W.setCell ⟨w.heap.size + 5, 0, none⟩ (.int .i64 (a' : Int))).heap[k]? = W.heap[k]? := fun k hk => heap_setCell_other _ _ k _ hk
  refine ⟨hl, ha, by rw [hlen]; exact h.few, h.ft, (ho _ (by omega)).trans h.rbox, (ho _ (by omega)).trans h.mbox, (ho _ (by omega)).trans h.obox, (ho _ (by omega)).trans (by rw [hlen]; exact h.nbox), h.abox.set _, ?_, h.rlt, grown_new h.grown (grown_setCell _ _ _ _) (by omega)⟩
  exact ⟨owns_stay h.ref.rowL fun k hk => ho k (by have := h.rlt k (.inl hk); omega), owns_stay h.ref.rowF fun k hk => ho k (by have := h.rlt k (.inr hk); omega)⟩
theorem TI.setN (h : TI w m S vL vF ys a Ft W) {ys' : List (Fin S.L.length)} (hl : ys'.map Fin.val = standing S.L a) (hlen : ys'.length ≤ m) : TI w m S vL vF ys' a Ft (W.setCell ⟨w.heap.size + 4, 0, none⟩ (.int .i64 (ys'.length : Int))) := by
  have ho : ∀ k, k ≠ w.heap.size + 4 → (W.setCell ⟨w.heap.size + 4, 0, none⟩ (.int .i64 (ys'.length : Int))).heap[k]? = W.heap[k]? := fun k hk => heap_setCell_other _ _ k _ hk
  refine ⟨hl, h.ale, hlen, h.ft, (ho _ (by omega)).trans h.rbox, (ho _ (by omega)).trans h.mbox, (ho _ (by omega)).trans h.obox, h.nbox.set _, (ho _ (by omega)).trans h.abox, ?_, h.rlt, grown_new h.grown (grown_setCell _ _ _ _) (by omega)⟩
  exact ⟨owns_stay h.ref.rowL fun k hk => ho k (by have := h.rlt k (.inl hk); omega), owns_stay h.ref.rowF fun k hk => ho k (by have := h.rlt k (.inr hk); omega)⟩
theorem TI.setO (h : TI w m S vL vF ys a Ft W) : TI w m S vL vF ys a Ft (W.setCell ⟨w.heap.size + 2, 0, none⟩ (.bool false)) := by
  have ho : ∀ k, k ≠ w.heap.size + 2 → (W.setCell ⟨w.heap.size + 2, 0, none⟩ (.bool false)).heap[k]? = W.heap[k]? := fun k hk => heap_setCell_other _ _ k _ hk
  refine ⟨h.list, h.ale, h.few, h.ft, (ho _ (by omega)).trans h.rbox, (ho _ (by omega)).trans h.mbox, h.obox.set _, (ho _ (by omega)).trans h.nbox, (ho _ (by omega)).trans h.abox, ?_, h.rlt, grown_new h.grown (grown_setCell _ _ _ _) (by omega)⟩
  exact ⟨owns_stay h.ref.rowL fun k hk => ho k (by have := h.rlt k (.inl hk); omega), owns_stay h.ref.rowF fun k hk => ho k (by have := h.rlt k (.inr hk); omega)⟩
theorem TI.stepO (h : TI w m S vL vF ys a Ft W) : Step (fun _ => False) Ft Ft W (W.setCell ⟨w.heap.size + 2, 0, none⟩ (.bool false)) := by
  refine ⟨Stay.of_grown (grown_setCell W _ 0 _) fun r e _ hs => ?_, fun _ h => .inl h⟩
  cases e
  exact hs.1 (by rw [h.ft]; exact .inr (.inr rfl))
/-- both counters go on -/
theorem TI.setB (h : TI w m S vL vF ys a Ft W) {ys' : List (Fin S.L.length)} {a' : Nat} (hl : ys'.map Fin.val = standing S.L a') (ha : a' ≤ S.L.length) (hlen : ys'.length ≤ m) : TI w m S vL vF ys' a' Ft ((W.setCell ⟨w.heap.size + 5, 0, none⟩ (.int .i64 (a' : Int))).setCell ⟨w.heap.size + 4, 0, none⟩ (.int .i64 (ys'.length : Int))) := by
  have ho : ∀ k, k ≠ w.heap.size + 4 → k ≠ w.heap.size + 5 → ((W.setCell ⟨w.heap.size + 5, 0, none⟩ (.int .i64 (a' : Int))).setCell ⟨w.heap.size + 4, 0, none⟩ (.int .i64 (ys'.length : Int))).heap[k]? = W.heap[k]? := fun k hk hk' => (heap_setCell_other _ _ k _ hk).trans (heap_setCell_other _ _ k _ hk')
  have hn : Boxed (W.setCell ⟨w.heap.size + 5, 0, none⟩ (.int .i64 (a' : Int))) (w.heap.size + 4) 3 (.int .i64 (ys.length : Int)) := (heap_setCell_other _ _ _ _ (by simp only; omega)).trans h.nbox
  refine ⟨hl, ha, hlen, h.ft, (ho _ (by omega) (by omega)).trans h.rbox, (ho _ (by omega) (by omega)).trans h.mbox, (ho _ (by omega) (by omega)).trans h.obox, hn.set _, (heap_setCell_other _ _ _ _ (by simp only; omega)).trans (h.abox.set _), ?_, h.rlt, grown_new (grown_new h.grown (grown_setCell _ _ _ _) (by omega)) (grown_setCell _ _ _ _) (by omega)⟩
  exact ⟨owns_stay h.ref.rowL fun k hk => ho k (by have := h.rlt k (.inl hk); omega) (by have := h.rlt k (.inl hk); omega), owns_stay h.ref.rowF fun k hk => ho k (by have := h.rlt k (.inr hk); omega) (by have := h.rlt k (.inr hk); omega)⟩
theorem TI.stepB (h : TI w m S vL vF ys a Ft W) (u v : Value) : Step (fun _ => False) Ft Ft W ((W.setCell ⟨w.heap.size + 5, 0, none⟩ u).setCell ⟨w.heap.size + 4, 0, none⟩ v) := by
  refine ⟨(Stay.of_grown (grown_setCell W _ 0 u) fun r e _ hs => ?_).trans (Stay.of_grown (grown_setCell _ _ 0 v) fun r e _ hs => ?_), fun _ h => .inl h⟩
  · cases e; exact hs.1 (by rw [h.ft]; exact .inr (.inl rfl))
  · cases e; exact hs.1 (by rw [h.ft]; exact .inl rfl)
/-- what the walk reads -/
theorem TI.cells (h : TI w m S vL vF ys a Ft W) : W.cell? ⟨w.heap.size, 2, none⟩ = some vL ∧ W.cell? ⟨w.heap.size + 1, 0, none⟩ = some (.int .i64 (m : Int)) ∧ W.cell? ⟨w.heap.size + 4, 0, none⟩ = some (.int .i64 (ys.length : Int)) ∧ W.frozen? ⟨w.heap.size + 4, 0, none⟩ = false ∧ W.cell? ⟨w.heap.size + 5, 0, none⟩ = some (.int .i64 (a : Int)) ∧ W.frozen? ⟨w.heap.size + 5, 0, none⟩ = false :=
  ⟨cell_of_head h.rbox 2, h.mbox.cell, h.nbox.cell, h.nbox.frozen, h.abox.cell, h.abox.frozen⟩
end
theorem fin_at {L : List (Spot Int)} {x : Fin L.length} {a : Nat} {s : Spot Int} (h : x.val = a) (hs : L[a]? = some s) : ftn L x = s.turn ∧ fhs L x = s.has := by
  subst h
  have h1 : L[(x : Nat)]? = some L[x] := List.getElem?_eq_getElem x.isLt
  rw [hs] at h1
  have := Option.some.inj h1
  unfold ftn fhs
  rw [this]
  exact ⟨rfl, rfl⟩
theorem alloc6 (w : World) (o0 o1 o2 o3 o4 o5 : Obj) : w.grownBy ((((((w.alloc o0).alloc o1).alloc o2).alloc o3).alloc o4).alloc o5) none ∧ ((((((w.alloc o0).alloc o1).alloc o2).alloc o3).alloc o4).alloc o5).heap.size = w.heap.size + 6 ∧
    ((((((w.alloc o0).alloc o1).alloc o2).alloc o3).alloc o4).alloc o5).heap[w.heap.size]? = some o0 ∧ ((((((w.alloc o0).alloc o1).alloc o2).alloc o3).alloc o4).alloc o5).heap[w.heap.size + 1]? = some o1 ∧
    ((((((w.alloc o0).alloc o1).alloc o2).alloc o3).alloc o4).alloc o5).heap[w.heap.size + 2]? = some o2 ∧ ((((((w.alloc o0).alloc o1).alloc o2).alloc o3).alloc o4).alloc o5).heap[w.heap.size + 3]? = some o3 ∧
    ((((((w.alloc o0).alloc o1).alloc o2).alloc o3).alloc o4).alloc o5).heap[w.heap.size + 4]? = some o4 ∧ ((((((w.alloc o0).alloc o1).alloc o2).alloc o3).alloc o4).alloc o5).heap[w.heap.size + 5]? = some o5 := by
  have e : ((((((w.alloc o0).alloc o1).alloc o2).alloc o3).alloc o4).alloc o5).heap.toList = w.heap.toList ++ [o0, o1, o2, o3, o4, o5] := by simp only [World.alloc, Array.toList_push, List.append_assoc, List.cons_append, List.nil_append]
  have g : ∀ (i : Nat) (o : Obj), [o0, o1, o2, o3, o4, o5][i]? = some o → ((((((w.alloc o0).alloc o1).alloc o2).alloc o3).alloc o4).alloc o5).heap[w.heap.size + i]? = some o := fun i o h => by
    rw [← Array.getElem?_toList, e, List.getElem?_append_right (by rw [Array.length_toList]; omega), Array.length_toList, Nat.add_sub_cancel_left]; exact h
  refine ⟨grown_trans (grown_trans (grown_trans (grown_trans (grown_trans (World.grownBy_alloc _ _ none) (World.grownBy_alloc _ _ none)) (World.grownBy_alloc _ _ none)) (World.grownBy_alloc _ _ none)) (World.grownBy_alloc _ _ none)) (World.grownBy_alloc _ _ none), by simp only [World.size_alloc], g 0 _ rfl, g 1 _ rfl, g 2 _ rfl, g 3 _ rfl, g 4 _ rfl, g 5 _ rfl⟩

end Go.Proofs.Ytoopfoapkbjdkaa
