/-
  An entry is laid into slots: lay.
-/
import Derived.Test.YtnhjnciadmgkeaaDoorFind
namespace Go.Proofs.YtnhjnciadmgkeaaDoor
open Go.ChangeShapes Go.WideShapes Go.ChangeAt Go.RowKit
set_option linter.unusedVariables false

theorem size59 : (Tryd.prog.info? 59).map (·.size) = some 1 := by kernel_rfl
theorem size21 : (Tryd.prog.info? 21).map (·.size) = some 1 := by kernel_rfl
theorem size23 : (Tryd.prog.info? 23).map (·.size) = some 1 := by kernel_rfl
theorem size3 : (Tryd.prog.info? 3).map (·.size) = some 1 := by kernel_rfl
theorem size47 : (Tryd.prog.info? 47).map (·.size) = some 1 := by kernel_rfl
section
variable {w : World} {lo g k : Nat} {bk : Nat → List Ent}
/-- the world behind lay -/
def layW (w : World) (e : Ent) (g p : Nat) (l : List Ent) : World := (w.setCell ⟨e.blk, 2, none⟩ (.pointer (hd l))).setCell ⟨g, p, none⟩ (.pointer (some ⟨e.blk, 0, none⟩))
set_option maxHeartbeats 1000000 in
theorem lay_raw (p n : Nat) (e : Ent) (a u : Option Addr) (hs : p < n) (c1 : w.cell? ⟨g, p, none⟩ = some (.pointer u)) (f1 : w.frozen? ⟨g, p, none⟩ = false) (he : EntAt w e a) (hne : e.blk ≠ g)
    (h0 : Calls Tryd.prog 33 #[.slice (some ⟨g, 0, none⟩) n n, .int .u64 e.key] w fun e w' => e = .returned (.int .i64 (p : Int)) ∧ w = w') :
    Calls Tryd.prog 27 #[.slice (some ⟨g, 0, none⟩) n n, .pointer (some ⟨e.blk, 0, none⟩)] w fun r w' => r = .returned (.tuple #[]) ∧ w' = (w.setCell ⟨e.blk, 2, none⟩ (.pointer u)).setCell ⟨g, p, none⟩ (.pointer (some ⟨e.blk, 0, none⟩)) := by
  have H0 := Lib.hid h0
  have d0 := he.cell0
  have d2 := he.cell2
  have f2 := he.free 2
  have hix := ix47 g p n n hs
  have c2 : (w.setCell ⟨e.blk, 2, none⟩ (.pointer u)).cell? ⟨g, p, none⟩ = some (.pointer u) := by rw [World.cell?_setCell_other _ _ _ _ (by intro h; injection h with h; exact hne h)]; exact c1
  have f3 : (w.setCell ⟨e.blk, 2, none⟩ (.pointer u)).frozen? ⟨g, p, none⟩ = false := by simp [f1]
  clear h0 he hs hne
  obtain ⟨eb, ek, en⟩ := e
  dsimp only at *
  go_enter Tryd.func27, Tryd.ntmps27
  go_wp2_with (first | (go_at_call 33; refine H0.out.mono ?_; rintro e w' ⟨rfl, rfl⟩) | (refine wpList_store_cell rfl 59 _ _ rfl rfl rfl rfl size59 d2 f2 ?_) | (refine wpList_store_cell rfl 59 _ _ rfl rfl rfl rfl size59 c2 f3 ?_))
  go_end0
  exact ⟨rfl, rfl⟩
/-- what lay comes to -/
def LayPost (w : World) (lo g k : Nat) (bk : Nat → List Ent) (e : Ent) (r : Ending) (w' : World) : Prop :=
  r = .returned (.tuple #[]) ∧ Arr w' lo g k (put bk (slotN k e.key) (e :: bk (slotN k e.key))) ∧ But (fun b => b = g ∨ b = e.blk) w w'
theorem lay_at (h : Arr w lo g k bk) (h0 : 1 ≤ k) (h1 : k ≤ 30) (ht : Tab w) (e : Ent) (a : Option Addr) (he : EntAt w e a) (hl : lo ≤ e.blk) (hw : Wd e.key) (hi : i32in e.node)
    (hf : ∀ x, inB bk (2 ^ k) x → x.key ≠ e.key) :
    Calls Tryd.prog 27 #[.slice (some ⟨g, 0, none⟩) (2 ^ k) (2 ^ k), .pointer (some ⟨e.blk, 0, none⟩)] w (LayPost w lo g k bk e) := by
  have hs := slotN_lt hw h0 h1
  have hne : e.blk ≠ g := by
    intro e2
    obtain ⟨cur, hc⟩ := h.row.head
    unfold EntAt at he
    rw [e2] at he
    exact absurd (type_eq he hc) (by decide)
  refine (lay_raw (slotN k e.key) (2 ^ k) e a _ hs (h.row.cell hs) (h.row.free _) he hne (place_at g k e.key w h0 h1 hw ht)).mono ?_
  rintro r w' ⟨rfl, rfl⟩
  have hx : ∀ x, inB bk (2 ^ k) x → x.blk ≠ e.blk := by
    intro x hx hb
    obtain ⟨a', ha'⟩ := h.ent hx
    exact hf x hx (ha'.key_eq he hb)
  have hst : ∀ b, b ≠ g → b ≠ e.blk → ((w.setCell ⟨e.blk, 2, none⟩ (.pointer (hd (bk (slotN k e.key))))).setCell ⟨g, slotN k e.key, none⟩ (.pointer (some ⟨e.blk, 0, none⟩))).heap[b]? = w.heap[b]? := by
    intro b hb1 hb2
    rw [heap_setCell_other _ _ _ _ hb1, heap_setCell_other _ _ _ _ hb2]
  have heb : EntAt ((w.setCell ⟨e.blk, 2, none⟩ (.pointer (hd (bk (slotN k e.key))))).setCell ⟨g, slotN k e.key, none⟩ (.pointer (some ⟨e.blk, 0, none⟩))) e (hd (bk (slotN k e.key))) :=
    (he.next _).stay (heap_setCell_other _ _ _ _ hne)
  refine ⟨rfl, h.onBucket ?_ ⟨heb, ?_⟩ ?_ ?_ ?_ ?_, ?_⟩
  · exact RowAt.store (l := e :: bk (slotN k e.key)) (h.row.stay (heap_setCell_other _ _ _ _ (fun e2 => hne e2.symm))) _
  · exact (h.ch _ hs).stay fun x hx' => hst _ (h.blk_ne_row ⟨_, hs, hx'⟩) (hx x ⟨_, hs, hx'⟩)
  · intro j hj1 hj2 x hx'
    exact hst _ (h.blk_ne_row ⟨_, hj2, hx'⟩) (hx x ⟨_, hj2, hx'⟩)
  · intro x hx'
    rcases List.mem_cons.1 hx' with rfl | hx'
    · rfl
    · exact h.sl _ hs x hx'
  · rw [List.map_cons, List.nodup_cons]
    refine ⟨fun hm => ?_, h.nd _ hs⟩
    obtain ⟨x, hx1, hx2⟩ := List.mem_map.1 hm
    exact hf x ⟨_, hs, hx1⟩ hx2
  · intro x hx'
    rcases List.mem_cons.1 hx' with rfl | hx'
    · exact ⟨hl, hw, hi⟩
    · exact h.ok _ hs x hx'
  · exact (But.of_set w e.blk 2 _ (.inr rfl)).trans (But.of_set _ g _ _ (.inl rfl))
end
end Go.Proofs.YtnhjnciadmgkeaaDoor
