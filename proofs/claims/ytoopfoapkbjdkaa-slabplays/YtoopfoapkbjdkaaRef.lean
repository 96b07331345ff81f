/-
  The document's slab: how it lies, and what its functions that read return.
-/
import Derived.Test.YtoopfoapkbjdkaaIs
import Derived.LoopTactic
namespace Go.Proofs.Ytoopfoapkbjdkaa
open Go.ChangeShapes Go.WideShapes Go.ChangeAt Go.RowKit
set_option linter.unusedVariables false

def pcells (s : Spot Int) : List Value := [.int .i64 (s.turn : Int), .bool s.stands, .int .i64 s.has]
def ivals (l : List Nat) : List Value := l.map fun p : Nat => Value.int .i64 (p : Int)
structure RefAt (w : World) (lo : Nat) (S : SI) (vL vF : Value) : Prop where
  rowL : w.ownsRow lo 80 3 vL S.L.length (S.L.flatMap pcells)
  rowF : w.ownsRow lo 3 1 vF S.fr.length (ivals S.fr)
def refVal (S : SI) (vL vF : Value) : Value := .agg #[.int .i64 (S.most : Int), .int .i64 (S.c : Int), vL, vF]

theorem flat3 : ∀ (L : List (Spot Int)) (i t : Nat) (s : Spot Int), L[i]? = some s → t < 3 → (L.flatMap pcells)[i * 3 + t]? = (pcells s)[t]?
  | [], i, t, s, h, _ => by simp at h
  | x :: L, 0, t, s, h, ht => by
    simp at h; subst h
    rw [List.flatMap_cons, List.getElem?_append_left (by simp [pcells]; omega), Nat.zero_mul, Nat.zero_add]
  | x :: L, i + 1, t, s, h, ht => by
    have h' : L[i]? = some s := by simpa using h
    rw [List.flatMap_cons, List.getElem?_append_right (by simp [pcells]; omega)]
    have : (i + 1) * 3 + t - (pcells x).length = i * 3 + t := by simp [pcells]; omega
    rw [this]
    exact flat3 L i t s h' ht
section
variable {w w' : World} {lo : Nat} {S : SI} {vL vF : Value}
theorem RefAt.kept (h : RefAt w lo S vL vF) (hg : w.grownBy w' none) : RefAt w' lo S vL vF :=
  ⟨h.rowL.kept hg (by cases hv : vL.ownBlock <;> simp), h.rowF.kept hg (by cases hv : vF.ownBlock <;> simp)⟩
theorem RefAt.keep (h : RefAt w lo S vL vF) {lo' : Nat} (hk : Keep Ki lo' w w') : RefAt w' lo S vL vF :=
  ⟨owns_stay h.rowL fun k hkk => by
    have hs := (owns_type h.rowL hkk).2.choose_spec
    exact (hk.other hs (by decide)).trans hs.symm,
   owns_stay h.rowF fun k hkk => by
    have hs := (owns_type h.rowF hkk).2.choose_spec
    exact (hk.other hs (by decide)).trans hs.symm⟩
theorem RefAt.slice (h : RefAt w lo S vL vF) : ∃ A cap, vL = .slice A S.L.length cap := owns_slice h.rowL
theorem RefAt.cell (h : RefAt w lo S vL vF) {i : Nat} {s : Spot Int} (hi : S.L[i]? = some s) : ∃ g cap, vL = .slice (some ⟨g, 0, none⟩) S.L.length cap ∧ g < w.heap.size ∧ w.cell? ⟨g, i * 3, none⟩ = some (.int .i64 (s.turn : Int)) ∧ w.cell? ⟨g, i * 3 + 1, none⟩ = some (.bool s.stands) ∧ w.cell? ⟨g, i * 3 + 2, none⟩ = some (.int .i64 s.has) := by
  have hl := (List.getElem?_eq_some_iff.1 hi).1
  obtain ⟨g, cap, rfl⟩ := owns_some h.rowL (by omega)
  refine ⟨g, cap, rfl, (h.rowL.lt g rfl).2, ?_, ?_, ?_⟩
  · rw [h.rowL.cellAt (i * 3) (by omega)]; exact flat3 S.L i 0 s hi (by decide)
  · rw [h.rowL.cellAt (i * 3 + 1) (by omega)]; exact flat3 S.L i 1 s hi (by decide)
  · rw [h.rowL.cellAt (i * 3 + 2) (by omega)]; exact flat3 S.L i 2 s hi (by decide)
theorem countP_take_succ {L : List (Spot Int)} {k : Nat} {s : Spot Int} (h : L[k]? = some s) : (L.take (k + 1)).countP (fun s => s.stands) = (L.take k).countP (fun s => s.stands) + (if s.stands then 1 else 0) := by
  obtain ⟨hl, he⟩ := List.getElem?_eq_some_iff.1 h
  rw [List.take_succ_eq_append_getElem hl, List.countP_append, he]
  cases hs : s.stands <;> simp [hs]
set_option maxHeartbeats 1000000 in
theorem rlen_at (h : RefAt w lo S vL vF) (h6 : S.L.length ≤ 65536) : Calls Try.prog 33 #[refVal S vL vF] w fun e w' => e = .returned (.int .i64 (S.len : Int)) ∧ w' = w.alloc (.cells #[.int .i64 (S.most : Int), .int .i64 (S.c : Int), vL, vF] 32) := by
  have H := Lib.hid (h.kept (World.grownBy_alloc w (.cells #[.int .i64 (S.most : Int), .int .i64 (S.c : Int), vL, vF] 32) none))
  have hb := heap_alloc_new w (.cells #[.int .i64 (S.most : Int), .int .i64 (S.c : Int), vL, vF] 32)
  obtain ⟨A, cap, hv⟩ := h.slice
  subst hv
  have hb2 := cell_of_head hb 2
  simp only [List.getElem?_toArray, List.getElem?_cons_zero, List.getElem?_cons_succ] at hb2
  obtain ⟨len, Hlen⟩ : ∃ len, Hid (S.L.length = len) := ⟨_, Lib.hid rfl⟩
  have HW : Hid (∃ wx, wx = w.alloc (.cells #[.int .i64 (S.most : Int), .int .i64 (S.c : Int), .slice A S.L.length cap, vF] 32)) := Lib.hid ⟨_, rfl⟩
  clear h hb
  unfold refVal
  go_enter Try.func33, Try.ntmps33
  go_wp2
  obtain ⟨wx, hwx⟩ := HW.out
  rw [← hwx]
  rw [← hwx] at H hb2
  rw [Hlen.out] at hb2 h6
  have Hwx := Lib.hid hwx
  clear hwx HW
  go_loopw [3, 4] (fun n i wr => ∃ k : Nat, k ≤ len ∧ i = .int .i64 (k : Int) ∧ n = .int .i64 (((S.L.take k).countP (fun s => s.stands) : Nat) : Int) ∧ wr = wx) (fun _ i _ => len - (intOf i).toNat)
  case atStart => exact ⟨0, by omega, by go_num, by simp, rfl⟩
  case round =>
    obtain ⟨k, hk, rfl, rfl, rfl⟩ := hrel
    by_cases hlt : k < len
    · obtain ⟨s, hs⟩ : ∃ s, S.L[k]? = some s := ⟨_, List.getElem?_eq_getElem (by rw [Hlen.out]; exact hlt)⟩
      obtain ⟨g, cap', hv, hg, c0, c1, c2⟩ := H.out.cell hs
      injection hv with e1 e2 e3
      subst e1; subst e3
      have HC := Lib.hid (countP_take_succ hs)
      have hcl : (S.L.take k).countP (fun s => s.stands) ≤ 65536 := by
        have := List.countP_le_length (p := fun s : Spot Int => s.stands) (l := S.L.take k)
        rw [List.length_take] at this; omega
      generalize (S.L.take k).countP (fun s => s.stands) = n at hcl HC
      cases hst : s.stands with
      | false =>
        rw [hst] at c1 HC
        clear c0 c2
        go_wp2
        go_roundw
        case rel => exact ⟨k + 1, by omega, by go_num, by rw [HC.out]; simp, trivial⟩
        case measure => simp [intOf]; omega
      | true =>
        rw [hst] at c1 HC
        clear c0 c2
        go_wp2
        go_roundw
        case rel => exact ⟨k + 1, by omega, by go_num, by rw [HC.out]; simp, trivial⟩
        case measure => simp [intOf]; omega
    · obtain rfl : k = len := by omega
      have e : (S.L.take k).countP (fun s => s.stands) = S.len := by rw [List.take_of_length_le (by rw [Hlen.out]; exact Nat.le_refl _)]; rfl
      rw [e]
      go_wp2
      go_ret
      exact ⟨rfl, Hwx.out⟩
end
end Go.Proofs.Ytoopfoapkbjdkaa
