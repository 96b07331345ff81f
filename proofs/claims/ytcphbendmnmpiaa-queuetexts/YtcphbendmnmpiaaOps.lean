/-
  What each function does with a queue, over all that it has.
-/
import Derived.Test.YtcphbendmnmpiaaPush
namespace Go.Proofs.Ytcphbendmnmpiaa
open Go.ChangeShapes Go.WideShapes Go.ChangeAt Go.RowKit
set_option linter.unusedVariables false
set_option maxRecDepth 100000

abbrev z0 : Value := .int .i64 0
theorem over_nil (old : List Value) : over [] 0 old = old := by simp [over, rotl]
/-- what copyTo leaves -/
theorem copy_any {w : World} {lo b : Nat} {og : Option Nat} {Q : Qu} {l : List Value} (x : QAt 54 2 w lo b og Q) (hh : Has Q l) {q m : Nat} {old : List Value} (hq : w.heap[q]? = some (.cells old.toArray 2 (0, 0))) (hm : old.length = m) (hm6 : m ≤ 65536) (hqb : ¬ own b og q) :
    Calls Try.prog 28 #[.pointer (some ⟨b, 0, none⟩), .slice (some ⟨q, 0, none⟩) m m] w (CopyPost w q (over Q.R Q.first old)) := by
  have h6 := hh.room
  have h7 := hh.m2
  rcases hh.fst with hf | ⟨hR, hf⟩
  · cases og with
    | none => have := x.nor rfl; rw [this] at hf; simp at hf
    | some g => exact copy_some x hh.one hf (by omega) hq hm hm6 hqb
  · cases og with
    | none =>
      refine (copy_none x hf hq hm (by omega)).mono ?_
      rintro e w' ⟨he, n, rfl⟩
      refine ⟨he, grown_drewN _ _ _, ?_⟩
      rw [hR, hf, over_nil]
      exact hq
    | some g => exact absurd hR (x.yes g rfl)
/-- what a Push makes of the things, and tells -/
def pushed (z : Value) (m : Nat) (l : List Value) (y : Value) : Value × Bool × List Value := if l.length = m then (l.head?.getD z, true, l.tail ++ [y]) else (z, false, l ++ [y])
def popped (z : Value) (l : List Value) : Value × Bool × List Value := match l with
  | [] => (z, false, [])
  | v :: t => (v, true, t)
section
variable {w : World} {lo b : Nat} {og : Option Nat} {l : List Value} {most tot : Nat}
theorem IsQ.kept {w' : World} (h : IsQ w lo b og l most tot) (hg : w.grownBy w' none) : IsQ w' lo b og l most tot := by
  obtain ⟨Q, x, hh, e1, e2⟩ := h
  exact ⟨Q, x.kept hg, hh, e1, e2⟩
theorem IsQ.own_lo (h : IsQ w lo b og l most tot) {k : Nat} (hk : own b og k) : lo ≤ k ∧ k < w.heap.size := by
  obtain ⟨Q, x, hh, e1, e2⟩ := h
  exact x.own_lo hk
theorem IsQ.stay {w' : World} (h : IsQ w lo b og l most tot) (hs : ∀ k, k < w.heap.size → own b og k → w'.heap[k]? = w.heap[k]?) : IsQ w' lo b og l most tot := by
  obtain ⟨Q, x, hh, e1, e2⟩ := h
  exact ⟨Q, x.stay fun k hk => hs k (x.own_lo hk).2 hk, hh, e1, e2⟩
theorem IsQ.few (h : IsQ w lo b og l most tot) : l.length ≤ most ∧ most ≤ 65536 ∧ 1 ≤ most := by
  obtain ⟨Q, x, hh, e1, e2⟩ := h
  have := hh.lenR
  have := hh.room
  exact ⟨by omega, by have := hh.m2; omega, by have := hh.m1; omega⟩
def OpPost (w : World) (lo b : Nat) (og : Option Nat) (most tot : Nat) (p : Value × Bool × List Value) (e : Ending) (w' : World) : Prop :=
  e = .returned (.tuple #[p.1, .bool p.2.1]) ∧ ∃ og', IsQ w' lo b og' p.2.2 most tot ∧ Stp b og og' w w'
theorem push_is (h : IsQ w lo b og l most tot) (hlo : lo ≤ w.heap.size) (a : Int) (ht : tot ≤ 1000000000) :
    Calls Try.prog 11 #[.pointer (some ⟨b, 0, none⟩), .int .i64 a] w (OpPost w lo b og most (tot + 1) (pushed z0 most l (.int .i64 a))) := by
  obtain ⟨Q, x, hh, rfl, rfl⟩ := h
  have h1 := hh.m1
  have h2 := hh.m2
  unfold pushed
  have hL := hh.lenR
  have hR := hh.room
  by_cases hfull : l.length = Q.most
  · rw [if_pos hfull]
    obtain ⟨v, t, rfl⟩ : ∃ v t, l = v :: t := by
      cases l with
      | nil => simp at hfull; omega
      | cons v t => exact ⟨v, t, rfl⟩
    cases og with
    | none => rw [x.nor rfl] at hL; simp at hL
    | some g =>
      refine (push_of (room_full x hh hfull) ht).mono ?_
      rintro e w' ⟨he, g', Q', x', h', e1, e2, s⟩
      exact ⟨he, some g', ⟨Q', x', h', e1, e2⟩, s⟩
  · rw [if_neg hfull]
    by_cases hthere : l.length < Q.R.length
    · cases og with
      | none => rw [x.nor rfl] at hthere; simp at hthere
      | some g =>
        refine (push_of (room_there x hh (by omega) hthere) ht).mono ?_
        rintro e w' ⟨he, g', Q', x', h', e1, e2, s⟩
        exact ⟨he, some g', ⟨Q', x', h', e1, e2⟩, s⟩
    · refine (push_of (room_grow x hh (by omega) (by omega) hlo fun W q n hW hq hqz hn6 => copy_any (x.kept hW) hh hq (by simp) hn6 (fun hk => by have := (x.own_lo hk).2; omega)) ht).mono ?_
      rintro e w' ⟨he, g', Q', x', h', e1, e2, s⟩
      exact ⟨he, some g', ⟨Q', x', h', e1, e2⟩, s⟩
theorem push_nil (a : Int) (w : World) : Calls Try.prog 11 #[.pointer none, .int .i64 a] w fun e w' => e = .returned (.tuple #[z0, .bool false]) ∧ w.grownBy w' none := by
  go_enter Try.func11, Try.ntmps11
  go_wp2
  go_ret2
  exact ⟨rfl, World.grownBy_alloc _ _ none⟩
theorem pop_is (h : IsQ w lo b og l most tot) : Calls Try.prog 10 #[.pointer (some ⟨b, 0, none⟩)] w (OpPost w lo b og most tot (popped z0 l)) := by
  obtain ⟨Q, x, hh, rfl, rfl⟩ := h
  unfold popped
  cases l with
  | nil =>
    refine (pop_none x hh).mono ?_
    rintro e w' ⟨he, hg⟩
    exact ⟨he, og, ⟨Q, x.kept hg, hh, rfl, rfl⟩, Stp.of_new hg⟩
  | cons v t =>
    have hL := hh.lenR
    cases og with
    | none => rw [x.nor rfl] at hL; simp at hL
    | some g =>
      refine (pop_some x hh).mono ?_
      rintro e w' ⟨he, Q', x', h', e1, e2, e3, s⟩
      exact ⟨he, some g, ⟨Q', x', h', e1, e2⟩, s⟩
/-- what At tells -/
def atOf (z : Value) (l : List Value) (i : Int) : Value × Bool := if 0 ≤ i ∧ i < (l.length : Int) then (l[i.toNat]?.getD z, true) else (z, false)
theorem at_is (h : IsQ w lo b og l most tot) (i : Int) : Calls Try.prog 12 #[.pointer (some ⟨b, 0, none⟩), .int .i64 i] w fun e w' => e = .returned (.tuple #[(atOf z0 l i).1, .bool (atOf z0 l i).2]) ∧ w.grownBy w' none := by
  obtain ⟨Q, x, hh, rfl, rfl⟩ := h
  unfold atOf
  by_cases hi : 0 ≤ i ∧ i < (l.length : Int)
  · rw [if_pos hi]
    obtain ⟨k, rfl⟩ := Int.eq_ofNat_of_zero_le hi.1
    have hk : k < l.length := by omega
    have hL := hh.lenR
    cases og with
    | none => rw [x.nor rfl] at hL; simp only [List.length_nil] at hL; omega
    | some g =>
      have hv : l[k]? = some l[k] := List.getElem?_eq_getElem hk
      refine (at_yes x hh hv).mono ?_
      rintro e w' ⟨he, q, rfl⟩
      refine ⟨?_, grown_drewN _ _ _⟩
      rw [Int.toNat_natCast, hv]
      exact he
  · rw [if_neg hi]
    exact at_no x hh (by omega)
theorem len_is (h : IsQ w lo b og l most tot) : Calls Try.prog 15 #[.pointer (some ⟨b, 0, none⟩)] w fun e w' => e = .returned (.int .i64 (l.length : Int)) ∧ w = w' := by
  obtain ⟨Q, x, hh, rfl, rfl⟩ := h
  rw [hh.cnt]
  exact len_at x
theorem total_is (h : IsQ w lo b og l most tot) : Calls Try.prog 16 #[.pointer (some ⟨b, 0, none⟩)] w fun e w' => e = .returned (.int .u64 (tot : Int)) ∧ w = w' := by
  obtain ⟨Q, x, hh, rfl, rfl⟩ := h
  exact total_at x
/-- the things in a row that is as long as there are things -/
theorem copy_is (h : IsQ w lo b og l most tot) {q : Nat} {old : List Value} (hq : w.heap[q]? = some (.cells old.toArray 2 (0, 0))) (hm : old.length = l.length) (hqb : ¬ own b og q) :
    Calls Try.prog 28 #[.pointer (some ⟨b, 0, none⟩), .slice (some ⟨q, 0, none⟩) l.length l.length] w (CopyPost w q l) := by
  have hf := h.few
  obtain ⟨Q, x, hh, rfl, rfl⟩ := h
  have := copy_any x hh hq hm (by omega) hqb
  have e : over Q.R Q.first old = l := by
    unfold over
    rw [hm, List.drop_of_length_le (by have := hh.lenR; omega), List.append_nil]
    have := hh.are
    rw [← hh.cnt] at this
    exact this
  rw [e] at this
  exact this
end
end Go.Proofs.Ytcphbendmnmpiaa
