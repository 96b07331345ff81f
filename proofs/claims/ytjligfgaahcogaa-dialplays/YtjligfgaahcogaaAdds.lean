/-
  Bytes that came in; nodes that are put in one behind the other; what a hand meets.
-/
import Derived.Test.YtjligfgaahcogaaAlive
namespace Go.Proofs.Ytjligfgaahcogaa
open Go.ChangeShapes Go.WideShapes Go.ChangeAt Go.RowKit
set_option linter.unusedVariables false

/-- the slice at A reads as the bytes zs -/
def BRow (w : World) (A : Option Addr) (zs : List Nat) : Prop :=
  zs = [] ∨ ∃ b off, A = some ⟨b, off, none⟩ ∧ b < w.heap.size ∧ ∀ (i x : Nat), zs[i]? = some x → w.cell? ⟨b, off + i, none⟩ = some (.int .u8 (x : Int))
theorem BRow.kept {w w' : World} {A : Option Addr} {zs : List Nat} (h : BRow w A zs) (hg : w.grownBy w' none) : BRow w' A zs := by
  refine h.imp_right ?_
  rintro ⟨b, off, hA, hb, hc⟩
  exact ⟨b, off, hA, Nat.lt_of_lt_of_le hb hg.size, fun i x hx => hg.cell (hc i x hx) (by simp)⟩
/-- a part of it -/
theorem NRow.take {lo : Nat} {w : World} {v : Value} {xs : List Nat} (h : NRow lo w v xs) (k : Nat) (hk : k ≤ xs.length) : ∃ A cap, v = .slice A xs.length cap ∧ NRow lo w (.slice A k cap) (xs.take k) := by
  obtain ⟨A, cap, hv, hl, hc, hz, h⟩ := h
  have e : (xs.take k).length = k := by rw [List.length_take]; omega
  refine ⟨A, cap, hv, A, cap, by rw [e], by omega, hc, hz, ?_⟩
  rcases h with rfl | ⟨b, off, hA, hlo, hcur, hx⟩
  · exact .inl (by simp)
  · refine .inr ⟨b, off, hA, hlo, hcur, fun i x hi => ?_⟩
    rw [List.getElem?_take] at hi
    split at hi
    · exact hx i x hi
    · cases hi
theorem NRow.at {lo : Nat} {w : World} {A : Option Addr} {n cap i x : Nat} {l : List Nat} (h : NRow lo w (.slice A n cap) l) (hx : l[i]? = some x) : ∃ b off, A = some ⟨b, off, none⟩ ∧ w.cell? ⟨b, off + i, none⟩ = some (.int .i32 (x : Int)) := by
  obtain ⟨A', cap', hv, _, _, _, h⟩ := h
  injection hv with e1 e2 e3
  subst e1
  rcases h with rfl | ⟨b, off, hA, _, _, hc⟩
  · simp at hx
  · exact ⟨b, off, hA, hc i x hx⟩
theorem NRow.dropped {lo : Nat} {w : World} {b o n cap : Nat} {l : List Nat} (h : NRow lo w (.slice (some ⟨b, o, none⟩) n cap) l) (k : Nat) (hk : k ≤ l.length) :
    (cap = k → NRow lo w (.slice (some ⟨b, o, none⟩) (n - k) 0) (l.drop k)) ∧ ∀ c', cap = k + (c' + 1) → NRow lo w (.slice (some ⟨b, o + k, none⟩) (n - k) (c' + 1)) (l.drop k) := by
  obtain ⟨A', cap', hv, h1, h2, h3, h⟩ := h
  injection hv with e1 e2 e3
  subst e1 e2 e3
  constructor
  · rintro rfl
    have e : l.drop cap = [] := List.drop_eq_nil_of_le h1
    rw [e]
    exact ⟨_, _, by rw [show l.length - cap = 0 by omega]; rfl, by simp, by omega, (fun h => by cases h), .inl rfl⟩
  · rintro c' rfl
    refine ⟨_, _, by rw [List.length_drop], by rw [List.length_drop]; omega, by omega, (fun h => by cases h), ?_⟩
    rcases h with rfl | ⟨b', off, hA, hlo, hcur, hc⟩
    · exact .inl (by simp)
    · cases hA
      refine .inr ⟨b, o + k, rfl, hlo, hcur, fun i x hi => ?_⟩
      rw [List.getElem?_drop] at hi
      rw [Nat.add_assoc]
      exact hc _ _ hi
/-- a slice of bytes that came in -/
theorem brow_of {w : World} {x : Addr} {len : Nat} {zs : List Int} (hl : len ≤ zs.length) (hc : ∀ i, i < zs.length → w.cell? (x.add i) = some (.int .u8 (zs.getD i 0))) (hw : ∀ n ∈ zs, (Lit.int .u8 n).wf = true) :
    ∃ ys : List Nat, ys.length = len ∧ (∀ y ∈ ys, y < 256) ∧ BRow w (some x) ys := by
  have hb : ∀ n ∈ zs, 0 ≤ n ∧ n < 256 := fun n hn => by have := bounds_u8 (hw n hn); omega
  refine ⟨(zs.take len).map Int.toNat, by rw [List.length_map, List.length_take]; omega, fun y hy => ?_, ?_⟩
  · obtain ⟨n, hn, rfl⟩ := List.mem_map.1 hy
    have := hb n (List.mem_of_mem_take hn)
    omega
  · by_cases h0 : len = 0
    · left; subst h0; simp
    · right
      obtain ⟨b, off, rfl, hc'⟩ := ints_at hc (by omega)
      refine ⟨b, off, rfl, block_lt_of_cell (hc' 0 (by omega)), fun i y hi => ?_⟩
      rw [List.getElem?_map] at hi
      obtain ⟨n, hn, rfl⟩ := Option.map_eq_some_iff.1 hi
      rw [List.getElem?_take] at hn
      split at hn
      · have hil : i < zs.length := (List.getElem?_eq_some_iff.1 hn).1
        have hm := hb n (List.mem_of_getElem? hn)
        rw [hc' i hil, List.getD_eq_getElem?_getD, hn, Option.getD_some, Int.toNat_of_nonneg hm.1]
      · cases hn

/-! ### acts whatever comes of them -/
section
variable {w : World} {lo b gL gH : Nat} {D : Dl}
theorem insert_any (h : IsD w lo b gL gH D) {i x : Nat} (hi : i < D.hs.length) (hx : x < D.N) :
    Calls Try.prog 13 #[.pointer (some ⟨b, 0, none⟩), .int .i32 (x : Int), .int .i64 (i : Int)] w fun e w' => ∃ v D', e = .returned (.int .i64 v) ∧ IsD w' lo b gL gH D' ∧ Kp b gL gH w w' ∧ D'.N = D.N ∧ D'.hs.length = D.hs.length ∧ D'.l.length ≤ D.l.length + 1 ∧ D'.l ≠ [] := by
  have hn6 := h.n6
  by_cases hm : x ∈ D.l
  · have hc : D.insC (x : Int) (i : Int) = 8 := by
      unfold Dl.insC
      rw [inN_nat hx, inN_nat hi, Dl.has_iff.2 ⟨by omega, by rw [Int.toNat_natCast]; exact hm⟩]; rfl
    refine (insert_er h (by constructor <;> omega) (by rw [hc]; decide)).mono ?_
    rintro e w' ⟨rfl, rfl⟩
    exact ⟨_, D, rfl, h, Stay.refl _ _, rfl, rfl, by omega, fun e => by rw [e] at hm; cases hm⟩
  · refine (insert_is h hi hx hm).mono ?_
    rintro e w' ⟨rfl, hs, hk⟩
    exact ⟨_, _, rfl, hs, hk, Dl.ins_N _ _ _, Dl.ins_len _ _ _, by rw [Dl.ins_l]; exact Nat.le_refl _, fun e => by have := Dl.ins_l D i x; rw [e] at this; simp at this⟩
theorem step_any (h : IsD w lo b gL gH D) (i : Nat) :
    Calls Try.prog 14 #[.pointer (some ⟨b, 0, none⟩), .int .i64 (i : Int)] w fun e w' => ∃ v D', e = .returned (.bool v) ∧ IsD w' lo b gL gH D' ∧ Kp b gL gH w w' ∧ D'.N = D.N ∧ D'.hs.length = D.hs.length ∧ D'.l = D.l := by
  by_cases h0 : D.l = []
  · refine (step_er h _ (.inr h0)).mono ?_
    rintro e w' ⟨rfl, rfl⟩
    exact ⟨_, D, rfl, h, Stay.refl _ _, rfl, rfl, rfl⟩
  · by_cases hi : i < D.hs.length
    · obtain ⟨k, hk⟩ : ∃ k, D.hs[i]? = some k := ⟨_, List.getElem?_eq_getElem hi⟩
      refine (step_is h hk h0).mono ?_
      rintro e w' ⟨rfl, hs, hk⟩
      exact ⟨_, _, rfl, hs, hk, rfl, Dl.at_len _ _ _, rfl⟩
    · refine (step_er h _ (.inl ?_)).mono ?_
      · unfold inN; simp; omega
      rintro e w' ⟨rfl, rfl⟩
      exact ⟨_, D, rfl, h, Stay.refl _ _, rfl, rfl, rfl⟩
end
/-! ### the ring without a node, from a hand on -/
theorem rem_rot {l : List Nat} {k x : Nat} (hk : l[k]? = some x) : rot (l.take k ++ l.drop (k + 1)) (remH k (l.length - 1) k) = l.drop (k + 1) ++ l.take k := by
  have hlt := (List.getElem?_eq_some_iff.1 hk).1
  unfold remH rot
  rw [if_neg (show ¬ k < k by omega)]
  by_cases h : l.length - 1 ≤ k
  · rw [if_pos h, List.drop_zero, List.take_zero, List.append_nil, List.drop_eq_nil_of_le (show l.length ≤ k + 1 by omega)]; simp
  · have hl : (l.take k).length = k := by rw [List.length_take]; omega
    rw [if_neg h, List.drop_append_of_le_length (by omega), List.take_append_of_le_length (by omega)]
    rw [List.drop_eq_nil_of_le (by omega), List.take_of_length_le (by omega)]; rfl
theorem rem_hand {l : List Nat} {k h : Nat} (hk : k < l.length) (hh : h < l.length) (hne : h ≠ k) : (l.take k ++ l.drop (k + 1))[remH k (l.length - 1) h]? = l[h]? := by
  unfold remH
  by_cases h2 : k < h
  · rw [if_pos h2, if_neg (by omega), rem_get hk, if_neg (by omega), show h - 1 + 1 = h by omega]
  · rw [if_neg h2, if_neg (by omega), rem_get hk, if_pos (by omega)]
theorem remH_lt {k n h : Nat} (hn : 0 < n) : remH k n h < n := by
  unfold remH
  generalize (if k < h then h - 1 else h) = u
  by_cases h1 : n ≤ u
  · rw [if_pos h1]; omega
  · rw [if_neg h1]; omega
/-- how many steps it is behind a removal -/
theorem rem_gap {l : List Nat} {k h x : Nat} (hnd : l.Nodup) (hk : l[k]? = some x) (hh : h < l.length) (h2 : 2 ≤ l.length) :
    (remH k (l.length - 1) h + (l.length - 1) - remH k (l.length - 1) k) % (l.length - 1) = (h + l.length - k) % l.length - 1 := by
  have hlt := (List.getElem?_eq_some_iff.1 hk).1
  have hlen := rem_len hlt
  have hr1 : remH k (l.length - 1) k < l.length - 1 := remH_lt (by omega)
  have hr2 : remH k (l.length - 1) h < l.length - 1 := remH_lt (by omega)
  by_cases hne : h = k
  · subst hne
    rw [show remH h (l.length - 1) h + (l.length - 1) - remH h (l.length - 1) h = l.length - 1 by omega, show h + l.length - h = l.length by omega, Nat.mod_self, Nat.mod_self]
  · have e1 := rot_back (l := l.take k ++ l.drop (k + 1)) (k := remH k (l.length - 1) k) (h := remH k (l.length - 1) h) (by rw [hlen]; exact hr1) (by rw [hlen]; exact hr2)
    rw [hlen, rem_rot hk, rem_hand hlt hh hne] at e1
    have e2 := rot_back hlt hh
    rw [rot_head hk] at e2
    have hg : (h + l.length - k) % l.length ≠ 0 := by
      intro e0
      rw [e0, List.getElem?_cons_zero, ← hk] at e2
      have hx : l[h]? = some x := by rw [← e2, hk]
      exact hne (nodup_idx hnd hx hk)
    obtain ⟨g, hg2⟩ : ∃ g, (h + l.length - k) % l.length = g + 1 := ⟨(h + l.length - k) % l.length - 1, by omega⟩
    rw [hg2, List.getElem?_cons_succ] at e2
    rw [hg2, Nat.add_sub_cancel]
    obtain ⟨y, hy⟩ : ∃ y, l[h]? = some y := ⟨_, List.getElem?_eq_getElem hh⟩
    rw [hy] at e1 e2
    have hnd2 := rot_nodup (k := k) hnd
    rw [rot_head hk] at hnd2
    exact nodup_idx (List.nodup_cons.1 hnd2).2 e1 e2
end Go.Proofs.Ytjligfgaahcogaa
