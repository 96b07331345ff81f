/-
  Slices of nodes that are only read; are two of them the same?
-/
import Derived.Test.YtmjccpgkgkindaaTold
namespace Go.Proofs.Ytmjccpgkgkindaa
open Go.ChangeShapes Go.WideShapes Go.ChangeAt Go.RowKit
set_option linter.unusedVariables false

/-- the slice v reads as the nodes xs -/
def NRow (w : World) (v : Value) (xs : List Nat) : Prop :=
  ∃ A cap, v = .slice A xs.length cap ∧ xs.length ≤ cap ∧ cap ≤ maxLen ∧ (A = none → cap = 0) ∧ (xs = [] ∨ ∃ b off, A = some ⟨b, off, none⟩ ∧ (∃ cur, w.heap[b]? = some (.cells cur 21 (0, 0))) ∧ ∀ (i x : Nat), xs[i]? = some x → w.cell? ⟨b, off + i, none⟩ = some (.int .i32 (x : Int)))
section
variable {w w' : World} {v : Value} {xs : List Nat}
theorem NRow.stay (h : NRow w v xs) (hb : ∀ (b : Nat) (cur : Array Value), w.heap[b]? = some (.cells cur 21 (0, 0)) → w'.heap[b]? = w.heap[b]?) : NRow w' v xs := by
  obtain ⟨A, cap, hv, hl, hc, hz, h⟩ := h
  refine ⟨A, cap, hv, hl, hc, hz, h.imp_right ?_⟩
  rintro ⟨b, off, hA, ⟨cur, hcur⟩, hx⟩
  have e := hb b cur hcur
  exact ⟨b, off, hA, ⟨cur, e.trans hcur⟩, fun i x hi => (World.cell?_of_block (a := ⟨b, off + i, none⟩) e).trans (hx i x hi)⟩
theorem NRow.kept (h : NRow w v xs) (hg : w.grownBy w' none) : NRow w' v xs :=
  h.stay fun b cur hb => hg.block b (Array.getElem?_eq_some_iff.1 hb).1 (by simp)
theorem NRow.kp (h : NRow w v xs) {gL gN : Nat} (hk : Kp gL gN w w') (hL : ∃ cur, w.heap[gL]? = some (.cells cur 69 (0, 0))) (hN : ∃ cur, w.heap[gN]? = some (.cells cur 3 (0, 0))) : NRow w' v xs := by
  refine h.stay fun b cur hb => hk.block b (Array.getElem?_eq_some_iff.1 hb).1 ⟨?_, ?_⟩
  · rintro rfl
    obtain ⟨c, hc⟩ := hL
    exact absurd (type_eq hb hc) (by decide)
  · rintro rfl
    obtain ⟨c, hc⟩ := hN
    exact absurd (type_eq hb hc) (by decide)
theorem NRow.of_owns {base n : Nat} (h : w.ownsRow base 21 1 v n (nvals xs)) (hn : n = xs.length) : NRow w v xs := by
  subst hn
  rcases h.2 with ⟨rfl, h0⟩ | ⟨g, cap, cur, rfl, hb, hg, h1, h2, h3, h4⟩
  · exact ⟨none, 0, by rw [h0], by omega, by decide, fun _ => rfl, .inl (List.eq_nil_of_length_eq_zero h0)⟩
  · refine ⟨_, cap, rfl, h1, h2, (fun h => by cases h), .inr ⟨g, 0, rfl, ⟨cur, hg⟩, fun i x hi => ?_⟩⟩
    have hl : i < xs.length := (List.getElem?_eq_some_iff.1 hi).1
    rw [Nat.zero_add, h.cellAt i (by omega)]
    unfold nvals
    rw [List.getElem?_map, hi]; rfl
/-- a part of it -/
theorem NRow.take (h : NRow w v xs) (k : Nat) (hk : k ≤ xs.length) : ∃ A cap, v = .slice A xs.length cap ∧ NRow w (.slice A k cap) (xs.take k) := by
  obtain ⟨A, cap, hv, hl, hc, hz, h⟩ := h
  have e : (xs.take k).length = k := by rw [List.length_take]; omega
  refine ⟨A, cap, hv, A, cap, by rw [e], by omega, hc, hz, ?_⟩
  rcases h with rfl | ⟨b, off, hA, hcur, hx⟩
  · exact .inl (by simp)
  · refine .inr ⟨b, off, hA, hcur, fun i x hi => ?_⟩
    rw [List.getElem?_take] at hi
    split at hi
    · exact hx i x hi
    · cases hi
end
theorem ne_of_at {zs ys : List Nat} {k x y : Nat} (hz : zs[k]? = some x) (hy : ys[k]? = some y) (he : x ≠ y) : zs ≠ ys := by
  rintro rfl; rw [hz] at hy; exact he (Option.some.inj hy)
theorem eq_of_takes {zs ys : List Nat} {k x : Nat} (h : zs.take k = ys.take k) (hz : zs[k]? = some x) (hy : ys[k]? = some x) : zs.take (k + 1) = ys.take (k + 1) := by
  rw [take_snoc hz, take_snoc hy, h]
set_option maxHeartbeats 1000000 in
theorem nodes_at (v u : Value) (xs ys : List Nat) (w : World) (ha : NRow w v xs) (hb : NRow w u ys) (hz : xs.length ≤ 1000000) (hy : ys.length ≤ 1000000) :
    Calls Try.prog 17 #[v, u] w fun e w' => e = .returned (.bool (decide (xs = ys))) ∧ ∃ q, w' = w.drewN q := by
  obtain ⟨A, ca, rfl, _, _, _, ha⟩ := ha
  obtain ⟨B, cb, rfl, _, _, _, hb⟩ := hb
  have Ha := Lib.hid ha
  have Hb := Lib.hid hb
  clear ha hb
  by_cases hlen : xs.length = ys.length
  · obtain ⟨n, Hn⟩ : ∃ n, Hid (xs.length = n) := ⟨_, Lib.hid rfl⟩
    have Hn2 : Hid (ys.length = n) := Lib.hid (by rw [← hlen, Hn.out])
    rw [Hn.out, Hn2.out]
    have hn : n ≤ 1000000 := by rw [← Hn.out]; exact hz
    clear hz hy hlen
    go_enter Try.func17, Try.ntmps17
    go_wp2
    go_loopw [5] (fun k wr => ∃ k' q : Nat, k' ≤ n ∧ k = .int .i64 (k' : Int) ∧ wr = w.drewN q ∧ Hid (xs.take k' = ys.take k')) (fun k _ => n - (intOf k).toNat)
    case atStart => exact ⟨0, 0, by omega, by go_num, rfl, Lib.hid rfl⟩
    case round =>
      obtain ⟨k, q, hk, rfl, rfl, HE⟩ := hrel
      by_cases hlt : k < n
      · have hx0 : ¬ xs = [] := by intro e; have := Hn.out; rw [e] at this; simp at this; omega
        have hy0 : ¬ ys = [] := by intro e; have := Hn2.out; rw [e] at this; simp at this; omega
        obtain ⟨b1, o1, rfl, _, hc1⟩ := Ha.out.resolve_left hx0
        obtain ⟨b2, o2, rfl, _, hc2⟩ := Hb.out.resolve_left hy0
        obtain ⟨x, Hx⟩ : ∃ x, Hid (xs[k]? = some x) := ⟨_, Lib.hid (List.getElem?_eq_getElem (by rw [Hn.out]; exact hlt))⟩
        obtain ⟨y, Hy⟩ : ∃ y, Hid (ys[k]? = some y) := ⟨_, Lib.hid (List.getElem?_eq_getElem (by rw [Hn2.out]; exact hlt))⟩
        have hcell1 := hc1 k x Hx.out
        have hcell2 := hc2 k y Hy.out
        have hkI : (k : Int) < (n : Int) := by omega
        clear hc1 hc2 hx0 hy0
        by_cases hzy : x = y
        · subst hzy
          have HT := Lib.hid (eq_of_takes HE.out Hx.out Hy.out)
          go_wp2
          go_quiet (fail)
          go_wp2
          go_roundw
          case rel => exact ⟨k + 1, _, by omega, by go_num, rfl, HT⟩
          case measure => simp [intOf]; omega
        · have HF : Hid (decide (xs = ys) = false) := Lib.hid (decide_eq_false (ne_of_at Hx.out Hy.out hzy))
          have hne : ((x : Int) != (y : Int)) = true := by simp; omega
          have hne2 : (x != y) = true := by simp [hzy]
          go_wp2
          go_quiet (fail)
          go_wp2
          go_ret
          rw [HF.out]
          exact ⟨rfl, q + nq, by rw [World.drewN_drewN]⟩
      · have HF : Hid (decide (xs = ys) = true) := Lib.hid (decide_eq_true (by
          have := HE.out
          rwa [List.take_of_length_le (by rw [Hn.out]; omega), List.take_of_length_le (by rw [Hn2.out]; omega)] at this))
        go_wp2
        go_ret
        rw [HF.out]
        exact ⟨rfl, _, rfl⟩
  · have HF : Hid (decide (xs = ys) = false) := Lib.hid (decide_eq_false (fun e => hlen (by rw [e])))
    have hne : ((xs.length : Int) != (ys.length : Int)) = true := by simp; omega
    have hne2 : (xs.length != ys.length) = true := by simp [hlen]
    go_enter Try.func17, Try.ntmps17
    go_wp2
    go_ret
    rw [HF.out]
    exact ⟨rfl, 0, rfl⟩

/-! ### told and back, of chains -/
section
variable {w : World} {lo b gL gN : Nat} {C : Ch}
/-- the nodes of a list; none, if there is no such list -/
def Ch.ofI (C : Ch) (list : Int) : List Nat := if inN C.ls.length list = true then C.of list.toNat else []
theorem Ch.ofI_nat {C : Ch} {i : Nat} (h : i < C.ls.length) : C.ofI (i : Int) = C.of i := by unfold Ch.ofI; rw [inN_nat h]; simp
theorem told_is (h : IsCh w lo b gL gN C) (list : Int) (most : Nat) (hm : most ≤ 1000000) : Calls Try.prog 15 #[.pointer (some ⟨b, 0, none⟩), .int .i64 list, .int .i64 (most : Int)] w (ToldPost w (C.ofI list) most) := by
  by_cases hin : inN C.ls.length list = true
  · have hx : 0 ≤ list ∧ list < (C.ls.length : Int) := by unfold inN at hin; simpa using hin
    obtain ⟨i, rfl⟩ := Int.eq_ofNat_of_zero_le hx.1
    have hi : i < C.ls.length := by omega
    rw [Ch.ofI_nat hi]
    refine told_at w _ _ most _ hm (h.few i) (fun W hW => ?_) fun k x W hk hW => next_is (h.kept hW) hk
    have := first_is (h.kept hW) i hi
    rw [List.head?_eq_getElem?] at this
    exact this
  · have e : C.ofI list = [] := by unfold Ch.ofI; rw [if_neg hin]
    rw [e]
    refine told_at w _ _ most _ hm (by simp) (fun W hW => ?_) fun k x W hk hW => by simp at hk
    refine (first_er (h.kept hW) (by simpa using hin)).mono ?_
    rintro e w' ⟨rfl, rfl⟩
    exact ⟨rfl, 0, rfl⟩
theorem back_is (h : IsCh w lo b gL gN C) (list : Int) (most : Nat) (hm : most ≤ 1000000) : Calls Try.prog 21 #[.pointer (some ⟨b, 0, none⟩), .int .i64 list, .int .i64 (most : Int)] w (ToldPost w (C.ofI list).reverse most) := by
  by_cases hin : inN C.ls.length list = true
  · have hx : 0 ≤ list ∧ list < (C.ls.length : Int) := by unfold inN at hin; simpa using hin
    obtain ⟨i, rfl⟩ := Int.eq_ofNat_of_zero_le hx.1
    have hi : i < C.ls.length := by omega
    rw [Ch.ofI_nat hi]
    refine back_at w _ _ most _ hm (by rw [List.length_reverse]; exact h.few i) (fun W hW => ?_) fun k x W hk hW => ?_
    · have := last_is (h.kept hW) i hi
      rw [← List.head?_reverse, List.head?_eq_getElem?] at this
      exact this
    · have hl : k < (C.of i).length := by have := (List.getElem?_eq_some_iff.1 hk).1; simpa using this
      rw [List.getElem?_reverse hl] at hk
      have := prev_is (h.kept hW) hk
      have e : (if (C.of i).length - 1 - k = 0 then none else (C.of i)[(C.of i).length - 1 - k - 1]?) = (C.of i).reverse[k + 1]? := by
        by_cases h0 : (C.of i).length - 1 - k = 0
        · rw [if_pos h0, List.getElem?_eq_none (by simp; omega)]
        · rw [if_neg h0, List.getElem?_reverse (by omega)]
          congr 1
      rw [e] at this
      exact this
  · have e : C.ofI list = [] := by unfold Ch.ofI; rw [if_neg hin]
    rw [e]
    refine back_at w _ _ most _ hm (by simp) (fun W hW => ?_) fun k x W hk hW => by simp at hk
    refine (last_er (h.kept hW) (by simpa using hin)).mono ?_
    rintro e w' ⟨rfl, rfl⟩
    exact ⟨rfl, 0, rfl⟩
end
theorem told_nil (w : World) (list : Int) (most : Nat) (hm : most ≤ 1000000) : Calls Try.prog 15 #[.pointer none, .int .i64 list, .int .i64 (most : Int)] w (ToldPost w [] most) := by
  refine told_at w _ _ most _ hm (by simp) (fun W hW => ?_) fun k x W hk hW => by simp at hk
  refine (first_nil list W).mono ?_
  rintro e w' ⟨rfl, rfl⟩
  exact ⟨rfl, 0, rfl⟩
theorem back_nil (w : World) (list : Int) (most : Nat) (hm : most ≤ 1000000) : Calls Try.prog 21 #[.pointer none, .int .i64 list, .int .i64 (most : Int)] w (ToldPost w [] most) := by
  refine back_at w _ _ most _ hm (by simp) (fun W hW => ?_) fun k x W hk hW => by simp at hk
  refine (last_nil list W).mono ?_
  rintro e w' ⟨rfl, rfl⟩
  exact ⟨rfl, 0, rfl⟩
end Go.Proofs.Ytmjccpgkgkindaa
