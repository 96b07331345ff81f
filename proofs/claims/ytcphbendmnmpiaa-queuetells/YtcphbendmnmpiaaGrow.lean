/-
  Rows of numbers that grow at their ends and lose their first ones; ones that are only read; are two of them the same?
-/
import Derived.Test.YtcphbendmnmpiaaTold
namespace Go.Proofs.Ytcphbendmnmpiaa
open Go.ChangeShapes Go.WideShapes Go.ChangeAt Go.RowKit
set_option linter.unusedVariables false

/-- the slice at A reads as the numbers xs -/
def IRow (w : World) (A : Option Addr) (xs : List Int) : Prop :=
  xs = [] ∨ ∃ b off, A = some ⟨b, off, none⟩ ∧ b < w.heap.size ∧ ∀ (i : Nat) (x : Int), xs[i]? = some x → w.cell? ⟨b, off + i, none⟩ = some (.int .i64 x)
theorem IRow.kept {w w' : World} {A : Option Addr} {xs : List Int} (h : IRow w A xs) (hg : w.grownBy w' none) : IRow w' A xs := by
  refine h.imp_right ?_
  rintro ⟨b, off, hA, hb, hc⟩
  exact ⟨b, off, hA, Nat.lt_of_lt_of_le hb hg.size, fun i x hx => hg.cell (hc i x hx) (by simp)⟩
theorem IRow.take {w : World} {A : Option Addr} {xs : List Int} (h : IRow w A xs) (k : Nat) : IRow w A (xs.take k) := by
  rcases h with rfl | ⟨b, off, hA, hb, hc⟩
  · exact .inl (by simp)
  · refine .inr ⟨b, off, hA, hb, fun i x hx => hc i x ?_⟩
    rw [List.getElem?_take] at hx
    split at hx
    · exact hx
    · cases hx
theorem IRow.at {w : World} {A : Option Addr} {xs : List Int} (h : IRow w A xs) {k : Nat} {x : Int} (hx : xs[k]? = some x) : ∃ b off, A = some ⟨b, off, none⟩ ∧ w.cell? ⟨b, off + k, none⟩ = some (.int .i64 x) := by
  rcases h with rfl | ⟨b, off, hA, hb, hc⟩
  · simp at hx
  · exact ⟨b, off, hA, hc k x hx⟩
/-- a slice of numbers that came in -/
theorem irow_of {w : World} {x : Addr} {len : Nat} {zs : List Int} (hl : len ≤ zs.length) (hc : ∀ i, i < zs.length → w.cell? (x.add i) = some (.int .i64 (zs.getD i 0))) : (zs.take len).length = len ∧ IRow w (some x) (zs.take len) := by
  refine ⟨by simp; omega, ?_⟩
  by_cases h0 : len = 0
  · left; subst h0; simp
  · right
    obtain ⟨b, off, rfl, hc'⟩ := ints_at hc (by omega)
    have hlt : b < w.heap.size := World.block_lt_of_cell? w _ (hc' 0 (by omega))
    refine ⟨b, off, rfl, hlt, fun i y hy => ?_⟩
    rw [List.getElem?_take] at hy
    split at hy
    · rename_i hi
      rw [hc' i (by omega), List.getD_eq_getElem?_getD, hy]; rfl
    · cases hy
set_option maxHeartbeats 1000000 in
theorem same_is (A B : Option Addr) (ca cb : Nat) (xs ys : List Int) (w : World) (ha : IRow w A xs) (hb : IRow w B ys) (hz : xs.length ≤ 1000000) (hy : ys.length ≤ 1000000) :
    Calls Try.prog 14 #[.slice A xs.length ca, .slice B ys.length cb] w fun e w' => e = .returned (.bool (decide (xs = ys))) ∧ ∃ q, w' = w.drewN q := by
  have Ha := Lib.hid ha
  have Hb := Lib.hid hb
  clear ha hb
  by_cases hlen : xs.length = ys.length
  · obtain ⟨n, Hn⟩ : ∃ n, Hid (xs.length = n) := ⟨_, Lib.hid rfl⟩
    have Hn2 : Hid (ys.length = n) := Lib.hid (by rw [← hlen, Hn.out])
    rw [Hn.out, Hn2.out]
    have hn : n ≤ 1000000 := by rw [← Hn.out]; exact hz
    clear hz hy hlen
    go_enter Try.func14, Try.ntmps14
    go_wp2
    go_loopw [5] (fun k wr => ∃ k' q : Nat, k' ≤ n ∧ k = .int .i64 (k' : Int) ∧ wr = w.drewN q ∧ Hid (xs.take k' = ys.take k')) (fun k _ => n - (intOf k).toNat)
    case atStart => exact ⟨0, 0, by omega, by go_num, rfl, Lib.hid rfl⟩
    case round =>
      obtain ⟨k, q, hk, rfl, rfl, HE⟩ := hrel
      by_cases hlt : k < n
      · obtain ⟨x, Hx⟩ : ∃ x, Hid (xs[k]? = some x) := ⟨_, Lib.hid (List.getElem?_eq_getElem (by rw [Hn.out]; exact hlt))⟩
        obtain ⟨y, Hy⟩ : ∃ y, Hid (ys[k]? = some y) := ⟨_, Lib.hid (List.getElem?_eq_getElem (by rw [Hn2.out]; exact hlt))⟩
        obtain ⟨b1, o1, rfl, hcell1⟩ := Ha.out.at Hx.out
        obtain ⟨b2, o2, rfl, hcell2⟩ := Hb.out.at Hy.out
        have hkI : (k : Int) < (n : Int) := by omega
        by_cases hzy : x = y
        · subst hzy
          have HT := Lib.hid (eq_of_takes HE.out Hx.out Hy.out)
          go_wp2
          go_quiet (fail)
          go_wp2
          go_roundw
          case rel => exact ⟨k + 1, _, by omega, by go_num, rfl, HT⟩
          case measure => simp [intOf]; omega
        · have HF : Hid (decide (xs = ys) = false) := Lib.hid (decide_eq_false (ne_of_at Hx.out Hy.out hzy))
          have hne : (x != y) = true := by simp [hzy]
          go_wp2
          go_quiet (fail)
          go_wp2
          go_ret
          rw [HF.out]
          exact ⟨rfl, q + nq, by rw [World.drewN_drewN]⟩
      · have HF : Hid (decide (xs = ys) = true) := Lib.hid (decide_eq_true (by
          have := HE.out
          rwa [List.take_of_length_le (by rw [Hn.out]; omega), List.take_of_length_le (by rw [Hn2.out]; omega)] at this))
        go_wp2
        go_ret
        rw [HF.out]
        exact ⟨rfl, _, rfl⟩
  · have HF : Hid (decide (xs = ys) = false) := Lib.hid (decide_eq_false (fun e => hlen (by rw [e])))
    have hne : ((xs.length : Int) != (ys.length : Int)) = true := by simp; omega
    have hne2 : (xs.length != ys.length) = true := by simp [hlen]
    go_enter Try.func14, Try.ntmps14
    go_wp2
    go_ret
    rw [HF.out]
    exact ⟨rfl, 0, rfl⟩
/-- a row of the call's own -/
def ORow (lo : Nat) (w : World) (v : Value) (xs : List Int) : Prop :=
  (v = .slice none 0 0 ∧ xs = []) ∨ ∃ g off cap cur, v = .slice (some ⟨g, off, none⟩) xs.length cap ∧ lo ≤ g ∧ w.heap[g]? = some (.cells cur 2 (0, 0)) ∧ xs.length ≤ cap ∧ cap ≤ maxLen ∧ off + cap ≤ cur.size ∧ ∀ (i : Nat) (x : Int), xs[i]? = some x → cur[off + i]? = some (.int .i64 x)
section
variable {lo : Nat} {w w' : World} {v : Value} {xs : List Int}
theorem orow_nil (lo : Nat) (w : World) : ORow lo w (.slice none 0 0) [] := .inl ⟨rfl, rfl⟩
theorem ORow.slice (h : ORow lo w v xs) : ∃ A cap, v = .slice A xs.length cap := by
  rcases h with ⟨rfl, rfl⟩ | ⟨g, off, cap, cur, rfl, _⟩
  · exact ⟨none, 0, rfl⟩
  · exact ⟨_, _, rfl⟩
theorem ORow.lt (h : ORow lo w v xs) {k : Nat} (hk : v.ownBlock = some k) : lo ≤ k ∧ k < w.heap.size := by
  rcases h with ⟨rfl, _⟩ | ⟨g, off, cap, cur, rfl, hl, hg, _⟩
  · cases hk
  · injection hk with hk
    have hk : g = k := hk
    subst hk
    exact ⟨hl, (Array.getElem?_eq_some_iff.1 hg).1⟩
theorem ORow.stay (h : ORow lo w v xs) (hb : ∀ k, v.ownBlock = some k → w'.heap[k]? = w.heap[k]?) : ORow lo w' v xs := by
  refine h.imp_right ?_
  rintro ⟨g, off, cap, cur, rfl, hl, hg, r⟩
  exact ⟨g, off, cap, cur, rfl, hl, (hb g rfl).trans hg, r⟩
theorem ORow.kept (h : ORow lo w v xs) (hg : w.grownBy w' none) : ORow lo w' v xs := h.stay fun k hk => hg.block k (h.lt hk).2 (by simp)
theorem ORow.irow {A : Option Addr} {n cap : Nat} (h : ORow lo w (.slice A n cap) xs) : IRow w A xs := by
  rcases h with ⟨_, rfl⟩ | ⟨g, off, cap, cur, e, hl, hg, h1, h2, h3, h4⟩
  · exact .inl rfl
  · injection e with e1 e2 e3
    exact .inr ⟨g, off, e1, (Array.getElem?_eq_some_iff.1 hg).1, fun i x hx => by rw [cell_of_head hg]; exact h4 i x hx⟩
theorem ORow.of_owns {n : Nat} (h : w.ownsRow lo 2 1 v n (ivals xs)) : ORow lo w v xs := by
  have hl := h.1
  rw [ivals_length, Nat.mul_one] at hl
  subst hl
  rcases h.2 with ⟨rfl, h0⟩ | ⟨g, cap, cur, rfl, hb, hg, h1, h2, h3, h4⟩
  · exact .inl ⟨rfl, List.eq_nil_of_length_eq_zero h0⟩
  · refine .inr ⟨g, 0, cap, cur, rfl, hb, hg, h1, h2, by omega, fun i x hx => ?_⟩
    have hi : i < xs.length := (List.getElem?_eq_some_iff.1 hx).1
    have : (cur.toList.take (xs.length * 1))[i]? = (ivals xs)[i]? := by rw [h4]
    rw [List.getElem?_take, if_pos (by omega), ivals_get hx] at this
    rw [Nat.zero_add]
    simpa using this
/-- the first one goes -/
theorem ORow.tail {A : Option Addr} {n cap : Nat} (h : ORow lo w (.slice A n cap) xs) (h0 : xs ≠ []) : ∃ g off, A = some ⟨g, off, none⟩ ∧ n = xs.length ∧ n ≤ cap ∧
    (cap = 1 → ORow lo w (.slice (some ⟨g, off, none⟩) 0 0) xs.tail) ∧ (cap ≠ 1 → ORow lo w (.slice (some ⟨g, off + 1, none⟩) (n - 1) (cap - 1)) xs.tail) := by
  rcases h with ⟨_, rfl⟩ | ⟨g, off, cap, cur, e, hl, hg, h1, h2, h3, h4⟩
  · exact absurd rfl h0
  · injection e with e1 e2 e3
    subst e1 e2 e3
    have hpos : 0 < xs.length := List.length_pos_iff.2 h0
    refine ⟨g, off, rfl, rfl, h1, fun hc => ?_, fun hc => ?_⟩
    · have e : xs.tail = [] := List.eq_nil_of_length_eq_zero (by rw [List.length_tail]; omega)
      rw [e]
      exact .inr ⟨g, off, 0, cur, rfl, hl, hg, by simp, by simp, by omega, fun i x hx => by simp at hx⟩
    · refine .inr ⟨g, off + 1, cap - 1, cur, by rw [List.length_tail], hl, hg, by rw [List.length_tail]; omega, by omega, by omega, fun i x hx => ?_⟩
      rw [List.getElem?_tail] at hx
      have := h4 (i + 1) x hx
      rw [show off + 1 + i = off + (i + 1) by omega]
      exact this
theorem ivals_append (a b : List Int) : ivals (a ++ b) = ivals a ++ ivals b := by simp [ivals]
theorem ivals_one (xs : List Int) : ∀ u ∈ ivals xs, u.oneCell' = true := by
  intro u hu
  unfold ivals at hu
  obtain ⟨x, _, rfl⟩ := List.mem_map.1 hu
  rfl
/-- more come at the end -/
theorem ORow.append (h : ORow lo w v xs) (hlo : lo ≤ w.heap.size) {a : Addr} {m c : Nat} {ys : List Int} (hm : ys.length = m) (hc : ∀ j u, (ivals ys)[j]? = some u → w.cell? (a.add j) = some u) (hlen : xs.length + m ≤ 1000000) (ty : TypeId) :
    ∃ A' cap' w', (Builtin.append_ #[22, 22] ty #[v, .slice (some a) m c]).run Try.prog w = .ok (.slice A' (xs.length + m) cap') w' ∧ ORow lo w' (.slice A' (xs.length + m) cap') (xs ++ ys) ∧ w.grownBy w' v.ownBlock ∧
      ((Value.slice A' (xs.length + m) cap').ownBlock = v.ownBlock ∨ ∀ k, (Value.slice A' (xs.length + m) cap').ownBlock = some k → w.heap.size ≤ k) := by
  obtain ⟨i0, hi, hz0, hz1, hz2⟩ := info_parts info2
  have hyl : (ivals ys).length = m * i0.size := by rw [ivals_length, hz1, hm, Nat.mul_one]
  rcases h with ⟨rfl, rfl⟩ | ⟨g, off, cap, cur, rfl, hl, hg, h1, h2, h3, h4⟩
  · obtain ⟨v', w', hrun, ho, hgr, hnil, hat⟩ := run_append_own_at (P := Try.prog) w lo 22 ty 2 i0 (.int .i64 0) 1 8 Try.underlying22 hi hz0 hz1 hz2 rfl (by decide) (.slice none 0 0) 0 [] (World.ownsRow_nil _ _ _ _) a m c (ivals ys) (by rw [ivals_length, hm, Nat.mul_one]) hc (ivals_one ys) (by unfold maxLen; simp at hlen; omega) (by simp at hlen; omega) hlo
    obtain ⟨A', cap', rfl⟩ := owns_slice ho
    rw [List.nil_append] at ho
    refine ⟨A', cap', w', by simpa using hrun, by simpa using ORow.of_owns ho, hgr, ?_⟩
    rcases hat with h | h
    · exact .inl (by simpa using h)
    · refine .inr fun k hk => ?_
      have : (Value.slice A' (0 + m) cap').ownBlock = some k := by simpa using hk
      rw [h] at this
      injection this with this
      omega
  · by_cases hroom : xs.length + m ≤ cap
    · have hf := run_firstCells_some (P := Try.prog) w i0.size m a m c (ivals ys) hyl hc
      have hst := run_storeCells_at Try.prog g (off + xs.length) 2 (ivals ys) 0 cur w hg (by rw [ivals_length, hm]; omega) (ivals_one ys)
      simp only [Nat.add_zero] at hst
      rw [hz1] at hf
      have hL : cur.toList.length = cur.size := Array.length_toList
      refine ⟨some ⟨g, off, none⟩, cap, w.setRow g (cur.toList.take (off + xs.length) ++ ivals ys ++ cur.toList.drop (off + xs.length + (ivals ys).length)).toArray, ?_, ?_, ⟨rfl, rfl, rfl, by simp, fun k _ hk => setRow_other w g k _ (fun e => hk (by rw [e]; rfl))⟩, .inl rfl⟩
      · simp [Builtin.append_, run_underlying Try.underlying22, sizeOf, typeInfo, hi, Builtin.lenOf, hroom, hf, Addr.add_mid, hz1, hst]
      · refine .inr ⟨g, off, cap, _, by rw [List.length_append, hm], hl, setRow_heap w g cur _ 2 _ hg, by rw [List.length_append, hm]; exact hroom, h2, ?_, fun i x hx => ?_⟩
        · simp only [List.size_toArray, List.length_append, List.length_take, List.length_drop, Array.length_toList, ivals_length, hm]
          omega
        · rw [List.getElem?_toArray]
          by_cases hi2 : i < xs.length
          · rw [List.getElem?_append_left hi2] at hx
            have h5 := h4 i x hx
            rw [List.append_assoc, List.getElem?_append_left (by rw [List.length_take, hL]; omega), List.getElem?_take, if_pos (by omega)]
            simpa using h5
          · rw [List.getElem?_append_right (by omega)] at hx
            have hj : i - xs.length < ys.length := (List.getElem?_eq_some_iff.1 hx).1
            rw [List.append_assoc, List.getElem?_append_right (by rw [List.length_take, hL]; omega), List.getElem?_append_left (by rw [List.length_take, hL, ivals_length]; omega), List.length_take, hL]
            rw [show off + i - min (off + xs.length) cur.size = i - xs.length by omega]
            exact ivals_get hx
    · have hxl : (ivals xs).length = xs.length * i0.size := by rw [ivals_length, hz1, Nat.mul_one]
      have holds : ∀ j u, (ivals xs)[j]? = some u → w.cell? ((⟨g, off, none⟩ : Addr).add j) = some u := fun j u hu => by
        unfold ivals at hu
        rw [List.getElem?_map] at hu
        obtain ⟨x, hx, rfl⟩ := Option.map_eq_some_iff.1 hu
        rw [Addr.add_mid, cell_of_head hg]
        exact h4 j x hx
      have hr := run_append_grow (P := Try.prog) w 22 ty 2 i0 (.int .i64 0) Try.underlying22 hi hz0 ⟨g, off, none⟩ xs.length cap (ivals xs) hxl holds a m c (ivals ys) hyl hc (by omega) (by omega) (growslice_fits (by omega) (by rw [hz2]; omega))
      have hge := grownCap_ge w (xs.length + m) cap 2
      have hcm : grownCap w (xs.length + m) cap 2 ≤ maxLen := grownCap_le_maxLen w (xs.length + m) cap 2 (by unfold maxLen; omega)
      refine ⟨_, _, _, hr, .inr ⟨w.heap.size, 0, _, _, by rw [List.length_append, hm], hlo, heap_alloc_new w.drew _, by rw [List.length_append, hm]; exact hge, hcm, ?_, fun i x hx => ?_⟩, ⟨rfl, rfl, rfl, by simp, fun k hk _ => heap_alloc_old w.drew _ hk⟩, .inr fun k hk => by injection hk with hk; exact Nat.le_of_eq hk⟩
      · have hzs : (Value.cells (.int .i64 0)).size = 1 := rfl
        simp only [Array.size_append, List.size_toArray, size_zeroCells, hzs, ivals_length, hm]
        omega
      · have hil : i < (xs ++ ys).length := (List.getElem?_eq_some_iff.1 hx).1
        rw [List.length_append, hm] at hil
        rw [Array.getElem?_append_left (by simp [ivals_length, hm]; omega), Nat.zero_add]
        have e : (ivals xs).toArray ++ (ivals ys).toArray = (ivals (xs ++ ys)).toArray := by rw [ivals_append]; simp
        rw [e, List.getElem?_toArray]
        exact ivals_get hx
end
end Go.Proofs.Ytcphbendmnmpiaa
