/-
  Slices of nodes that are only read; are two of them the same? The nodes around from a hand, told.
-/
import Derived.Test.YtjligfgaahcogaaTold
namespace Go.Proofs.Ytjligfgaahcogaa
open Go.ChangeShapes Go.WideShapes Go.ChangeAt Go.RowKit
set_option linter.unusedVariables false

/-- the slice v reads as the nodes xs; it lies from lo on -/
def NRow (lo : Nat) (w : World) (v : Value) (xs : List Nat) : Prop :=
  ∃ A cap, v = .slice A xs.length cap ∧ xs.length ≤ cap ∧ cap ≤ maxLen ∧ (A = none → cap = 0) ∧ (xs = [] ∨ ∃ b off, A = some ⟨b, off, none⟩ ∧ lo ≤ b ∧ (∃ cur, w.heap[b]? = some (.cells cur 21 (0, 0))) ∧ ∀ (i x : Nat), xs[i]? = some x → w.cell? ⟨b, off + i, none⟩ = some (.int .i32 (x : Int)))
section
variable {lo : Nat} {w w' : World} {v : Value} {xs : List Nat}
theorem NRow.stay (h : NRow lo w v xs) (hb : ∀ (b : Nat) (cur : Array Value), lo ≤ b → w.heap[b]? = some (.cells cur 21 (0, 0)) → w'.heap[b]? = w.heap[b]?) : NRow lo w' v xs := by
  obtain ⟨A, cap, hv, hl, hc, hz, h⟩ := h
  refine ⟨A, cap, hv, hl, hc, hz, h.imp_right ?_⟩
  rintro ⟨b, off, hA, hlo, ⟨cur, hcur⟩, hx⟩
  have e := hb b cur hlo hcur
  exact ⟨b, off, hA, hlo, ⟨cur, e.trans hcur⟩, fun i x hi => (World.cell?_of_block (a := ⟨b, off + i, none⟩) e).trans (hx i x hi)⟩
theorem NRow.kept (h : NRow lo w v xs) (hg : w.grownBy w' none) : NRow lo w' v xs :=
  h.stay fun b cur _ hb => hg.block b (Array.getElem?_eq_some_iff.1 hb).1 (by simp)
theorem NRow.lower (h : NRow lo w v xs) {lo' : Nat} (hl : lo' ≤ lo) : NRow lo' w v xs := by
  obtain ⟨A, cap, hv, hl', hc, hz, h⟩ := h
  refine ⟨A, cap, hv, hl', hc, hz, h.imp_right ?_⟩
  rintro ⟨b, off, hA, hlo, r⟩
  exact ⟨b, off, hA, Nat.le_trans hl hlo, r⟩
theorem NRow.kp (h : NRow lo w v xs) {b gL gH : Nat} (hk : Kp b gL gH w w') (hB : ∃ cur, w.heap[b]? = some (.cells cur 60 (0, 0))) (hL : ∃ cur, w.heap[gL]? = some (.cells cur 72 (0, 0))) (hH : gH < lo) : NRow lo w' v xs := by
  refine h.stay fun k cur hlo hb => hk.block k (Array.getElem?_eq_some_iff.1 hb).1 ⟨?_, ?_, by omega⟩
  · rintro rfl
    obtain ⟨c, hc⟩ := hB
    exact absurd (type_eq hb hc) (by decide)
  · rintro rfl
    obtain ⟨c, hc⟩ := hL
    exact absurd (type_eq hb hc) (by decide)
theorem NRow.of_owns {n : Nat} (h : w.ownsRow lo 21 1 v n (nvals xs)) (hn : n = xs.length) : NRow lo w v xs := by
  subst hn
  rcases h.2 with ⟨rfl, h0⟩ | ⟨g, cap, cur, rfl, hb, hg, h1, h2, h3, h4⟩
  · exact ⟨none, 0, by rw [h0], by omega, by decide, fun _ => rfl, .inl (List.eq_nil_of_length_eq_zero h0)⟩
  · refine ⟨_, cap, rfl, h1, h2, (fun h => by cases h), .inr ⟨g, 0, rfl, hb, ⟨cur, hg⟩, fun i x hi => ?_⟩⟩
    have hl : i < xs.length := (List.getElem?_eq_some_iff.1 hi).1
    rw [Nat.zero_add, h.cellAt i (by omega)]
    unfold nvals
    rw [List.getElem?_map, hi]; rfl
end
theorem ne_of_at {zs ys : List Nat} {k x y : Nat} (hz : zs[k]? = some x) (hy : ys[k]? = some y) (he : x ≠ y) : zs ≠ ys := by
  rintro rfl; rw [hz] at hy; exact he (Option.some.inj hy)
theorem eq_of_takes {zs ys : List Nat} {k x : Nat} (h : zs.take k = ys.take k) (hz : zs[k]? = some x) (hy : ys[k]? = some x) : zs.take (k + 1) = ys.take (k + 1) := by
  rw [take_snoc hz, take_snoc hy, h]
set_option maxHeartbeats 1000000 in
theorem nodes_at (v u : Value) (xs ys : List Nat) (w : World) {la lb : Nat} (ha : NRow la w v xs) (hb : NRow lb w u ys) (hz : xs.length ≤ 1000000) (hy : ys.length ≤ 1000000) :
    Calls Try.prog 19 #[v, u] w fun e w' => e = .returned (.bool (decide (xs = ys))) ∧ ∃ q, w' = w.drewN q := by
  obtain ⟨A, ca, rfl, _, _, _, ha⟩ := ha
  obtain ⟨B, cb, rfl, _, _, _, hb⟩ := hb
  have Ha := Lib.hid ha
  have Hb := Lib.hid hb
  clear ha hb
  by_cases hlen : xs.length = ys.length
  · obtain ⟨n, Hn⟩ : ∃ n, Hid (xs.length = n) := ⟨_, Lib.hid rfl⟩
    have Hn2 : Hid (ys.length = n) := Lib.hid (by rw [← hlen, Hn.out])
    rw [Hn.out, Hn2.out]
    have hn : n ≤ 1000000 := by rw [← Hn.out]; exact hz
    clear hz hy hlen
    go_enter Try.func19, Try.ntmps19
    go_wp2
    go_loopw [5] (fun k wr => ∃ k' q : Nat, k' ≤ n ∧ k = .int .i64 (k' : Int) ∧ wr = w.drewN q ∧ Hid (xs.take k' = ys.take k')) (fun k _ => n - (intOf k).toNat)
    case atStart => exact ⟨0, 0, by omega, by go_num, rfl, Lib.hid rfl⟩
    case round =>
      obtain ⟨k, q, hk, rfl, rfl, HE⟩ := hrel
      by_cases hlt : k < n
      · have hx0 : ¬ xs = [] := by intro e; have := Hn.out; rw [e] at this; simp at this; omega
        have hy0 : ¬ ys = [] := by intro e; have := Hn2.out; rw [e] at this; simp at this; omega
        obtain ⟨b1, o1, rfl, _, _, hc1⟩ := Ha.out.resolve_left hx0
        obtain ⟨b2, o2, rfl, _, _, hc2⟩ := Hb.out.resolve_left hy0
        obtain ⟨x, Hx⟩ : ∃ x, Hid (xs[k]? = some x) := ⟨_, Lib.hid (List.getElem?_eq_getElem (by rw [Hn.out]; exact hlt))⟩
        obtain ⟨y, Hy⟩ : ∃ y, Hid (ys[k]? = some y) := ⟨_, Lib.hid (List.getElem?_eq_getElem (by rw [Hn2.out]; exact hlt))⟩
        have hcell1 := hc1 k x Hx.out
        have hcell2 := hc2 k y Hy.out
        have hkI : (k : Int) < (n : Int) := by omega
        clear hc1 hc2 hx0 hy0
        by_cases hzy : x = y
        · subst hzy
          have HT := Lib.hid (eq_of_takes HE.out Hx.out Hy.out)
          go_wp2
          go_quiet (fail)
          go_wp2
          go_roundw
          case rel => exact ⟨k + 1, _, by omega, by go_num, rfl, HT⟩
          case measure => simp [intOf]; omega
        · have HF : Hid (decide (xs = ys) = false) := Lib.hid (decide_eq_false (ne_of_at Hx.out Hy.out hzy))
          have hne : ((x : Int) != (y : Int)) = true := by simp; omega
          have hne2 : (x != y) = true := by simp [hzy]
          go_wp2
          go_quiet (fail)
          go_wp2
          go_ret
          rw [HF.out]
          exact ⟨rfl, q + nq, by rw [World.drewN_drewN]⟩
      · have HF : Hid (decide (xs = ys) = true) := Lib.hid (decide_eq_true (by
          have := HE.out
          rwa [List.take_of_length_le (by rw [Hn.out]; omega), List.take_of_length_le (by rw [Hn2.out]; omega)] at this))
        go_wp2
        go_ret
        rw [HF.out]
        exact ⟨rfl, _, rfl⟩
  · have HF : Hid (decide (xs = ys) = false) := Lib.hid (decide_eq_false (fun e => hlen (by rw [e])))
    have hne : ((xs.length : Int) != (ys.length : Int)) = true := by simp; omega
    have hne2 : (xs.length != ys.length) = true := by simp [hlen]
    go_enter Try.func19, Try.ntmps19
    go_wp2
    go_ret
    rw [HF.out]
    exact ⟨rfl, 0, rfl⟩


/-! ### told and gap, of dials -/
section
variable {w : World} {lo b gL gH : Nat} {D : Dl}
def PBD (b gL gH k : Nat) : Prop := k = b ∨ k = gL ∨ k = gH
theorem goes_is (h : IsD w lo b gL gH D) (hand : Int) : Goes w (PBD b gL gH) (some ⟨b, 0, none⟩) hand (D.around hand) := by
  intro W lo' Bd Bh hg hBd hBh
  have hW := h.kept hg
  cases hin : inN D.hs.length hand with
  | false =>
    have e := Dl.around_none hin
    rw [e]
    refine around_none _ lo' Bd Bh _ hand W (cell_of_head hBd 0) hBh fun W' hg' => ?_
    have := at_is (hW.kept hg') hand
    rw [e] at this
    exact this
  | true =>
    obtain ⟨i, rfl, hi⟩ := inN_get hin
    obtain ⟨k, hk⟩ : ∃ k, D.hs[i]? = some k := ⟨_, List.getElem?_eq_getElem hi⟩
    by_cases h0 : D.l = []
    · have e : D.around (i : Int) = [] := by rw [Dl.around_at hk, h0]; simp [rot]
      rw [e]
      refine around_none _ lo' Bd Bh _ _ W (cell_of_head hBd 0) hBh fun W' hg' => ?_
      have := at_is (hW.kept hg') (i : Int)
      rw [e] at this
      exact this
    · rw [Dl.around_at hk]
      exact around_seq lo' lo Bd Bh b gL gH i k D W hW hk h0 hBd hBh
theorem pbd_lt (h : IsD w lo b gL gH D) : ∀ k, PBD b gL gH k → k < w.heap.size := by
  have := h.lts
  rintro k (rfl | rfl | rfl)
  · exact this.1
  · exact this.2.1
  · exact this.2.2
theorem around_few (h : IsD w lo b gL gH D) (hand : Int) : (D.around hand).length ≤ 65536 := Nat.le_trans (D.around_len hand) h.few
theorem told_is (h : IsD w lo b gL gH D) (hand : Int) (most : Nat) (hm : most ≤ 1000000) : Calls Try.prog 15 #[.pointer (some ⟨b, 0, none⟩), .int .i64 hand, .int .i64 (most : Int)] w (ToldPost w (D.around hand) most) :=
  told_at w _ _ most _ hm (around_few h hand) _ (pbd_lt h) (goes_is h hand)
/-- how many steps it is -/
def Dl.gap (D : Dl) (a b : Int) : Nat :=
  if (inN D.hs.length a && inN D.hs.length b) = false ∨ D.l = [] then 0 else (D.hs.getD b.toNat 0 + D.l.length - D.hs.getD a.toNat 0) % D.l.length
theorem gap_is (h : IsD w lo b gL gH D) (x y : Int) : Calls Try.prog 17 #[.pointer (some ⟨b, 0, none⟩), .int .i64 x, .int .i64 y] w fun e w' => e = .returned (.int .i64 (D.gap x y : Int)) ∧ w.grownBy w' none := by
  unfold Dl.gap
  have ha := at_is h y
  by_cases h0 : D.l = []
  · rw [if_pos (.inr h0)]
    refine gap_none _ x y w ?_
    have e : D.around y = [] := List.eq_nil_of_length_eq_zero (by have := D.around_len y; rw [h0] at this; simpa using this)
    rw [e] at ha
    exact ha
  · cases hy : inN D.hs.length y with
    | false =>
      rw [if_pos (.inl (by simp))]
      rw [Dl.around_none hy] at ha
      exact gap_none _ x y w ha
    | true =>
      obtain ⟨j, rfl, hj⟩ := inN_get hy
      obtain ⟨kj, hkj⟩ : ∃ k, D.hs[j]? = some k := ⟨_, List.getElem?_eq_getElem hj⟩
      have hkl : kj < D.l.length := (h.ok.hh kj (List.mem_of_getElem? hkj)).resolve_right fun e => h0 e.1
      obtain ⟨en, hen⟩ : ∃ en, D.l[kj]? = some en := ⟨_, List.getElem?_eq_getElem hkl⟩
      rw [Dl.around_at hkj, rot_head hen, List.getElem?_cons_zero] at ha
      cases hx : inN D.hs.length x with
      | false =>
        rw [if_pos (.inl (by simp))]
        have e := Dl.around_none hx
        refine (gap_at w _ x (j : Int) en [] (by simp) (.inl rfl) ha _ (pbd_lt h) (by have := goes_is h x; rw [e] at this; exact this)).mono ?_
        rintro e w' ⟨g, rfl, hg, hgr⟩
        rcases hg with ⟨_, rfl⟩ | hg
        · exact ⟨rfl, hgr⟩
        · simp at hg
      | true =>
        obtain ⟨i, rfl, hi⟩ := inN_get hx
        obtain ⟨ki, hki⟩ : ∃ k, D.hs[i]? = some k := ⟨_, List.getElem?_eq_getElem hi⟩
        have hil : ki < D.l.length := (h.ok.hh ki (List.mem_of_getElem? hki)).resolve_right fun e => h0 e.1
        rw [if_neg (by simp [h0])]
        have e := Dl.around_at hki
        refine (gap_at w _ (i : Int) (j : Int) en _ (around_few h _) (.inr (by rw [e]; exact rot_mem.2 (List.mem_of_getElem? hen))) ha _ (pbd_lt h) (goes_is h _)).mono ?_
        rintro e' w' ⟨g, rfl, hg, hgr⟩
        rw [e] at hg
        refine ⟨?_, hgr⟩
        rcases hg with ⟨hg, _⟩ | hg
        · have := congrArg List.length hg
          rw [rot_length] at this
          simp at this
          exact absurd this h0
        · have h2 := rot_back hil hkl
          rw [hen] at h2
          have := nodup_idx (rot_nodup h.ok.nd) hg h2
          rw [this]
          simp only [Int.toNat_natCast, List.getD_eq_getElem?_getD, hki, hkj, Option.getD_some]
end
theorem goes_nil (w : World) (hand : Int) : Goes w (fun _ => False) none hand [] := by
  intro W lo' Bd Bh hg hBd hBh
  exact around_none _ lo' Bd Bh _ hand W (cell_of_head hBd 0) hBh fun W' hg' => at_nil hand W'
theorem told_nil (w : World) (hand : Int) (most : Nat) (hm : most ≤ 1000000) : Calls Try.prog 15 #[.pointer none, .int .i64 hand, .int .i64 (most : Int)] w (ToldPost w [] most) :=
  told_at w _ _ most _ hm (by simp) _ (fun _ h => h.elim) (goes_nil w hand)
end Go.Proofs.Ytjligfgaahcogaa
