/-
  Rows of numbers: one that is collected in a box, and ones that are only read; are two of them the same?
-/
import Derived.Test.YtcphbendmnmpiaaAll
import Derived.Deep.OwnRows
namespace Go.Proofs.Ytcphbendmnmpiaa
open Go.ChangeShapes Go.WideShapes Go.ChangeAt Go.RowKit Go.Shelf
set_option linter.unusedVariables false

theorem info_parts {P : Program} {t : TypeId} {z : Value} {s b : Nat} (h : (P.info? t).map (fun i => (i.zero, i.size, i.bytes)) = some (some z, s, b)) : ∃ i, P.info? t = some i ∧ i.zero = some z ∧ i.size = s ∧ i.bytes = b := by
  cases hq : P.info? t with
  | none => rw [hq] at h; cases h
  | some i =>
    rw [hq] at h
    simp at h
    exact ⟨i, rfl, h.1, h.2.1, h.2.2⟩
theorem cell_new1 (w : World) (t : TypeId) (y : Value) : ∀ j u, [y][j]? = some u → (w.alloc (.cells #[y] t)).cell? ((⟨w.heap.size, 0, none⟩ : Addr).add j) = some u := by
  intro j u hj
  rcases j with _ | j
  · injection hj with hj; subst hj
    rw [Go.WideShapes.add_plain]
    exact cell_of_head (heap_alloc_new w _) 0
  · simp at hj
theorem Boxed.not_row {w : World} {b : Nat} {t e : TypeId} {u : Value} (h : Boxed w b t u) (hte : t ≠ e) {base n : Nat} {size : Nat} {v : Value} {xs : List Value} (hr : w.ownsRow base e size v n xs) : some b ≠ v.ownBlock := fun e1 => by
  obtain ⟨_, cur, h2⟩ := owns_type hr e1.symm
  exact hte (type_eq h h2)
theorem run_eql_func_nil {P : Program} (w : World) {t : TypeId} {ps rs : Array TypeId} {vr : Bool} (f : Fn) (a b : Array Value) (ht : P.underlying t = some (.func ps rs vr)) :
    (binOp .eql t (.func f a b) .nilFunc).run P w = .ok (.bool false) w := by
  have h : ∀ d : Nat, (Op.equalIn (d + 1) t (.func f a b) .nilFunc).run P w = .ok false w := fun d => by
    simp [Op.equalIn, run_underlying ht]
  simp only [binOp]
  simp [Op.equal, Op.maxDepth, h 9999]
/-- the blocks that a slice in a box owns: the box, and its row -/
def foot (Bl : Nat) (v : Value) : Nat → Prop := fun k => k = Bl ∨ v.ownBlock = some k
/-- what a box and its row hold stays where they lie as they lay -/
theorem coll_stay {n0 Bl : Nat} {xs : List Int} {v : Value} {S : Nat → Prop} {W W' : World} (hb : Boxed W Bl 22 v) (hr : W.ownsRow n0 2 1 v xs.length (ivals xs)) (hs : Stay S W W') (hS : ∀ k, foot Bl v k → S k) :
    Boxed W' Bl 22 v ∧ W'.ownsRow n0 2 1 v xs.length (ivals xs) := by
  refine ⟨(hs.block _ hb.lt (hS _ (.inl rfl))).trans hb, hr.1, ?_⟩
  rcases hr.2 with h | ⟨g, cap, cur, rfl, hbg, hgb, r⟩
  · exact .inl h
  · exact .inr ⟨g, cap, cur, rfl, hbg, (hs.block g (Array.getElem?_eq_some_iff.1 hgb).1 (hS _ (.inr rfl))).trans hgb, r⟩
theorem coll_owned {n0 Bl lo : Nat} {xs : List Int} {v : Value} {W : World} (hb : Boxed W Bl 22 v) (hr : W.ownsRow n0 2 1 v xs.length (ivals xs)) (hB : lo ≤ Bl) (hn : lo ≤ n0) {k : Nat} (hk : foot Bl v k) : lo ≤ k ∧ ∃ o : Obj, W.heap[k]? = some o ∧ o.isCells = true := by
  rcases hk with rfl | hk
  · exact ⟨hB, _, hb, rfl⟩
  · rcases hr.2 with ⟨rfl, _⟩ | ⟨g, cap, cur, rfl, hbg, hgb, r⟩
    · cases hk
    · injection hk with hk
      have hk : g = k := hk
      subst hk
      exact ⟨Nat.le_trans hn hbg, _, hgb, rfl⟩
/-- one more is collected -/
theorem coll_push {n0 Bl : Nat} {xs : List Int} {v : Value} {W w1 : World} {x : Int} {g' cap' : Nat} {o : Obj} (hb : Boxed W Bl 22 v) (hr : W.ownsRow n0 2 1 v xs.length (ivals xs))
    (ho : w1.ownsRow n0 2 1 (.slice (some ⟨g', 0, none⟩) (xs.length + 1) cap') (xs.length + 1) (ivals xs ++ [.int .i64 x])) (hg : (W.alloc o).grownBy w1 v.ownBlock) (hf : v.ownBlock = some g' ∨ (W.alloc o).heap.size ≤ g') :
    Boxed w1 Bl 22 v ∧ Boxed (w1.setCell ⟨Bl, 0, none⟩ (.slice (some ⟨g', 0, none⟩) (xs.length + 1) cap')) Bl 22 (.slice (some ⟨g', 0, none⟩) (xs.length + 1) cap') ∧
    (w1.setCell ⟨Bl, 0, none⟩ (.slice (some ⟨g', 0, none⟩) (xs.length + 1) cap')).ownsRow n0 2 1 (.slice (some ⟨g', 0, none⟩) (xs.length + 1) cap') (xs ++ [x]).length (ivals (xs ++ [x])) ∧
    ∀ X : Nat → Prop, Step X (foot Bl v) (foot Bl (.slice (some ⟨g', 0, none⟩) (xs.length + 1) cap')) W (w1.setCell ⟨Bl, 0, none⟩ (.slice (some ⟨g', 0, none⟩) (xs.length + 1) cap')) := by
  have hbv : some Bl ≠ v.ownBlock := hb.not_row (by decide) hr
  have hb1 : Boxed w1 Bl 22 v := (hb.alloc o).kept hg hbv
  have hne : g' ≠ Bl := by
    rintro rfl
    have := hb1.not_row (by decide) ho
    exact this rfl
  have hz : (W.alloc o).heap.size = W.heap.size + 1 := by simp
  refine ⟨hb1, hb1.set _, ?_, fun X => ⟨⟨?_, ?_, ?_, ?_, fun k hk hs => ?_⟩, fun k hk => ?_⟩⟩
  · rw [List.length_append, ivals_snoc]
    exact ho.kept (grownBy_setCell' w1 Bl _) (.inr (fun e => hne (by injection e)))
  · exact hg.os
  · exact hg.tape
  · exact hg.output
  · have := hg.size; simp; omega
  · have hk1 : k ≠ Bl := fun e => hs.1 (.inl e)
    have hk2 : some k ≠ v.ownBlock := fun e => hs.1 (.inr e.symm)
    refine (Below.heap_setCell _ _ _ k hk1).trans ((hg.block k (by omega) hk2).trans (Below.heap_alloc _ _ _ hk))
  · rcases hk with rfl | hk
    · exact .inl (.inl rfl)
    · have hk : g' = k := by injection hk
      subst hk
      rcases hf with h | h
      · exact .inl (.inr h)
      · exact .inr (by omega)

theorem grown_step {w W W' : World} {X Ft Ft' : Nat → Prop} (hg : w.grownBy W none) (hs : Step X Ft Ft' W W') (hF : ∀ k, Ft k → w.heap.size ≤ k) (hX : ∀ k, ¬ X k) : w.grownBy W' none :=
  ⟨hs.stay.os.trans hg.os, hs.stay.tape.trans hg.tape, hs.stay.output.trans hg.output, Nat.le_trans hg.size hs.stay.size,
    fun k hk hr => (hs.stay.block k (Nat.lt_of_lt_of_le hk hg.size) ⟨fun h => by have := hF k h; omega, hX k⟩).trans (hg.block k hk hr)⟩

/-- the slice v reads as the nodes xs; it lies from lo on -/
def NRow (lo : Nat) (w : World) (v : Value) (xs : List Int) : Prop :=
  ∃ A cap, v = .slice A xs.length cap ∧ xs.length ≤ cap ∧ cap ≤ maxLen ∧ (A = none → cap = 0) ∧ (xs = [] ∨ ∃ b off, A = some ⟨b, off, none⟩ ∧ lo ≤ b ∧ (∃ cur, w.heap[b]? = some (.cells cur 2 (0, 0))) ∧ ∀ (i : Nat) (x : Int), xs[i]? = some x → w.cell? ⟨b, off + i, none⟩ = some (.int .i64 x))
section
variable {lo : Nat} {w w' : World} {v : Value} {xs : List Int}
theorem NRow.stay (h : NRow lo w v xs) (hb : ∀ (b : Nat) (cur : Array Value), lo ≤ b → w.heap[b]? = some (.cells cur 2 (0, 0)) → w'.heap[b]? = w.heap[b]?) : NRow lo w' v xs := by
  obtain ⟨A, cap, hv, hl, hc, hz, h⟩ := h
  refine ⟨A, cap, hv, hl, hc, hz, h.imp_right ?_⟩
  rintro ⟨b, off, hA, hlo, ⟨cur, hcur⟩, hx⟩
  have e := hb b cur hlo hcur
  exact ⟨b, off, hA, hlo, ⟨cur, e.trans hcur⟩, fun i x hi => (World.cell?_of_block (a := ⟨b, off + i, none⟩) e).trans (hx i x hi)⟩
theorem NRow.kept (h : NRow lo w v xs) (hg : w.grownBy w' none) : NRow lo w' v xs :=
  h.stay fun b cur _ hb => hg.block b (Array.getElem?_eq_some_iff.1 hb).1 (by simp)
theorem NRow.lower (h : NRow lo w v xs) {lo' : Nat} (hl : lo' ≤ lo) : NRow lo' w v xs := by
  obtain ⟨A, cap, hv, hl', hc, hz, h⟩ := h
  refine ⟨A, cap, hv, hl', hc, hz, h.imp_right ?_⟩
  rintro ⟨b, off, hA, hlo, r⟩
  exact ⟨b, off, hA, Nat.le_trans hl hlo, r⟩
theorem NRow.of_owns {n : Nat} (h : w.ownsRow lo 2 1 v n (ivals xs)) (hn : n = xs.length) : NRow lo w v xs := by
  subst hn
  rcases h.2 with ⟨rfl, h0⟩ | ⟨g, cap, cur, rfl, hb, hg, h1, h2, h3, h4⟩
  · exact ⟨none, 0, by rw [h0], by omega, by decide, fun _ => rfl, .inl (List.eq_nil_of_length_eq_zero h0)⟩
  · refine ⟨_, cap, rfl, h1, h2, (fun h => by cases h), .inr ⟨g, 0, rfl, hb, ⟨cur, hg⟩, fun i x hi => ?_⟩⟩
    have hl : i < xs.length := (List.getElem?_eq_some_iff.1 hi).1
    rw [Nat.zero_add, h.cellAt i (by omega)]
    unfold ivals
    rw [List.getElem?_map, hi]; rfl
end
theorem ne_of_at {zs ys : List Int} {k : Nat} {x y : Int} (hz : zs[k]? = some x) (hy : ys[k]? = some y) (he : x ≠ y) : zs ≠ ys := by
  rintro rfl; rw [hz] at hy; exact he (Option.some.inj hy)
theorem eq_of_takes {zs ys : List Int} {k : Nat} {x : Int} (h : zs.take k = ys.take k) (hz : zs[k]? = some x) (hy : ys[k]? = some x) : zs.take (k + 1) = ys.take (k + 1) := by
  rw [take_snoc hz, take_snoc hy, h]
set_option maxHeartbeats 1000000 in
theorem same_at (v u : Value) (xs ys : List Int) (w : World) {la lb : Nat} (ha : NRow la w v xs) (hb : NRow lb w u ys) (hz : xs.length ≤ 1000000) (hy : ys.length ≤ 1000000) :
    Calls Try.prog 14 #[v, u] w fun e w' => e = .returned (.bool (decide (xs = ys))) ∧ ∃ q, w' = w.drewN q := by
  obtain ⟨A, ca, rfl, _, _, _, ha⟩ := ha
  obtain ⟨B, cb, rfl, _, _, _, hb⟩ := hb
  have Ha := Lib.hid ha
  have Hb := Lib.hid hb
  clear ha hb
  by_cases hlen : xs.length = ys.length
  · obtain ⟨n, Hn⟩ : ∃ n, Hid (xs.length = n) := ⟨_, Lib.hid rfl⟩
    have Hn2 : Hid (ys.length = n) := Lib.hid (by rw [← hlen, Hn.out])
    rw [Hn.out, Hn2.out]
    have hn : n ≤ 1000000 := by rw [← Hn.out]; exact hz
    clear hz hy hlen
    go_enter Try.func14, Try.ntmps14
    go_wp2
    go_loopw [5] (fun k wr => ∃ k' q : Nat, k' ≤ n ∧ k = .int .i64 (k' : Int) ∧ wr = w.drewN q ∧ Hid (xs.take k' = ys.take k')) (fun k _ => n - (intOf k).toNat)
    case atStart => exact ⟨0, 0, by omega, by go_num, rfl, Lib.hid rfl⟩
    case round =>
      obtain ⟨k, q, hk, rfl, rfl, HE⟩ := hrel
      by_cases hlt : k < n
      · have hx0 : ¬ xs = [] := by intro e; have := Hn.out; rw [e] at this; simp at this; omega
        have hy0 : ¬ ys = [] := by intro e; have := Hn2.out; rw [e] at this; simp at this; omega
        obtain ⟨b1, o1, rfl, _, _, hc1⟩ := Ha.out.resolve_left hx0
        obtain ⟨b2, o2, rfl, _, _, hc2⟩ := Hb.out.resolve_left hy0
        obtain ⟨x, Hx⟩ : ∃ x, Hid (xs[k]? = some x) := ⟨_, Lib.hid (List.getElem?_eq_getElem (by rw [Hn.out]; exact hlt))⟩
        obtain ⟨y, Hy⟩ : ∃ y, Hid (ys[k]? = some y) := ⟨_, Lib.hid (List.getElem?_eq_getElem (by rw [Hn2.out]; exact hlt))⟩
        have hcell1 := hc1 k x Hx.out
        have hcell2 := hc2 k y Hy.out
        have hkI : (k : Int) < (n : Int) := by omega
        clear hc1 hc2 hx0 hy0
        by_cases hzy : x = y
        · subst hzy
          have HT := Lib.hid (eq_of_takes HE.out Hx.out Hy.out)
          go_wp2
          go_quiet (fail)
          go_wp2
          go_roundw
          case rel => exact ⟨k + 1, _, by omega, by go_num, rfl, HT⟩
          case measure => simp [intOf]; omega
        · have HF : Hid (decide (xs = ys) = false) := Lib.hid (decide_eq_false (ne_of_at Hx.out Hy.out hzy))
          have hne : (x != y) = true := by simp [hzy]
          go_wp2
          go_quiet (fail)
          go_wp2
          go_ret
          rw [HF.out]
          exact ⟨rfl, q + nq, by rw [World.drewN_drewN]⟩
      · have HF : Hid (decide (xs = ys) = true) := Lib.hid (decide_eq_true (by
          have := HE.out
          rwa [List.take_of_length_le (by rw [Hn.out]; omega), List.take_of_length_le (by rw [Hn2.out]; omega)] at this))
        go_wp2
        go_ret
        rw [HF.out]
        exact ⟨rfl, _, rfl⟩
  · have HF : Hid (decide (xs = ys) = false) := Lib.hid (decide_eq_false (fun e => hlen (by rw [e])))
    have hne : ((xs.length : Int) != (ys.length : Int)) = true := by simp; omega
    have hne2 : (xs.length != ys.length) = true := by simp [hlen]
    go_enter Try.func14, Try.ntmps14
    go_wp2
    go_ret
    rw [HF.out]
    exact ⟨rfl, 0, rfl⟩


end Go.Proofs.Ytcphbendmnmpiaa
