/-
  All: the numbers of a set, one by one, as they were when the going through began.
-/
import Derived.Test.YtjdapbianbikpaaDoorPlaces
import Derived.Test.YtjdapbianbikpaaDoorCopy2
namespace Go.Proofs.YtjdapbianbikpaaDoor
open Go.RowKit Go.Shelf
set_option linter.unusedVariables false
attribute [local go_sem] Oper.semAt_some

theorem all_any (p : Option Addr) (w : World) : Calls Tryd.prog 20 #[.pointer p] w fun e w' => e = .returned (.func (.func 32) #[] #[.pointer (some ⟨w.heap.size, 0, none⟩)]) ∧ w' = w.alloc (.cells #[.pointer p] 23) := by
  go_enter Tryd.func20, Tryd.ntmps20
  go_wp2
  go_ret
  exact ⟨rfl, rfl⟩

theorem round_in {m m' l2 : Nat} {P : Program} {l : Nat} {f : FuncId} {tmps : Array Value} {assign body : Code} {w : World} {R : Ending → World → Prop}
    (h : RoundIn WF m P l f tmps assign body w R) : RoundIn (WF.inRound l2) m' P l f tmps assign body w R := ⟨h.1, fun c cs _ => h.2 c cs (fun d hd => by simp [Fence.wide] at hd)⟩
/-- a mark for a loop's deferred calls -/
def mk (D : Nat) : Deferred := { target := .collected D, args := #[] }
/-- a function leaves with nothing but such marks, each of a block that bears no call -/
theorem leaves_marks {F : Fence} {n : Nat} {P : Program} {fn : Func} {tmps : Array Value} {R : Ending → World → Prop} : ∀ (L : List Nat) (w : World), L.Nodup → (∀ D ∈ L, w.heap[D]? = some (.deferred (some []))) →
    (∀ w', Stay (fun k => k ∉ L) w w' → LeavesIn F n P fn tmps R [] .returning w') → LeavesInM F n P fn tmps R (L.map mk) .returning w
  | [], w, _, _, h => h w (Stay.refl _ _)
  | D :: L, w, hnd, hD, h => by
    rw [List.nodup_cons] at hnd
    refine ⟨by simp, .inl ⟨D, _, rfl, run_takeDeferred (hD D (by simp)), ?_⟩⟩
    refine leaves_marks L _ hnd.2 (fun E hE => ?_) fun w' hw' => h w' ?_
    · refine (World.putObj_heap_other (fun e => hnd.1 (by rw [← e]; exact hE))).trans (hD E (by simp [hE]))
    · refine Stay.trans (Stay.putObj _ w D _ (by simp)) (hw'.weaken fun k _ hk => ?_)
      exact fun hkL => hk (by simp [hkL])

set_option maxRecDepth 100000 in
set_option maxHeartbeats 1000000 in
theorem all_seq_nil (lo Bn : Nat) (w : World) (hc : w.cell? ⟨Bn, 0, none⟩ = some (.pointer none)) :
    Seq Tryd.prog lo 32 #[.pointer (some ⟨Bn, 0, none⟩)] (fun i : Nat => #[.int .i64 (i : Int)]) (fun ys => ys = []) (fun pre => pre <+: []) 65536 w := by
  intro n l X J Jx W F0 hgw hloW hX fJ fJx oJ oJx hY h0 hF0
  have hcW := hgw.cell hc (by simp)
  have hBn : Bn < W.heap.size := World.block_lt_of_cell? W _ hcW
  have HJ : Hid (J [] F0 (W.alloc (.cells #[.func (.yield l) #[] #[]] 30))) := Lib.hid (fJ _ _ _ _ h0 (Stay.of_grown (World.grownBy_alloc _ _ none) (by simp)))
  clear hY h0 fJ fJx oJ oJx hc
  have hF : ∀ k, WF.fn k := fun _ => trivial
  have hDp : WF.depth.isSome = false := rfl
  refine callsIn_of_wp Tryd.func32 rfl trivial ?_ rfl
  simp only [Tryd.ntmps32, List.size_toArray, List.length_cons, List.length_nil, Nat.reduceAdd, Nat.reduceSub, Array.replicate_succ, Array.replicate_zero, List.push_toArray, List.append_toArray, List.nil_append, List.cons_append]
  gi_wp2_with (gi_at_call 10; refine (callsIn_wide.2 (copy_nil _)).mono ?_; rintro e w' ⟨rfl, rfl⟩)
  refine bodyPost_ret (results_none rfl _ _ _) rfl ?_
  exact ⟨⟨_, rfl⟩, .inl ⟨_, F0, rfl, HJ.out⟩⟩

/-- what the iterator keeps for itself: its copy of the set, the box of yield -/
structure Priv (l By b2 g2 cap N : Nat) (ws : List Nat) (Ft : Nat → Prop) (wr : World) : Prop where
  set : SetAt wr b2 g2 cap N ws
  yb : wr.cell? ⟨By, 0, none⟩ = some (.func (.yield l) #[] #[])
  tab : Tab wr
  nY : ¬ Ft By
  nb : ¬ Ft b2
  ng : ¬ Ft g2
  n0 : ¬ Ft 0
theorem Priv.stay {l By b2 g2 cap N : Nat} {ws : List Nat} {Ft : Nat → Prop} {wr wr' : World} (h : Priv l By b2 g2 cap N ws Ft wr) {S : Nat → Prop} (hs : Stay S wr wr') (sY : S By) (sb : S b2) (sg : S g2) (s0 : S 0) : Priv l By b2 g2 cap N ws Ft wr' :=
  ⟨h.set.of_same hs.size (hs.block _ h.set.blt sb) (hs.block _ h.set.glt sg), (World.cell?_of_block (a := ⟨By, 0, none⟩) (hs.block _ (World.block_lt_of_cell? wr _ h.yb) sY)).trans h.yb, h.tab.stay hs s0, h.nY, h.nb, h.ng, h.n0⟩
theorem Priv.step {l By b2 g2 cap N : Nat} {ws : List Nat} {Ft Ft' : Nat → Prop} {wr wr' : World} (h : Priv l By b2 g2 cap N ws Ft wr) {X : Nat → Prop} (hs : Step X Ft Ft' wr wr') (sY : ¬ X By) (sb : ¬ X b2) (sg : ¬ X g2) (s0 : ¬ X 0) : Priv l By b2 g2 cap N ws Ft' wr' := by
  have h1 := h.stay hs.stay (by exact ⟨h.nY, sY⟩) (by exact ⟨h.nb, sb⟩) (by exact ⟨h.ng, sg⟩) (by exact ⟨h.n0, s0⟩)
  have hY := World.block_lt_of_cell? wr _ h.yb
  have h0 := World.block_lt_of_cell? wr _ (h.tab 0 (by decide))
  have hb := h.set.blt
  have hg := h.set.glt
  dsimp only at hY h0
  refine ⟨h1.set, h1.yb, h1.tab, fun e => ?_, fun e => ?_, fun e => ?_, fun e => ?_⟩
  · rcases hs.foot _ e with e | e
    · exact h.nY e
    · omega
  · rcases hs.foot _ e with e | e
    · exact h.nb e
    · omega
  · rcases hs.foot _ e with e | e
    · exact h.ng e
    · omega
  · rcases hs.foot _ e with e | e
    · exact h.n0 e
    · omega
theorem Priv.alloc {l By b2 g2 cap N : Nat} {ws : List Nat} {Ft : Nat → Prop} {wr : World} (h : Priv l By b2 g2 cap N ws Ft wr) (o : Obj) : Priv l By b2 g2 cap N ws Ft (wr.alloc o) :=
  h.stay (S := fun _ => True) (Stay.of_grown (World.grownBy_alloc _ _ none) (by simp)) trivial trivial trivial trivial
theorem els_words (ws : List Nat) (a : Nat) : els (mem ws) (64 * (a + 1)) = els (mem ws) (64 * a) ++ (els (wd ws a).testBit 64).map (64 * a + ·) := by
  unfold els
  rw [show 64 * (a + 1) = 64 * a + 64 by omega, List.range_add, List.filter_append, List.filter_map]
  congr 2
  refine List.filter_congr fun i hi => ?_
  have hi' : i < 64 := by simpa using hi
  exact mem_at ws a i hi'
theorem els_prefix (m : Nat → Bool) {a b : Nat} (h : a ≤ b) : els m a <+: els m b := by
  obtain ⟨d, rfl⟩ := Nat.exists_eq_add_of_le h
  unfold els
  rw [List.range_add, List.filter_append]
  exact List.prefix_append _ _
theorem els_past {m : Nat → Bool} {n N : Nat} (ho : ∀ i, n ≤ i → m i = false) (h : n ≤ N) : els m N = els m n := by
  obtain ⟨d, rfl⟩ := Nat.exists_eq_add_of_le h
  unfold els
  have e : ((List.range d).map (n + ·)).filter m = [] := by
    rw [List.filter_eq_nil_iff]
    intro i hi
    obtain ⟨j, _, rfl⟩ := List.mem_map.1 hi
    simp [ho (n + j) (by omega)]
  rw [List.range_add, List.filter_append, e, List.append_nil]

set_option maxRecDepth 100000 in
set_option maxHeartbeats 1000000 in
theorem all_seq (lo Bn b g N : Nat) (m : Nat → Bool) (w : World) (hlo : 0 < lo) (hc : w.cell? ⟨Bn, 0, none⟩ = some (.pointer (some ⟨b, 0, none⟩))) (hs : IsSet w b g N m) (ht : Tab w) :
    Seq Tryd.prog lo 32 #[.pointer (some ⟨Bn, 0, none⟩)] (fun i : Nat => #[.int .i64 (i : Int)]) (fun ys => ys = els m N) (fun pre => pre <+: els m N) 65536 w := by
  intro n l X J Jx W F0 hgw hloW hX fJ fJx oJ oJx hY h0 hF0
  have hcW := hgw.cell hc (by simp)
  have hBn : Bn < W.heap.size := World.block_lt_of_cell? W _ hcW
  have hF : ∀ k, WF.fn k := fun _ => trivial
  have hDp : WF.depth.isSome = false := rfl
  have HY := Lib.hid hY
  have HF := Lib.hid fJ
  have HFx := Lib.hid fJx
  have HO := Lib.hid oJ
  have HOx := Lib.hid oJx
  have HT := Lib.hid (ht.kept hgw (by simp))
  have HS := Lib.hid ((hs.kept hgw (by simp) (by simp)).kept (World.grownBy_alloc W (.cells #[.func (.yield l) #[] #[]] 30) none) (by simp) (by simp))
  have H0 := Lib.hid h0
  have HF0 := Lib.hid hF0
  have HX := Lib.hid hX
  clear hY fJ fJx oJ oJx ht hs h0 hF0 hc hgw hX
  refine callsIn_of_wp_marks Tryd.func32 rfl trivial ?_ rfl
  simp only [Tryd.ntmps32, List.size_toArray, List.length_cons, List.length_nil, Nat.reduceAdd, Nat.reduceSub, Array.replicate_succ, Array.replicate_zero, List.push_toArray, List.append_toArray, List.nil_append, List.cons_append]
  gi_wp2_with (gi_at_call 10; refine (callsIn_wide.2 (copy_at _ b g N m HS.out)).mono ?_; rintro e wc ⟨b2, g2, rfl, hg1, hgg, hgb, hs2⟩; obtain ⟨cap, ws, hs3, hm⟩ := hs2; have HG1 := Lib.hid hg1; have HS3 := Lib.hid hs3; have HM := Lib.hid hm; have hrow := hs3.row; clear hg1 hs3 hm)
  have hgg' : W.heap.size < g2 := by simp at hgg; omega
  have hgb' : W.heap.size < b2 := by simp at hgb; omega
  have HP : Hid (Priv l W.heap.size b2 g2 cap N ws F0 wc) := Lib.hid (by
    have h1 := HG1.out
    have hz : (W.alloc (.cells #[.func (.yield l) #[] #[]] 30)).heap.size = W.heap.size + 1 := by simp
    refine ⟨HS3.out, ?_, (HT.out.kept (World.grownBy_alloc W _ none) (by simp)).kept h1 (by simp), fun e => ?_, fun e => ?_, fun e => ?_, fun e => ?_⟩
    · exact h1.cell (a := ⟨W.heap.size, 0, none⟩) (Boxed.new W 30 _).cell (by simp)
    · have := HF0.out _ e; omega
    · have := HF0.out _ e; omega
    · have := HF0.out _ e; omega
    · have := (HO.out _ _ _ _ H0.out e).1; omega)
  have HJ : Hid (J [] F0 wc) := Lib.hid (HF.out _ _ _ _ H0.out ((Stay.of_grown (World.grownBy_alloc W _ none) (by simp)).trans (Stay.of_grown HG1.out (by simp))))
  obtain ⟨len, Hlen⟩ : ∃ len, Hid (ws.length = len) := ⟨_, Lib.hid rfl⟩
  have hlen := HS3.out.len
  have hle := HS3.out.le
  rw [Hlen.out] at hlen hrow ⊢
  have hl3 : len ≤ 1024 := by omega
  have Hl2 : Hid (len = (N + 63) / 64) := Lib.hid hlen
  have hzc : W.heap.size < wc.heap.size := by have := HG1.out.size; simp at this; omega
  clear hlen HG1 HS3 HS H0 HF0 hgg hgb HT
  refine wpIn_loop (fun a wr => ∃ (k : Nat) (Ft : Nat → Prop) (L : List Nat) (u4 u5 u6 u17 u18 u19 u20 u21 u22 u23 u24 u25 u26 u27 u28 u29 u30 u31 : Value), a = { tmps := #[.func (.yield l) #[] #[], .pointer (some ⟨Bn, 0, none⟩), .pointer (some ⟨W.heap.size, 0, none⟩), .pointer (some ⟨b2, 0, none⟩), u4, u5, u6, .pointer (some ⟨b, 0, none⟩), .pointer (some ⟨b2, 0, none⟩), .pointer (some ⟨b2, 0, none⟩), .bool false, .pointer (some ⟨b2, 0, none⟩), .pointer (some ⟨b2, 0, none⟩), .pointer (some ⟨b2, 1, none⟩), .slice (some ⟨g2, 0, none⟩) len cap, .int .i64 (len : Int), .int .i64 (k : Int), u17, u18, u19, u20, u21, u22, u23, u24, u25, u26, u27, u28, u29, u30, u31], defers := L.map mk } ∧ k ≤ len ∧ Hid (J (els (mem ws) (64 * k)) Ft wr) ∧ Hid (Priv l W.heap.size b2 g2 cap N ws Ft wr) ∧ Hid (L.Nodup ∧ ∀ D ∈ L, W.heap.size ≤ D ∧ wr.heap[D]? = some (.deferred (some []))))
    (fun a _ => len - (intOf (a.tmps.getD 16 undef)).toNat) ?atStart ?round
  case atStart => exact ⟨0, F0, [], _, _, _, _, _, _, _, _, _, _, _, _, _, _, _, _, _, _, rfl, Nat.zero_le _, HJ, HP, Lib.hid ⟨List.nodup_nil, by simp⟩⟩
  case round =>
    rintro _ wr ⟨k, Ft, L, u4, u5, u6, u17, u18, u19, u20, u21, u22, u23, u24, u25, u26, u27, u28, u29, u30, u31, rfl, hk, HJk, HPk, HLk⟩
    clear HJ HP
    by_cases hlt : k < len
    · have hcell := HPk.out.set.cell k (by rw [Hlen.out]; exact hlt)
      have hx := HPk.out.set.word k
      gi_wp2_with (gi_at_call 33; refine (callsIn_wide.2 (places_any _ _)).mono ?_; rintro e w' ⟨rfl, rfl⟩)
      -- the world where the inner loop begins
      have hzw : W.heap.size < wr.heap.size := by have := World.block_lt_of_cell? wr _ HPk.out.yb; exact this
      have bAt := (Boxed.new wr 3 (.int .i64 (k : Int))).alloc (.cells #[.int .u64 ((wd ws k : Nat) : Int)] 51)
      have bP := (Boxed.new (wr.alloc (.cells #[.int .i64 (k : Int)] 3)) 51 (.int .u64 ((wd ws k : Nat) : Int))).cell
      have HPx := Lib.hid ((HPk.out.alloc (.cells #[.int .i64 (k : Int)] 3)).alloc (.cells #[.int .u64 ((wd ws k : Nat) : Int)] 51))
      have hgx : wr.grownBy ((wr.alloc (.cells #[.int .i64 (k : Int)] 3)).alloc (.cells #[.int .u64 ((wd ws k : Nat) : Int)] 51)) none := grown_trans (World.grownBy_alloc _ _ none) (World.grownBy_alloc _ _ none)
      have hzx : ((wr.alloc (.cells #[.int .i64 (k : Int)] 3)).alloc (.cells #[.int .u64 ((wd ws k : Nat) : Int)] 51)).heap.size = wr.heap.size + 2 := by simp
      rw [World.size_alloc] at bP
      generalize (wr.alloc (.cells #[.int .i64 (k : Int)] 3)).alloc (.cells #[.int .u64 ((wd ws k : Nat) : Int)] 51) = wx at *
      have HJx := Lib.hid (HF.out _ _ _ _ HJk.out (Stay.of_grown hgx (by simp)))
      have hFtw : ∀ j, Ft j → j < wr.heap.size := fun j hj => by
        obtain ⟨_, o, ho, _⟩ := HO.out _ _ _ _ HJk.out hj
        exact (Array.getElem?_eq_some_iff.1 ho).1
      have hLx : ∀ D ∈ L, D < wr.heap.size ∧ wx.heap[D]? = some (.deferred (some [])) := fun D hD => by
        have h1 := (HLk.out.2 D hD).2
        have h2 := (Array.getElem?_eq_some_iff.1 h1).1
        exact ⟨h2, (hgx.block D h2 (by simp)).trans h1⟩
      have hXB : ∀ j, X j → lo ≤ j ∧ j < wx.heap.size := fun j hj => by have := HX.out j hj; omega
      have hXn : ∀ j, W.heap.size ≤ j → ¬ X j := fun j hj h => by have := HX.out j h; omega
      have hX0 : ¬ X 0 := fun h => by have := HX.out 0 h; omega
      have HLx := Lib.hid hLx
      have HFtw := Lib.hid hFtw
      have HXB := Lib.hid hXB
      have HXn := Lib.hid hXn
      have HX0 := Lib.hid hX0
      have HbAt := Lib.hid bAt
      have HbP := Lib.hid bP
      have Hhx := Lib.hid hx
      have Hgx := Lib.hid hgx
      clear hLx hFtw hXB hXn hX0 bAt bP hgx hx
      refine range_own (P := Tryd.prog) (α := Fin 64) (gf := 34) (lb := #[.pointer (some ⟨wr.heap.size + 1, 0, none⟩)]) rfl (enters_of Tryd.func34 (by kernel_rfl) rfl)
        (places_seq lo (wr.heap.size + 1) (wd ws k) wx hlo Hhx.out HbP.out HPx.out.tab) (World.grownBy.refl _ _) (by have := hzx; omega) (fun _ => rfl) X HXB.out
        (fun pre Ft' W' => J (els (mem ws) (64 * k) ++ pre.map fun p : Fin 64 => 64 * k + p.val) Ft' W' ∧ Priv l W.heap.size b2 g2 cap N ws Ft' W' ∧ Boxed W' wr.heap.size 3 (.int .i64 (k : Int)) ∧ ¬ Ft' wr.heap.size ∧ ∀ D ∈ L, W'.heap[D]? = some (.deferred (some [])))
        (fun c pre Ft' W' => c = .ret ∧ Jx (els (mem ws) (64 * k) ++ pre.map fun p : Fin 64 => 64 * k + p.val) Ft' W' ∧ ∀ D ∈ L, W'.heap[D]? = some (.deferred (some [])))
        ?_ ?_ ?_ ?_ Ft ⟨by simpa using HJx.out, HPx.out, HbAt.out, fun h => by have := HFtw.out _ h; omega, fun D hD => (HLx.out D hD).2⟩ (fun j hj => by have := HFtw.out j hj; omega)
        (fun p => { tmps := #[.func (.yield l) #[] #[], .pointer (some ⟨Bn, 0, none⟩), .pointer (some ⟨W.heap.size, 0, none⟩), .pointer (some ⟨b2, 0, none⟩), .pointer (some ⟨wr.heap.size, 0, none⟩), .int .u64 ((wd ws k : Nat) : Int), .int .i64 ((p : Nat) : Int), .pointer (some ⟨b, 0, none⟩), .pointer (some ⟨b2, 0, none⟩), .pointer (some ⟨b2, 0, none⟩), .bool false, .pointer (some ⟨b2, 0, none⟩), .pointer (some ⟨b2, 0, none⟩), .pointer (some ⟨b2, 1, none⟩), .slice (some ⟨g2, 0, none⟩) len cap, .int .i64 (len : Int), .int .i64 (k : Int), .bool true, .int .i64 (k : Int), .pointer (some ⟨g2, k, none⟩), .int .u64 ((wd ws k : Nat) : Int), .int .u64 ((wd ws k : Nat) : Int), .func (.func 34) #[] #[.pointer (some ⟨wr.heap.size + 1, 0, none⟩)], .int .i64 ((p : Nat) : Int), u24, u25, u26, u27, u28, u29, u30, u31], defers := [] })
        ?assign ?body ?done ?stop
      · -- it abides
        rintro pre Ft' W2 W3 ⟨hJ, hP, hB, hn, hM⟩ hst
        have hz2 : W.heap.size < wx.heap.size := by omega
        refine ⟨HF.out.mono (Nat.le_of_lt hz2) _ _ _ _ hJ hst, hP.stay hst (.inl hz2) (.inl ?_) (.inl ?_) (.inl (by omega)), ?_, hn, fun D hD => ?_⟩
        · have := HPx.out.set.blt; exact this
        · have := HPx.out.set.glt; exact this
        · exact (hst.block _ hB.lt (.inl (by omega))).trans hB
        · have h1 := hM D hD
          have h2 := (HLx.out D hD).1
          exact (hst.block _ (Array.getElem?_eq_some_iff.1 h1).1 (.inl (by omega))).trans h1
      · rintro c pre Ft' W2 W3 ⟨hc, hJ, hM⟩ hst
        refine ⟨hc, HFx.out.mono (show W.heap.size ≤ wx.heap.size by omega) _ _ _ _ hJ hst, fun D hD => ?_⟩
        have h1 := hM D hD
        have h2 := (HLx.out D hD).1
        exact (hst.block _ (Array.getElem?_eq_some_iff.1 h1).1 (.inl (by omega))).trans h1
      · rintro pre Ft' W2 j ⟨hJ, _⟩ hj; exact HO.out _ _ _ _ hJ hj
      · rintro c pre Ft' W2 j ⟨_, hJ, _⟩ hj; exact HOx.out _ _ _ _ hJ hj
      case assign =>
        intro l2 m2 p W2 K hK
        gi_wp2
        exact hK
      case body =>
        rintro l2 m2 pre p Ft' W2 ⟨hJ, hP, hB, hn, hM⟩ hlen2
        have hyb := hP.yb
        have hcB := hB.cell
        obtain ⟨fn, tmps, assign, body, hy, hR⟩ := HY.out 0 _ (64 * k + p.val) Ft' W2 hJ (by
          rw [List.length_append, List.length_map, els_length]
          have := cn_le (mem ws) (64 * k)
          omega)
        rw [show (((64 * k + p.val : Nat)) : Int) = (k : Int) * 64 + ((p : Nat) : Int) by omega] at hy
        have HR := Lib.hid hR
        have HP2 := Lib.hid hP
        have HB2 := Lib.hid hB
        have Hn2 := Lib.hid hn
        have HM2 := Lib.hid hM
        have HJ2 := Lib.hid hJ
        have hp64 := p.isLt
        clear hR hP hB hn hM hJ
        gi_wp2
        refine (round_in HR.out).mono ?_
        have hkeep : ∀ (Ft3 : Nat → Prop) (W3 : World), Step X Ft' Ft3 W2 W3 → ∀ D ∈ L, W3.heap[D]? = some (.deferred (some [])) := by
          intro Ft3 W3 hst D hD
          have h1 := HM2.out D hD
          refine (hst.stay.block _ (Array.getElem?_eq_some_iff.1 h1).1 ⟨fun h => ?_, HXn.out _ (HLk.out.2 D hD).1⟩).trans h1
          obtain ⟨_, o, ho, hco⟩ := HO.out _ _ _ _ HJ2.out h
          rw [h1] at ho; cases ho; cases hco
        have HK := Lib.hid hkeep
        clear hkeep
        have hmap : els (mem ws) (64 * k) ++ (pre ++ [p]).map (fun p : Fin 64 => 64 * k + p.val) = els (mem ws) (64 * k) ++ pre.map (fun p : Fin 64 => 64 * k + p.val) ++ [64 * k + p.val] := by simp
        have Hmap := Lib.hid hmap
        clear hmap
        rintro e W3 (⟨rfl, Ft3, hJ3, hst⟩ | ⟨rfl, Ft3, hx3, hst⟩)
        · have HJ3 := Lib.hid hJ3
          have Hst := Lib.hid hst
          clear hJ3 hst hy
          gi_wp2
          refine ⟨Ft3, ⟨by rw [Hmap.out]; exact HJ3.out, HP2.out.step Hst.out (HXn.out _ (Nat.le_refl _)) (HXn.out _ (by omega)) (HXn.out _ (by omega)) HX0.out, ?_, fun h => ?_, HK.out Ft3 W3 Hst.out⟩, Hst.out⟩
          · exact (Hst.out.stay.block _ HB2.out.lt ⟨Hn2.out, HXn.out _ (by omega)⟩).trans HB2.out
          · rcases Hst.out.foot _ h with h | h
            · exact Hn2.out h
            · have := HB2.out.lt; omega
        · have HX3 := Lib.hid hx3
          have Hst := Lib.hid hst
          clear hx3 hst hy
          gi_wp2
          exact ⟨Ft3, ⟨rfl, by rw [Hmap.out]; exact HX3.out, HK.out Ft3 W3 Hst.out⟩, Hst.out⟩
      case done =>
        rintro xs Ft3 W3 rfl ⟨hJ, hP, hB, hn, hM⟩ hD
        have hJ' : J (els (mem ws) (64 * (k + 1))) Ft3 W3 := by
          rw [els_words]
          have e : (toF (els (wd ws k).testBit 64)).map (fun p : Fin 64 => 64 * k + p.val) = (els (wd ws k).testBit 64).map (64 * k + ·) := by
            conv => rhs; rw [← toF_val (l := els (wd ws k).testBit 64) (fun i hi => (els_mem.1 hi).1)]
            rw [List.map_map]; rfl
          rw [← e]; exact hJ
        have HJ3 := Lib.hid hJ'
        have HP3 := Lib.hid hP
        have HL3 : Hid ((wx.heap.size :: L).Nodup ∧ ∀ D ∈ wx.heap.size :: L, W.heap.size ≤ D ∧ W3.heap[D]? = some (.deferred (some []))) := Lib.hid (by
          refine ⟨List.nodup_cons.2 ⟨fun h => ?_, HLk.out.1⟩, fun D hD' => ?_⟩
          · have := (HLx.out _ h).1; omega
          · rcases List.mem_cons.1 hD' with rfl | hD'
            · exact ⟨by omega, hD⟩
            · exact ⟨(HLk.out.2 D hD').1, hM D hD'⟩)
        clear hJ hP hB hn hM hD hJ'
        gi_wp2
        refine ⟨⟨k + 1, Ft3, wx.heap.size :: L, _, _, _, _, _, _, _, _, _, _, _, _, _, _, _, _, _, _, rfl, by omega, HJ3, HP3, HL3⟩, ?_⟩
        simp [intOf]; omega
      case stop =>
        rintro c pre Ft3 W3 hpre ⟨rfl, hJ, hM⟩ hD
        have HJ3 := Lib.hid hJ
        have HM3 := Lib.hid hM
        have HD3 := Lib.hid hD
        clear hJ hM hD
        gi_wp2
        refine leaves_marks (wx.heap.size :: L) W3 (List.nodup_cons.2 ⟨fun h => ?_, HLk.out.1⟩) (fun D hD' => ?_) fun w' hst => ?_
        · have := (HLx.out _ h).1; omega
        · rcases List.mem_cons.1 hD' with rfl | hD'
          · exact HD3.out
          · exact HM3.out D hD'
        · refine ⟨_, results_none rfl _ _ _, ⟨_, rfl⟩, .inr ⟨_, Ft3, ?_, HFx.out _ _ _ _ HJ3.out (hst.weaken fun j _ hj hjm => ?_)⟩⟩
          · have e : (toF (els (wd ws k).testBit 64)).map (fun p : Fin 64 => 64 * k + p.val) = (els (wd ws k).testBit 64).map (64 * k + ·) := by
              conv => rhs; rw [← toF_val (l := els (wd ws k).testBit 64) (fun i hi => (els_mem.1 hi).1)]
              rw [List.map_map]; rfl
            have e2 : els m N = els (mem ws) (64 * len) := by
              rw [← HM.out]; exact (els_past HPk.out.set.out (by have := Hl2.out; omega)).symm
            rw [e2]
            refine List.IsPrefix.trans ?_ (els_prefix (mem ws) (show 64 * (k + 1) ≤ 64 * len by omega))
            rw [els_words, ← e, List.prefix_append_right_inj]
            exact hpre.map _
          · rcases List.mem_cons.1 hjm with rfl | hjm
            · rcases hj with hj | hj
              · omega
              · obtain ⟨_, o, ho, hco⟩ := HOx.out _ _ _ _ HJ3.out hj
                rw [HD3.out] at ho; cases ho; cases hco
            · rcases hj with hj | hj
              · have := (HLk.out.2 _ hjm).1; omega
              · obtain ⟨_, o, ho, hco⟩ := HOx.out _ _ _ _ HJ3.out hj
                rw [HM3.out _ hjm] at ho; cases ho; cases hco
    · obtain rfl : k = len := by omega
      gi_wp2
      refine leaves_marks L wr HLk.out.1 (fun D hD' => (HLk.out.2 D hD').2) fun w' hst => ?_
      refine ⟨_, results_none rfl _ _ _, ⟨_, rfl⟩, .inl ⟨_, Ft, rfl, ?_⟩⟩
      have e : els m N = els (mem ws) (64 * k) := by
        rw [← HM.out]; exact (els_past HPk.out.set.out (by have := Hl2.out; omega)).symm
      rw [e]
      refine HF.out _ _ _ _ HJk.out (hst.weaken fun j _ hj hjm => ?_)
      rcases hj with hj | hj
      · have := (HLk.out.2 _ hjm).1; omega
      · obtain ⟨_, o, ho, hco⟩ := HO.out _ _ _ _ HJk.out hj
        rw [(HLk.out.2 _ hjm).2] at ho; cases ho; cases hco
end Go.Proofs.YtjdapbianbikpaaDoor
