/-
  From: the nodes around from a hand, as they were when the going through began.
-/
import Derived.Test.YtjligfgaahcogaaAround
namespace Go.Proofs.Ytjligfgaahcogaa
open Go.RowKit Go.Shelf
set_option linter.unusedVariables false
attribute [local go_sem] Oper.semAt_some

/-- nodes as they lie in a slice -/
def nvals (xs : List Nat) : List Value := xs.map fun n : Nat => Value.int .i32 (n : Int)
theorem nvals_snoc (xs : List Nat) (x : Nat) : nvals (xs ++ [x]) = nvals xs ++ [.int .i32 (x : Int)] := by simp [nvals]
theorem nvals_length (xs : List Nat) : (nvals xs).length = xs.length := by simp [nvals]
theorem cell_new1 (w : World) (t : TypeId) (y : Value) : ∀ j u, [y][j]? = some u → (w.alloc (.cells #[y] t)).cell? ((⟨w.heap.size, 0, none⟩ : Addr).add j) = some u := by
  intro j u hj
  rcases j with _ | j
  · injection hj with hj; subst hj
    rw [Go.WideShapes.add_plain]
    exact cell_of_head (heap_alloc_new w _) 0
  · simp at hj
def slen : Value → Nat
  | .slice _ n _ => n
  | _ => 0
theorem grown_row {a b c : World} {row : Option Nat} (h1 : a.grownBy b none) (h2 : b.grownBy c row) (hr : ∀ r, row = some r → a.heap.size ≤ r) : a.grownBy c none :=
  ⟨h2.os.trans h1.os, h2.tape.trans h1.tape, h2.output.trans h1.output, Nat.le_trans h1.size h2.size,
    fun k hk hn => (h2.block k (Nat.lt_of_lt_of_le hk h1.size) (fun e => by have := hr k e.symm; omega)).trans (h1.block k hk hn)⟩

theorem run_eql_func_nil {P : Program} (w : World) {t : TypeId} {ps rs : Array TypeId} {vr : Bool} (f : Fn) (a b : Array Value) (ht : P.underlying t = some (.func ps rs vr)) :
    (binOp .eql t (.func f a b) .nilFunc).run P w = .ok (.bool false) w := by
  have h : ∀ d : Nat, (Op.equalIn (d + 1) t (.func f a b) .nilFunc).run P w = .ok false w := fun d => by
    simp [Op.equalIn, run_underlying ht]
  simp only [binOp]
  simp [Op.equal, Op.maxDepth, h 9999]
/-- the blocks that a slice in a box owns: the box, and its row -/
def foot (Bl : Nat) (v : Value) : Nat → Prop := fun k => k = Bl ∨ v.ownBlock = some k
/-- what a box and its row hold stays where they lie as they lay -/
theorem coll_stay {n0 Bl : Nat} {xs : List Nat} {v : Value} {S : Nat → Prop} {W W' : World} (hb : Boxed W Bl 29 v) (hr : W.ownsRow n0 21 1 v xs.length (nvals xs)) (hs : Stay S W W') (hS : ∀ k, foot Bl v k → S k) :
    Boxed W' Bl 29 v ∧ W'.ownsRow n0 21 1 v xs.length (nvals xs) := by
  refine ⟨(hs.block _ hb.lt (hS _ (.inl rfl))).trans hb, hr.1, ?_⟩
  rcases hr.2 with h | ⟨g, cap, cur, rfl, hbg, hgb, r⟩
  · exact .inl h
  · exact .inr ⟨g, cap, cur, rfl, hbg, (hs.block g (Array.getElem?_eq_some_iff.1 hgb).1 (hS _ (.inr rfl))).trans hgb, r⟩
theorem coll_owned {n0 Bl lo : Nat} {xs : List Nat} {v : Value} {W : World} (hb : Boxed W Bl 29 v) (hr : W.ownsRow n0 21 1 v xs.length (nvals xs)) (hB : lo ≤ Bl) (hn : lo ≤ n0) {k : Nat} (hk : foot Bl v k) : lo ≤ k ∧ ∃ o : Obj, W.heap[k]? = some o ∧ o.isCells = true := by
  rcases hk with rfl | hk
  · exact ⟨hB, _, hb, rfl⟩
  · rcases hr.2 with ⟨rfl, _⟩ | ⟨g, cap, cur, rfl, hbg, hgb, r⟩
    · cases hk
    · injection hk with hk
      have hk : g = k := hk
      subst hk
      exact ⟨Nat.le_trans hn hbg, _, hgb, rfl⟩
/-- one more is collected -/
theorem coll_push {n0 Bl : Nat} {xs : List Nat} {v : Value} {W w1 : World} {x g' cap' : Nat} {o : Obj} (hb : Boxed W Bl 29 v) (hr : W.ownsRow n0 21 1 v xs.length (nvals xs))
    (ho : w1.ownsRow n0 21 1 (.slice (some ⟨g', 0, none⟩) (xs.length + 1) cap') (xs.length + 1) (nvals xs ++ [.int .i32 (x : Int)])) (hg : (W.alloc o).grownBy w1 v.ownBlock) (hf : v.ownBlock = some g' ∨ (W.alloc o).heap.size ≤ g') :
    Boxed w1 Bl 29 v ∧ Boxed (w1.setCell ⟨Bl, 0, none⟩ (.slice (some ⟨g', 0, none⟩) (xs.length + 1) cap')) Bl 29 (.slice (some ⟨g', 0, none⟩) (xs.length + 1) cap') ∧
    (w1.setCell ⟨Bl, 0, none⟩ (.slice (some ⟨g', 0, none⟩) (xs.length + 1) cap')).ownsRow n0 21 1 (.slice (some ⟨g', 0, none⟩) (xs.length + 1) cap') (xs ++ [x]).length (nvals (xs ++ [x])) ∧
    ∀ X : Nat → Prop, Step X (foot Bl v) (foot Bl (.slice (some ⟨g', 0, none⟩) (xs.length + 1) cap')) W (w1.setCell ⟨Bl, 0, none⟩ (.slice (some ⟨g', 0, none⟩) (xs.length + 1) cap')) := by
  have hbv : some Bl ≠ v.ownBlock := hb.not_row (by decide) hr
  have hb1 : Boxed w1 Bl 29 v := (hb.alloc o).kept hg hbv
  have hne : g' ≠ Bl := by
    rintro rfl
    have := hb1.not_row (by decide) ho
    exact this rfl
  have hz : (W.alloc o).heap.size = W.heap.size + 1 := by simp
  refine ⟨hb1, hb1.set _, ?_, fun X => ⟨⟨?_, ?_, ?_, ?_, fun k hk hs => ?_⟩, fun k hk => ?_⟩⟩
  · rw [List.length_append, nvals_snoc]
    exact ho.kept (grownBy_setCell' w1 Bl _) (.inr (fun e => hne (by injection e)))
  · exact hg.os
  · exact hg.tape
  · exact hg.output
  · have := hg.size; simp; omega
  · have hk1 : k ≠ Bl := fun e => hs.1 (.inl e)
    have hk2 : some k ≠ v.ownBlock := fun e => hs.1 (.inr e.symm)
    refine (Below.heap_setCell _ _ _ k hk1).trans ((hg.block k (by omega) hk2).trans (Below.heap_alloc _ _ _ hk))
  · rcases hk with rfl | hk
    · exact .inl (.inl rfl)
    · have hk : g' = k := by injection hk
      subst hk
      rcases hf with h | h
      · exact .inl (.inr h)
      · exact .inr (by omega)

theorem owns_base {W : World} {a b : Nat} {e : TypeId} {size : Nat} {v : Value} {n : Nat} {xs : List Value} (h : W.ownsRow a e size v n xs) (hb : b ≤ a) : W.ownsRow b e size v n xs := by
  refine ⟨h.1, ?_⟩
  rcases h.2 with h | ⟨g, cap, cur, hv, hg, r⟩
  · exact .inl h
  · exact .inr ⟨g, cap, cur, hv, Nat.le_trans hb hg, r⟩

theorem grown_step {w W W' : World} {X Ft Ft' : Nat → Prop} (hg : w.grownBy W none) (hs : Step X Ft Ft' W W') (hF : ∀ k, Ft k → w.heap.size ≤ k) (hX : ∀ k, ¬ X k) : w.grownBy W' none :=
  ⟨hs.stay.os.trans hg.os, hs.stay.tape.trans hg.tape, hs.stay.output.trans hg.output, Nat.le_trans hg.size hs.stay.size,
    fun k hk hr => (hs.stay.block k (Nat.lt_of_lt_of_le hk hg.size) ⟨fun h => by have := hF k h; omega, hX k⟩).trans (hg.block k hk hr)⟩

/-- what holds between two rounds of the collecting -/
def CInv (w : World) (Bt n0 : Nat) (pre : List Nat) (Ft : Nat → Prop) (W : World) : Prop :=
  ∃ v, Boxed W Bt 29 v ∧ W.ownsRow n0 21 1 v pre.length (nvals pre) ∧ Ft = foot Bt v ∧ w.grownBy W none ∧ n0 ≤ W.heap.size
theorem cinv_firm (w : World) (Bt n0 B : Nat) (hB : w.heap.size ≤ B) : Firm B (CInv w Bt n0) := by
  rintro pre Ft W W' ⟨v, hb, hr, rfl, hg, hn⟩ hs
  obtain ⟨hb', hr'⟩ := coll_stay hb hr hs fun k hk => .inr hk
  refine ⟨v, hb', hr', rfl, ?_, Nat.le_trans hn hs.size⟩
  exact ⟨hs.os.trans hg.os, hs.tape.trans hg.tape, hs.output.trans hg.output, Nat.le_trans hg.size hs.size, fun k hk hr => (hs.block k (Nat.lt_of_lt_of_le hk hg.size) (.inl (by omega))).trans (hg.block k hk hr)⟩
theorem cinv_owned (w : World) (Bt n0 lo : Nat) (h1 : lo ≤ Bt) (h2 : lo ≤ n0) : Owned lo (CInv w Bt n0) := by
  rintro pre Ft W k ⟨v, hb, hr, rfl, _⟩ hk
  exact coll_owned hb hr h1 h2 hk

theorem from_any (p : Option Addr) (h : Int) (w : World) : Calls Try.prog 21 #[.pointer p, .int .i64 h] w fun e w' => e = .returned (.func (.func 37) #[] #[.pointer (some ⟨w.heap.size, 0, none⟩), .pointer (some ⟨w.heap.size + 1, 0, none⟩)]) ∧ w' = (w.alloc (.cells #[.pointer p] 23)).alloc (.cells #[.int .i64 h] 3) := by
  go_enter Try.func21, Try.ntmps21
  go_wp2
  go_ret
  exact ⟨rfl, rfl⟩
/-- going around: a contract for whatever iterator around makes -/
def Goes (w : World) (PB : Nat → Prop) (p : Option Addr) (hand : Int) (xs : List Nat) : Prop :=
  ∀ (W : World) (lo Bd Bh : Nat), w.grownBy W none → W.heap[Bd]? = some (.cells #[.pointer p] 23 (0, 0)) → W.cell? ⟨Bh, 0, none⟩ = some (.int .i64 hand) →
    Seq Try.prog (fun k => k = Bd ∨ PB k) lo 43 #[.pointer (some ⟨Bd, 0, none⟩), .pointer (some ⟨Bh, 0, none⟩)] (fun i : Nat => #[.int .i32 (i : Int)]) (fun ys => ys = xs) (fun pre => pre <+: xs) 65536 W
theorem Goes.grow {w W : World} {PB : Nat → Prop} {p : Option Addr} {hand : Int} {xs : List Nat} (h : Goes w PB p hand xs) (hg : w.grownBy W none) : Goes W PB p hand xs :=
  fun W' lo Bd Bh hW => h W' lo Bd Bh (grown_trans hg hW)

set_option maxRecDepth 100000 in
set_option maxHeartbeats 2000000 in
theorem from_seq (PB : Nat → Prop) (lo Bd Bh : Nat) (p : Option Addr) (hand : Int) (xs : List Nat) (w : World) (hPB : ∀ k, PB k → k < w.heap.size) (hlen : xs.length ≤ 65536) (hcd : w.cell? ⟨Bd, 0, none⟩ = some (.pointer p)) (hch : w.cell? ⟨Bh, 0, none⟩ = some (.int .i64 hand))
    (hgo : Goes w PB p hand xs) :
    Seq Try.prog (fun _ => False) lo 37 #[.pointer (some ⟨Bd, 0, none⟩), .pointer (some ⟨Bh, 0, none⟩)] (fun i : Nat => #[.int .i32 (i : Int)]) (fun ys => ys = xs) (fun pre => pre <+: xs) 65536 w := by
  intro n l X J Jx W F0 hgw hloW hX fJ fJx oJ oJx hpr hY h0 hF0
  have hcdW := hgw.cell hcd (by simp)
  have hchW := hgw.cell hch (by simp)
  have hBl : Bd < W.heap.size := World.block_lt_of_cell? W _ hcdW
  have hBc : Bh < W.heap.size := World.block_lt_of_cell? W _ hchW
  have HG := Lib.hid (hgo.grow hgw)
  have HPB : Hid (∀ k, PB k → k < W.heap.size) := Lib.hid fun k hk => Nat.lt_of_lt_of_le (hPB k hk) hgw.size
  have HY := Lib.hid hY
  have HF := Lib.hid fJ
  have HFx := Lib.hid fJx
  have HO := Lib.hid oJ
  have HOx := Lib.hid oJx
  have H0 := Lib.hid h0
  have HF0 := Lib.hid hF0
  have HX := Lib.hid hX
  clear hY fJ fJx oJ oJx h0 hF0 hcd hch hgw hX hpr hgo hPB
  have hF : ∀ k, WF.fn k := fun _ => trivial
  have hDp : WF.depth.isSome = false := rfl
  obtain ⟨i0, hi, hz0, hz1, hz2⟩ := info_parts info21
  refine callsIn_of_wp_marks Try.func37 rfl trivial ?_ rfl
  simp only [Try.ntmps37, List.size_toArray, List.length_cons, List.length_nil, Nat.reduceAdd, Nat.reduceSub, Array.replicate_succ, Array.replicate_zero, List.push_toArray, List.append_toArray, List.nil_append, List.cons_append]
  gi_wp2_with (gi_at_call 36; refine (callsIn_wide.2 (around_any _ _ _)).mono ?_; rintro e w' ⟨rfl, rfl⟩)
  obtain ⟨hgx, hzx, b0, b1, b2⟩ := alloc3 W (.cells #[.slice none 0 0] 29) (.cells #[.pointer p] 23) (.cells #[.int .i64 hand] 3)
  generalize ((W.alloc (.cells #[.slice none 0 0] 29)).alloc (.cells #[.pointer p] 23)).alloc (.cells #[.int .i64 hand] 3) = wx at *
  have HSq := Lib.hid (HG.out wx W.heap.size (W.heap.size + 1) (W.heap.size + 2) hgx b1 (cell_of_head b2 0))
  have HJx : Hid (J [] F0 wx) := Lib.hid (HF.out _ _ _ _ H0.out (Stay.of_grown hgx (by simp)))
  have bT : Boxed wx W.heap.size 29 (.slice none 0 0) := b0
  have hF0' : ∀ k, foot W.heap.size (.slice none 0 0) k → k < wx.heap.size := by
    intro k hk
    rcases hk with rfl | hk
    · omega
    · cases hk
  have HX3 : Hid (∀ k, W.heap.size ≤ k → ¬ X k) := Lib.hid fun k hk h => by have := (HX.out k h).2.1; omega
  have hCF := cinv_firm W W.heap.size (W.heap.size + 3) wx.heap.size (by omega)
  clear b0 b1 b2 HG HJx hcdW hchW
  refine range_own (P := Try.prog) (α := Nat) (gf := 43) (lb := #[.pointer (some ⟨W.heap.size + 1, 0, none⟩), .pointer (some ⟨W.heap.size + 2, 0, none⟩)]) rfl (enters_of Try.func43 (by kernel_rfl) rfl) (Prot := fun k => k = W.heap.size + 1 ∨ PB k) (fun k h => by rcases h with rfl | h; omega; have := HPB.out k h; omega)
    HSq.out (World.grownBy.refl _ _) (by omega) (fun _ => rfl) (fun _ => False) (fun _ h => h.elim)
    (CInv W W.heap.size (W.heap.size + 3)) (fun _ _ _ _ => False)
    hCF (fun _ _ _ _ _ h _ => h.elim) (cinv_owned W _ _ _ (Nat.le_refl _) (by omega)) (fun _ _ _ _ _ h _ => h.elim) ?prot
    (foot W.heap.size (.slice none 0 0)) ⟨_, bT, World.ownsRow_nil _ _ _ _, rfl, hgx, by omega⟩ hF0'
    ?a1 ?assign ?body ?done ?stop
  case assign =>
    intro l m x W K hK
    gi_wp2
    exact hK
  case prot =>
    rintro s Ft W' ⟨v, hb, hr, rfl, hg, hn⟩ k hk hf
    rcases hf with rfl | hf
    · rcases hk with hk | hk
      · omega
      · have := HPB.out _ hk; omega
    · have := (hr.lt _ hf).1
      rcases hk with hk | hk
      · omega
      · have := HPB.out _ hk; omega
  case body =>
    rintro l m pre x Ft W2 ⟨v, hb, hr, rfl, hg, hn⟩ hlen2 _
    obtain ⟨A, cap, rfl⟩ := owns_slice hr
    have hcb := hb.cell
    have hzz := hb.lt
    have hgz := hg.size
    obtain ⟨g', cap', w1, hrun, ho, hgr, hft⟩ := run_append_foot (P := Try.prog) (W2.alloc (.cells #[.int .i32 (x : Int)] 21)) (W.heap.size + 3) 29 29 21 i0 (.int .i32 0) 1 4 Try.underlying29 hi hz0 hz1 hz2 rfl (by decide) (.slice A pre.length cap) pre.length (nvals pre) (hr.alloc _) ⟨W2.heap.size, 0, none⟩ 1 [.int .i32 (x : Int)] rfl (cell_new1 W2 21 _) (by simp [Value.oneCell']) (by unfold maxLen; omega) (by omega) (by simp; omega)
    obtain ⟨hb1, hb2, hr2, hst⟩ := coll_push hb hr ho hgr hft
    have hc1 := hb1.cell
    have hf1 := hb1.frozen
    have HR := Lib.hid hrun
    have HB2 := Lib.hid hb2
    have HR2 := Lib.hid hr2
    have HST := Lib.hid hst
    have HG2 : Hid (W.grownBy (w1.setCell ⟨W.heap.size, 0, none⟩ (.slice (some ⟨g', 0, none⟩) (pre.length + 1) cap')) none) := Lib.hid (grown_step hg (hst (fun _ => False)) (fun k hk => (coll_owned hb hr (Nat.le_refl W.heap.size) (show W.heap.size ≤ W.heap.size + 3 by omega) hk).1) (fun _ h => h))
    have HN2 : Hid (W.heap.size + 3 ≤ (w1.setCell ⟨W.heap.size, 0, none⟩ (.slice (some ⟨g', 0, none⟩) (pre.length + 1) cap')).heap.size) := Lib.hid (Nat.le_trans hn (hst (fun _ => False)).stay.size)
    clear hrun ho hgr hft hb1 hb2 hr2 hst hg hb hr hn
    gi_wp2_with (gi_at_builtin; refine append_in rfl (.tmp 12) (.tmp 14) 29 rfl rfl rfl HR.out ?_)
    exact ⟨_, ⟨_, HB2.out, HR2.out, rfl, HG2.out, HN2.out⟩, HST.out _⟩
  case done =>
    rintro ys Ft W3 rfl ⟨v, hb, hr, rfl, hg, hn⟩ hD
    have hcb := hb.cell
    obtain ⟨A, cap, rfl⟩ := owns_slice hr
    have HJ1 : Hid (J [] F0 W3) := Lib.hid (HF.out _ _ _ _ H0.out (Stay.of_grown hg (by simp)))
    obtain ⟨len, Hlen⟩ : ∃ len, Hid (ys.length = len) := ⟨_, Lib.hid rfl⟩
    rw [Hlen.out] at hr hlen hcb
    have HR := Lib.hid hr
    have HD := Lib.hid hD
    have HZ : Hid (W.heap.size ≤ W3.heap.size) := Lib.hid hg.size
    have HDb : Hid (W.heap.size ≤ wx.heap.size) := Lib.hid (by omega)
    obtain ⟨dB, HdB⟩ : ∃ dB, Hid (wx.heap.size = dB) := ⟨_, Lib.hid rfl⟩
    rw [HdB.out] at HD HDb ⊢
    clear hr hg hD hb hn HSq hCF hgx hzx bT hF0' H0
    gi_wp2
    gi_loopw [18] (fun i w2 => ∃ (k : Nat) (Ft : Nat → Prop), k ≤ len ∧ i = .int .i64 (k : Int) ∧ Hid (J (ys.take k) Ft w2) ∧ Hid (w2.ownsRow (W.heap.size + 3) 21 1 (.slice A len cap) len (nvals ys)) ∧ Hid (∀ g, (Value.slice A len cap).ownBlock = some g → ¬ Ft g) ∧ Hid (w2.heap[dB]? = some (.deferred (some [])))) (fun i _ => len - (intOf i).toNat)
    case atStart => exact ⟨0, F0, Nat.zero_le _, by go_num, HJ1, HR, Lib.hid fun g hg hf => by have := HF0.out g hf; have := (HR.out.lt g hg).1; omega, HD⟩
    case round =>
      obtain ⟨k, Ft, hk, rfl, HJ, HR2, HN, HD2⟩ := hrel
      clear HR HJ1 HD
      by_cases hlt : k < len
      · obtain ⟨x, Hx⟩ : ∃ x, Hid (ys[k]? = some x) := ⟨_, Lib.hid (List.getElem?_eq_getElem (by rw [Hlen.out]; exact hlt))⟩
        obtain ⟨g, cap', hA⟩ := owns_some HR2.out (by omega)
        injection hA with hA _ hcap
        subst hA
        clear hcap
        have hcell : wr.cell? ⟨g, k, none⟩ = some (.int .i32 (x : Int)) := by
          rw [HR2.out.cellAt k (by omega)]
          unfold nvals
          rw [List.getElem?_map, Hx.out]; rfl
        obtain ⟨fn, tmps, assign, body, hy, hRd⟩ := HY.out 0 (ys.take k) x Ft wr HJ.out (by rw [List.length_take]; omega) (by rw [← take_snoc Hx.out]; exact List.take_prefix _ _)
        have HRd := Lib.hid hRd
        clear hRd
        gi_wp2
        refine (round_depth HRd.out).mono ?_
        have hdd : ∀ (Ft' : Nat → Prop) (W4 : World), Step X Ft Ft' wr W4 → W4.heap[dB]? = some (.deferred (some [])) := fun Ft' W4 hst => by
          refine (hst.stay.block dB (Array.getElem?_eq_some_iff.1 HD2.out).1 ⟨fun h => ?_, HX3.out dB HDb.out⟩).trans HD2.out
          obtain ⟨_, o, ho, hco⟩ := HO.out _ _ _ _ HJ.out h
          rw [HD2.out] at ho; cases ho; cases hco
        have HDD := Lib.hid hdd
        clear hdd
        rintro e W4 (⟨rfl, Ft', hJ3, hst⟩ | ⟨rfl, Ft', hx3, hst⟩)
        · have HJ3 : Hid (J (ys.take (k + 1)) Ft' W4) := Lib.hid (by rw [take_snoc Hx.out]; exact hJ3)
          have hglt := HR2.out.lt g rfl
          have HR3 : Hid (W4.ownsRow (W.heap.size + 3) 21 1 (.slice (some ⟨g, 0, none⟩) len cap) len (nvals ys)) := Lib.hid (owns_stay HR2.out fun k' hk' => by
            injection hk' with hk'
            have hk' : g = k' := hk'
            subst hk'
            exact hst.stay.block g hglt.2 ⟨HN.out g rfl, HX3.out g (by omega)⟩)
          have HN3 : Hid (∀ g', (Value.slice (some ⟨g, 0, none⟩) len cap).ownBlock = some g' → ¬ Ft' g') := Lib.hid (fun g' hg' hf => by
            rcases hst.foot g' hf with h | h
            · exact HN.out g' hg' h
            · have := (HR2.out.lt g' hg').2; omega)
          have HD3 := Lib.hid (HDD.out Ft' W4 hst)
          clear hst hJ3 hy hglt hcell
          gi_wp2
          go_roundw
          case rel => exact ⟨k + 1, Ft', by omega, by go_num, HJ3, HR3, HN3, HD3⟩
          case measure => simp [intOf]; omega
        · have HX4 : Hid (Jx (ys.take (k + 1)) Ft' W4) := Lib.hid (by rw [take_snoc Hx.out]; exact hx3)
          have HD3 := Lib.hid (HDD.out Ft' W4 hst)
          clear hst hx3 hy hcell
          gi_wp2
          refine ⟨by simp, .inl ⟨_, _, rfl, run_takeDeferred HD3.out, ?_⟩⟩
          refine ⟨_, results_none rfl _ _ _, ⟨_, rfl⟩, .inr ⟨_, Ft', List.take_prefix _ _, HFx.out _ _ _ _ HX4.out (Stay.putObj _ _ _ _ fun h => ?_)⟩⟩
          rcases h with h | h
          · have := HDb.out; omega
          · obtain ⟨_, o, ho, hco⟩ := HOx.out _ _ _ _ HX4.out h
            rw [HD3.out] at ho; cases ho; cases hco
      · obtain rfl : k = len := by omega
        have HE : Hid (J ys Ft wr) := Lib.hid (by have := HJ.out; rwa [List.take_of_length_le (by rw [Hlen.out]; exact Nat.le_refl _)] at this)
        clear HJ
        gi_wp2
        refine ⟨by simp, .inl ⟨_, _, rfl, run_takeDeferred HD2.out, ?_⟩⟩
        refine ⟨_, results_none rfl _ _ _, ⟨_, rfl⟩, .inl ⟨_, Ft, rfl, HF.out _ _ _ _ HE.out (Stay.putObj _ _ _ _ fun h => ?_)⟩⟩
        rcases h with h | h
        · have := HDb.out; omega
        · obtain ⟨_, o, ho, hco⟩ := HO.out _ _ _ _ HE.out h
          rw [HD2.out] at ho; cases ho; cases hco
  case stop =>
    rintro c ys Ft W3 hpre hf hD
    exact hf.elim
end Go.Proofs.Ytjligfgaahcogaa
