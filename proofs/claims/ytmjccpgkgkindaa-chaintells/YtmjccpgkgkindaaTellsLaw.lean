/-
  The walk of the law that a list is gone through as it was, whatever is done to it meanwhile.
-/
import Derived.Test.YtmjccpgkgkindaaTells
namespace Go.Proofs.Ytmjccpgkgkindaa
open Go.RowKit Go.Shelf
set_option linter.unusedVariables false
set_option maxRecDepth 100000
attribute [local go_sem] Oper.semAt_some

theorem kp_box {gL gN B : Nat} {w w' : World} {t : TypeId} {v : Value} (h : Boxed w B t v) (hk : Kp gL gN w w') (h1 : B ≠ gL) (h2 : B ≠ gN) : Boxed w' B t v := (hk.block B h.lt ⟨h1, h2⟩).trans h
theorem kept_box_alloc {w : World} {B : Nat} {t : TypeId} {v : Value} (h : Boxed w B t v) (o : Obj) : Boxed (w.alloc o) B t v := h.alloc o
theorem owns_kept {w w' : World} {base n : Nat} {e : TypeId} {size : Nat} {v : Value} {xs : List Value} (h : w.ownsRow base e size v n xs) (hg : w.grownBy w' none) : w'.ownsRow base e size v n xs :=
  owns_stay h fun k hk => hg.block k (h.lt k hk).2 (by simp)
set_option maxHeartbeats 4000000 in
theorem tells_walk (A : Option Addr) (len cap most : Nat) (zs : List Nat) (w : World) (hlen : zs.length = len) (hz : ∀ x ∈ zs, x < 256) (hr : BRow w A zs) (hm : most < 256) (h60 : len ≤ 60) :
    Calls Try.prog 5 #[.slice A len cap, .int .u8 (most : Int)] w fun e w' => e = .returned (.bool true) ∧ w.grownBy w' none := by
  refine (callsIn_wide (n := 3)).1 ?_
  have hF : ∀ k, WF.fn k := fun _ => trivial
  have hDp : WF.depth.isSome = false := rfl
  have hd : decide (60 < (len : Int)) = false := by simp; omega
  have hd' : decide (60 < len) = false := by simp; omega
  have c0 : Calls Try.prog 7 #[.int .i64 256, .int .i64 2] w fun e w' => ∃ gL gN, e = .returned (.tuple #[.pointer (some ⟨w.heap.size + 2, 0, none⟩), .int .i64 0]) ∧ IsCh w' w.heap.size (w.heap.size + 2) gL gN (chn 1 []) ∧ w.grownBy w' none := new_is 256 2 w (by decide) (by decide) (by decide)
  have HC0 := Lib.hid c0
  have Hlen := Lib.hid hlen
  have HZ := Lib.hid hz
  have HB := Lib.hid hr
  clear hlen hz hr c0
  refine callsIn_of_wp_marks Try.func5 rfl trivial ?_ rfl
  simp only [Try.ntmps5, List.size_toArray, List.length_cons, List.length_nil, Nat.reduceAdd, Nat.reduceSub, Array.replicate_succ, Array.replicate_zero, List.push_toArray, List.append_toArray, List.nil_append, List.cons_append]
  gi_wp2_with fail
  refine (callsIn_wide.2 HC0.out).mono ?_
  rintro e w1 ⟨gL, gN, rfl, hs, hg⟩
  have HG1 := Lib.hid hg
  have HS1 := Lib.hid hs
  have HL := Lib.hid hs.los
  have HT := Lib.hid hs.lts
  obtain ⟨Bc, HBc⟩ : ∃ Bc, Hid (w1.heap.size = Bc) := ⟨_, Lib.hid rfl⟩
  clear hs hg HC0
  gi_wp2_with fail
  have HS2 := Lib.hid (HS1.out.kept (World.grownBy_alloc w1 (.cells #[.pointer (some ⟨w.heap.size + 2, 0, none⟩)] 23) none))
  have HG2 := Lib.hid (grown_trans HG1.out (World.grownBy_alloc w1 (.cells #[.pointer (some ⟨w.heap.size + 2, 0, none⟩)] 23) none))
  have HB2 := Lib.hid (Boxed.new w1 23 (.pointer (some ⟨w.heap.size + 2, 0, none⟩)))
  rw [HBc.out] at HB2 HT ⊢
  clear HS1 HG1 HBc
  generalize w1.alloc (.cells #[.pointer (some ⟨w.heap.size + 2, 0, none⟩)] 23) = w2 at *
  gi_loopw [34] (fun k wr => ∃ k' : Nat, k' ≤ len ∧ k = .int .i64 (k' : Int) ∧ Hid (IsCh wr w.heap.size (w.heap.size + 2) gL gN (chn 1 (dl (zs.take k')))) ∧ Hid (w.grownBy wr none) ∧ Hid (Boxed wr Bc 23 (.pointer (some ⟨w.heap.size + 2, 0, none⟩)))) (fun k _ => len - (intOf k).toNat)
  case atStart => exact ⟨0, by omega, by go_num, HS2, HG2, HB2⟩
  case round =>
    obtain ⟨k, hk, rfl, HS3, HG3, HB3⟩ := hrel
    clear HS2 HG2 HB2
    have hcb := HB3.out.cell
    by_cases hlt : k < len
    · have hx0 : ¬ zs = [] := by intro e; have := Hlen.out; rw [e] at this; simp at this; omega
      obtain ⟨b1, o1, rfl, hb1, hc1⟩ := HB.out.resolve_left hx0
      obtain ⟨x, Hx⟩ : ∃ x, Hid (zs[k]? = some x) := ⟨_, Lib.hid (List.getElem?_eq_getElem (by rw [Hlen.out]; exact hlt))⟩
      have hcell := HG3.out.cell (hc1 k x Hx.out) (by simp)
      have hx256 : x < 256 := HZ.out x (List.mem_of_getElem? Hx.out)
      have hw32 : IntKind.i32.wrap (x : Int) = (x : Int) := by rw [IntKind.wrap_i32]; omega
      have hkI : (k : Int) < (len : Int) := by omega
      have hc := behind_add HS3.out hx256
      rw [← dl_take Hx.out] at hc
      have HC := Lib.hid hc
      clear hc hc1 hx0
      gi_wp2_with (gi_at_call 14; refine (callsIn_wide.2 HC.out).mono ?_; rintro e w4 ⟨v, rfl, hs, hk2⟩; have HS4 := Lib.hid hs; have HG4 := Lib.hid (Kp.grown HG3.out hk2 HL.out.2.1 HL.out.2.2); have HB4 := Lib.hid (kp_box HB3.out hk2 (by have := HT.out; omega) (by have := HT.out; omega)); clear hs hk2)
      go_roundw
      case rel => exact ⟨k + 1, by omega, by go_num, HS4, HG4, HB4⟩
      case measure => simp [intOf]; omega
    · obtain rfl : k = len := by omega
      rw [List.take_of_length_le (by rw [Hlen.out]; exact Nat.le_refl _)] at HS3
      obtain ⟨l, Hl⟩ : ∃ l, Hid (dl zs = l) := ⟨_, Lib.hid rfl⟩
      have hll : l.length ≤ 60 := by rw [← Hl.out]; have := dl_len zs; have := Hlen.out; omega
      rw [Hl.out] at HS3
      have c1 : Calls Try.prog 15 #[.pointer (some ⟨w.heap.size + 2, 0, none⟩), .int .i64 0, .int .i64 1000] wr (ToldPost wr l 1000) := told_is HS3.out 0 1000 (by decide)
      have HC1 := Lib.hid c1
      clear c1 Hl hlt hk HZ HB
      gi_wp2_with fail
      refine (callsIn_wide.2 HC1.out).mono ?_
      rintro e w4 ⟨vw, rfl, hr, hg⟩
      rw [List.take_of_length_le (by omega)] at hr
      have HW4 := Lib.hid (owns_base hr (show w.heap.size ≤ wr.heap.size from HG3.out.size))
      have HG4 := Lib.hid (grown_trans HG3.out hg)
      have HS4 := Lib.hid (HS3.out.kept hg)
      have HB4 := Lib.hid (HB3.out.kept hg (by simp))
      obtain ⟨A4, cap4, rfl⟩ := owns_slice hr
      obtain ⟨n, Hn⟩ : ∃ n, Hid (l.length = n) := ⟨_, Lib.hid rfl⟩
      rw [Hn.out] at HW4 hll ⊢
      clear hr hg HC1 HS3 HG3 HB3 hcb
      have hcb := HB4.out.cell
      -- back
      have hwm : IntKind.i64.wrap (most : Int) = (most : Int) := by rw [IntKind.wrap_i64]; omega
      have c2 : Calls Try.prog 21 #[.pointer (some ⟨w.heap.size + 2, 0, none⟩), .int .i64 0, .int .i64 (most : Int)] w4 (ToldPost w4 l.reverse most) := back_is HS4.out 0 most (by omega)
      have HC2 := Lib.hid c2
      clear c2
      gi_wp2_with fail
      refine (callsIn_wide.2 HC2.out).mono ?_
      rintro e w5 ⟨vf, rfl, hr, hg⟩
      have HF5 := Lib.hid (NRow.of_owns hr rfl)
      have HG5 := Lib.hid (grown_trans HG4.out hg)
      have HS5 := Lib.hid (HS4.out.kept hg)
      have HB5 := Lib.hid (HB4.out.kept hg (by simp))
      have HW5 := Lib.hid (owns_kept HW4.out hg)
      obtain ⟨A5, cap5, rfl⟩ := owns_slice hr
      obtain ⟨kk, Hkk⟩ : ∃ kk, Hid (min n most = kk) := ⟨_, Lib.hid rfl⟩
      have hkl : (l.reverse.take most).length = kk := by rw [List.length_take, List.length_reverse, Hn.out, Nat.min_comm]; exact Hkk.out
      rw [hkl] at HF5 ⊢
      have Hkl := Lib.hid hkl
      clear hr hg HC2 HS4 HG4 HB4 HW4 hcb hkl
      have hcb := HB5.out.cell
      have hmin : (if (most : Int) < (n : Int) then (most : Int) else (n : Int)) = (kk : Int) := by rw [← Hkk.out]; split <;> omega
      have hmin2 : (if most < n then (most : Int) else (n : Int)) = (kk : Int) := by rw [← Hkk.out]; split <;> omega
      have hkn : kk ≤ n := by rw [← Hkk.out]; omega
      have c3 : Calls Try.prog 22 #[.pointer (some ⟨w.heap.size + 2, 0, none⟩), .int .i64 0] w5 fun e w' => e = .returned (.int .i64 ((l.length : Nat) : Int)) ∧ w5 = w' := len_is HS5.out 0 (by rw [chn_len]; omega)
      rw [Hn.out] at c3
      have c4 : Calls Try.prog 23 #[.slice A4 n cap4] w5 fun e w' => ∃ r, e = .returned r ∧ w'.ownsRow w5.heap.size 21 1 r n (nvals l.reverse) ∧ w5.grownBy w' none := by
        have := turned_at _ _ w5 (NRow.of_owns HW5.out Hn.out.symm) (by rw [Hn.out]; omega)
        rw [Hn.out] at this
        exact this
      have HC3 := Lib.hid c3
      have HC4 := Lib.hid c4
      clear c3 c4
      gi_wp2_with fail
      refine (callsIn_wide.2 HC3.out).mono ?_
      rintro e w' ⟨rfl, rfl⟩
      gi_wp2_with fail
      refine (callsIn_wide.2 HC4.out).mono ?_
      rintro e w6 ⟨vt, rfl, hr, hg⟩
      have HT6 := Lib.hid (NRow.of_owns hr (by rw [List.length_reverse, Hn.out]))
      have HG6 := Lib.hid (grown_trans HG5.out hg)
      have HS6 := Lib.hid (HS5.out.kept hg)
      have HB6 := Lib.hid (HB5.out.kept hg (by simp))
      have HW6 := Lib.hid (owns_kept HW5.out hg)
      have HF6 := Lib.hid (HF5.out.kept hg)
      obtain ⟨A6, cap6, rfl⟩ := owns_slice hr
      have hc6 : n ≤ cap6 := by obtain ⟨A', cap', hv, h1, _⟩ := HT6.out; cases hv; rw [List.length_reverse, Hn.out] at h1; exact h1
      obtain ⟨A', cap', hv, hTk⟩ := HT6.out.take kk (by rw [List.length_reverse, Hn.out]; exact hkn)
      have hA : A' = A6 ∧ cap' = cap6 := by cases hv; exact ⟨rfl, rfl⟩
      rw [hA.1, hA.2] at hTk
      have HTK := Lib.hid hTk
      clear hr hg HC3 HC4 HS5 HG5 HB5 HW5 HF5 hcb hv hA hTk HT6
      have hkc : (kk : Int) ≤ (cap6 : Int) := by omega
      have hkc0 : (0 : Int) ≤ (kk : Int) := by omega
      have hcb := HB6.out.cell
      gi_wp2_with fail
      have htk : l.reverse.take most = l.reverse.take kk := by
        rw [← Hkk.out, ← Hn.out]
        by_cases h : l.length ≤ most
        · rw [Nat.min_eq_left h, List.take_of_length_le (by rw [List.length_reverse]; exact h), List.take_of_length_le (by rw [List.length_reverse]; exact Nat.le_refl _)]
        · rw [Nat.min_eq_right (by omega)]
      rw [htk] at HF6 Hkl
      have c5 := nodes_at _ _ _ _ w6 HF6.out HTK.out (by rw [Hkl.out]; omega) (by rw [Hkl.out]; omega)
      rw [show decide (l.reverse.take kk = l.reverse.take kk) = true from decide_eq_true rfl] at c5
      refine (callsIn_wide.2 c5).mono ?_
      rintro e w7 ⟨rfl, q, rfl⟩
      have HG7 := Lib.hid (grown_trans HG6.out (grown_drewN w6 q none))
      have HS7 := Lib.hid (HS6.out.kept (grown_drewN w6 q none))
      have HB7 := Lib.hid (HB6.out.kept (grown_drewN w6 q none) (by simp))
      have HW7 := Lib.hid (owns_kept HW6.out (grown_drewN w6 q none))
      clear c5 htk HF6 HTK HG6 HS6 HB6 HW6 hcb Hkl Hkk hmin hmin2 hkn hkc hkc0 hc6 hwm
      generalize w6.drewN q = w7 at *
      have HBs := Lib.hid (kept_box_alloc HB7.out (.cells #[.slice none 0 0] 43))
      have hcb := HBs.out.cell
      gi_wp2_with (gi_at_call 24; refine (callsIn_wide.2 (all_any _ _ _)).mono ?_; rintro e w' ⟨rfl, rfl⟩)
      obtain ⟨hgB, hzB, b0, b1, b2⟩ := alloc3 w7 (.cells #[.slice none 0 0] 43) (.cells #[.pointer (some ⟨w.heap.size + 2, 0, none⟩)] 23) (.cells #[.int .i64 0] 3)
      have HSB := Lib.hid (HS7.out.kept hgB)
      have HGB := Lib.hid (grown_trans HG7.out hgB)
      have HBB := Lib.hid (HB7.out.kept hgB (by simp))
      have HWB := Lib.hid (owns_kept HW7.out hgB)
      have HTB := Lib.hid (show w.heap.size + 2 < w7.heap.size ∧ gL < w7.heap.size ∧ gN < w7.heap.size ∧ Bc < w7.heap.size from ⟨HS7.out.lts.1, HS7.out.lts.2.1, HS7.out.lts.2.2, HB7.out.lt⟩)
      have HWL : Hid (∀ g, (Value.slice A4 n cap4).ownBlock = some g → g < w7.heap.size) := Lib.hid fun g hg => (HW7.out.lt g hg).2
      generalize ((w7.alloc (.cells #[.slice none 0 0] 43)).alloc (.cells #[.pointer (some ⟨w.heap.size + 2, 0, none⟩)] 23)).alloc (.cells #[.int .i64 0] 3) = wB at *
      obtain ⟨Bs, HBse⟩ : ∃ Bs, Hid (w7.heap.size = Bs) := ⟨_, Lib.hid rfl⟩
      rw [HBse.out] at hzB b0 b1 b2 HTB HWL ⊢
      have hBsw : w.heap.size ≤ Bs := by have := HTB.out; omega
      have HSq := Lib.hid (all_seq w.heap.size (Bs + 2) (Bs + 1) (some ⟨w.heap.size + 2, 0, none⟩) 0 l wB (by rw [Hn.out]; omega) (cell_of_head b2 0) (cell_of_head b1 0)
        (fun W hW => by
          have := first_is (HSB.out.kept hW) 0 (by rw [chn_len]; omega)
          rw [chn_of0, List.head?_eq_getElem?] at this
          exact this) (fun k x W hk hW => next_is (i := 0) (HSB.out.kept hW) hk))
      have HR0 : Hid (RI w w.heap.size (w.heap.size + 2) gL gN Bs Bc wB.heap.size (.slice A4 n cap4) l [] (.slice none 0 0) (rfoot Bs gL gN (.slice none 0 0)) wB) := Lib.hid
        ⟨b0, World.ownsRow_nil _ _ _ _, rfl, HSB.out, HBB.out, by rw [Hn.out]; exact HWB.out, fun g hg => by have := HWL.out g hg; omega, HGB.out, Nat.le_refl _⟩
      clear b0 b1 b2 HSB HGB HBB HWB hgB HS7 HG7 HB7 HW7 HBs hcb
      obtain ⟨i0, hi, hz0, hz1, hz2⟩ := info_parts info21
      have HI := Lib.hid hi
      have HI0 := Lib.hid hz0
      have HI1 := Lib.hid hz1
      have HI2 := Lib.hid hz2
      clear hi hz0 hz1 hz2
      refine range_own (P := Try.prog) (α := Nat) (gf := 42) (lb := #[.pointer (some ⟨Bs + 2, 0, none⟩), .pointer (some ⟨Bs + 1, 0, none⟩)]) rfl (enters_of Try.func42 (by kernel_rfl) rfl) (Prot := fun _ => False) (fun _ h => h.elim)
        HSq.out (World.grownBy.refl _ _) (by omega) (fun _ => rfl) (fun _ => False) (fun _ h => h.elim)
        (fun pre Ft W => ∃ v, RI w w.heap.size (w.heap.size + 2) gL gN Bs Bc wB.heap.size (.slice A4 n cap4) l pre v Ft W) (fun _ _ _ _ => False)
        ?firm (fun _ _ _ _ _ h _ => h.elim) ?own (fun _ _ _ _ _ h _ => h.elim) (fun _ _ _ _ _ h => h.elim)
        (rfoot Bs gL gN (.slice none 0 0)) ⟨_, HR0.out⟩ ?hF0 ?a1 ?assign ?body ?done ?stop
      case assign =>
        intro l2 m2 x W2 K hK
        gi_wp2
        exact hK
      case firm =>
        rintro pre Ft W W' ⟨v, h⟩ hs
        have := HTB.out
        exact ⟨v, h.firm (by omega) (by omega) (by omega) (by omega) (by omega) (by omega) hs⟩
      case own =>
        rintro pre Ft W k' ⟨v, h⟩ hk'
        exact h.owned hBsw (by omega) hk'
      case hF0 =>
        have := HTB.out
        rintro k' ((rfl | hk') | rfl | rfl)
        · omega
        · cases hk'
        · omega
        · omega
      case stop =>
        rintro c pre Ft W2 _ h _
        exact h.elim
      case body =>
        rintro l2 m2 pre x Ft W2 ⟨v, h⟩ hlen2 hsp
        have hst := HTB.out
        have hcb := h.cbox.cell
        have hsb := h.box.cell
        have hzz := h.siz
        obtain ⟨Av, cv, rfl⟩ := owns_slice h.row
        obtain ⟨g', cap', w3, hrun, ho, hgr, hft⟩ := run_append_foot (P := Try.prog) (W2.alloc (.cells #[.int .i32 (x : Int)] 21)) wB.heap.size 43 43 21 i0 (.int .i32 0) 1 4 Try.underlying43 HI.out HI0.out HI1.out HI2.out rfl (by decide) (.slice Av pre.length cv) pre.length (nvals pre) (h.row.alloc _) ⟨W2.heap.size, 0, none⟩ 1 [.int .i32 (x : Int)] rfl (cell_new1 W2 21 _) (by simp [Value.oneCell']) (by unfold maxLen; omega) (by omega) (by simp; omega)
        obtain ⟨hb1, hb2, hr2, hst3⟩ := coll_push h.box h.row ho hgr hft
        have hs3 := hst3 (fun _ => False)
        have hcc1 := hb1.cell
        have hff1 := hb1.frozen
        -- the chains are as they were
        have hbn : ∀ k', k' < W2.heap.size → (k' = w.heap.size + 2 ∨ k' = gL ∨ k' = gN) → (w3.setCell ⟨Bs, 0, none⟩ (.slice (some ⟨g', 0, none⟩) (pre.length + 1) cap')).heap[k']? = W2.heap[k']? := by
          intro k' hk' hkk
          refine hs3.stay.block k' hk' ⟨?_, fun h => h⟩
          rintro (rfl | hv)
          · omega
          · have := (h.row.lt _ hv).1; omega
        have hch3 := h.ch.stay hbn
        have hcb3 : Boxed (w3.setCell ⟨Bs, 0, none⟩ (.slice (some ⟨g', 0, none⟩) (pre.length + 1) cap')) Bc 23 (.pointer (some ⟨w.heap.size + 2, 0, none⟩)) := by
          refine (hs3.stay.block Bc h.cbox.lt ⟨?_, fun h => h⟩).trans h.cbox
          rintro (rfl | hv)
          · omega
          · have := (h.row.lt _ hv).1; omega
        have c6 : Calls Try.prog 16 #[.pointer (some ⟨w.heap.size + 2, 0, none⟩), .int .i32 (x : Int)] (w3.setCell ⟨Bs, 0, none⟩ (.slice (some ⟨g', 0, none⟩) (pre.length + 1) cap')) (ChPost (w3.setCell ⟨Bs, 0, none⟩ (.slice (some ⟨g', 0, none⟩) (pre.length + 1) cap')) w.heap.size (w.heap.size + 2) gL gN ⟨256, [l.drop (pre ++ [x]).length, pre.reverse]⟩ (.bool true)) :=
          remove_is hch3 (i := 0) (l1 := []) (l2 := l.drop (pre ++ [x]).length) (by rw [tl_of0]; exact tl_drop hsp)
        have HRun := Lib.hid hrun
        have HH := Lib.hid h
        have HB2 := Lib.hid hb2
        have HR2 := Lib.hid hr2
        have HS3 := Lib.hid hs3
        have HCB3 := Lib.hid hcb3
        have HC6 := Lib.hid c6
        have HOK := Lib.hid h.ch.ok
        have HSP := Lib.hid hsp
        have hcb4 := hcb3.cell
        clear hrun ho hgr hft hb1 hb2 hr2 hst3 hs3 hch3 hcb3 c6 h hbn
        gi_wp2_with (gi_at_builtin; refine append_in rfl (.tmp 85) (.tmp 87) 43 rfl rfl rfl HRun.out ?_)
        refine (CallsIn.inRound l2 (callsIn_wide.2 HC6.out)).mono ?_
        rintro e w5 ⟨rfl, hs5, hk5⟩
        have hcb5 := kp_box HCB3.out hk5 (by have := HT.out; omega) (by have := HT.out; omega)
        have hcc5 := hcb5.cell
        have hfree : Ch.free ⟨256, [l.drop (pre ++ [x]).length, pre.reverse]⟩ x := by
          have hok := HOK.out
          have h0 := hok.nd 0
          rw [tl_of0, tl_drop HSP.out] at h0
          have hx1 : x ∉ pre.reverse := fun hm => by
            have := hok.dj 0 1 x (by rw [tl_of0, tl_drop HSP.out]; simp) hm
            cases this
          intro i hi
          match i, hi with
          | 0, hi => exact (List.nodup_cons.1 h0).1 hi
          | 1, hi => exact hx1 hi
          | i + 2, hi => simp [Ch.of] at hi
        have c7 : Calls Try.prog 19 #[.pointer (some ⟨w.heap.size + 2, 0, none⟩), .int .i64 1, .int .i32 (x : Int)] w5 (ChPost w5 w.heap.size (w.heap.size + 2) gL gN (tl l (pre ++ [x])) (.int .i64 0)) := by
          have := ahead_is hs5 (i := 1) (x := x) (by simp) (HOK.out.lt 0 x (by rw [tl_of0, tl_drop HSP.out]; simp)) hfree
          rw [show Ch.of ⟨256, [l.drop (pre ++ [x]).length, pre.reverse]⟩ 1 = pre.reverse from rfl, tl_step HSP.out] at this
          exact this
        have HC7 := Lib.hid c7
        have HK5 := Lib.hid hk5
        clear hs5 hk5 c7 hfree hcb4 HC6 hcb5
        gi_wp2_with fail
        refine (CallsIn.inRound l2 (callsIn_wide.2 HC7.out)).mono ?_
        rintro e w6 ⟨rfl, hs6, hk6⟩
        have HS6 := Lib.hid hs6
        have HK6 := Lib.hid hk6
        clear hs6 hk6 hcc5 HC7
        gi_wp2
        have hfin := HH.out.step (x := x) (Nat.le_refl _) (by omega) HB2.out HR2.out HS3.out (by omega) hBsw (by omega) (by omega) (by omega) (by omega) (by have := HT.out; omega) (by have := HT.out; omega) HK5.out HK6.out HS6.out
        exact ⟨_, ⟨_, hfin.1⟩, hfin.2⟩
      case done =>
        rintro ys Ft W hS ⟨v, h⟩ hD
        have hS : ys = l := hS
        subst hS
        have hst := HTB.out
        obtain ⟨Av, cv, rfl⟩ := owns_slice h.row
        have hsee := NRow.of_owns h.row rfl
        have hwas := NRow.of_owns h.was rfl
        have htl : (tl ys ys).ofI 1 = ys.reverse := rfl
        have c8 : Calls Try.prog 15 #[.pointer (some ⟨w.heap.size + 2, 0, none⟩), .int .i64 1, .int .i64 1000] W (ToldPost W ys.reverse 1000) := by
          have := told_is h.ch 1 1000 (by decide)
          rw [htl] at this
          exact this
        have hcb := h.cbox.cell
        have HC8 := Lib.hid c8
        have HCH := Lib.hid h.ch
        have HGH := Lib.hid h.grown
        have HSE : Hid (NRow W (.slice Av n cv) ys) := Lib.hid (by rw [Hn.out] at hsee; exact hsee)
        have HWA : Hid (NRow W (.slice A4 n cap4) ys) := Lib.hid hwas
        have HBX := Lib.hid h.box
        have HCB := Lib.hid h.cbox
        have HD0 := Lib.hid hD
        clear c8 hsee hwas htl hD h
        rw [Hn.out] at HBX
        gi_wp2_with fail
        refine (callsIn_wide.2 HC8.out).mono ?_
        rintro e w8 ⟨v8, rfl, hr, hg⟩
        rw [List.take_of_length_le (by rw [List.length_reverse, Hn.out]; omega)] at hr
        have HO9 := Lib.hid (NRow.of_owns hr rfl)
        have HCH9 := Lib.hid (HCH.out.kept hg)
        have HG9 := Lib.hid (grown_trans HGH.out hg)
        have HSE9 := Lib.hid (HSE.out.kept hg)
        have HWA9 := Lib.hid (HWA.out.kept hg)
        have hbx9 := (HBX.out.kept hg (by simp)).cell
        have hcb9 := (HCB.out.kept hg (by simp)).cell
        have HCB9 := Lib.hid (HCB.out.kept hg (by simp))
        have HD9 : Hid (w8.heap[wB.heap.size]? = some (.deferred (some []))) := Lib.hid ((hg.block _ (Array.getElem?_eq_some_iff.1 HD0.out).1 (by simp)).trans HD0.out)
        obtain ⟨A9, cap9, rfl⟩ := owns_slice hr
        rw [List.length_reverse, Hn.out] at HO9 ⊢
        clear hr hg HC8 HCH HGH HSE HWA HBX HCB HD0 hcb
        gi_wp2_with fail
        have c9 := nodes_at _ _ _ _ w8 HSE9.out HWA9.out (by rw [Hn.out]; omega) (by rw [Hn.out]; omega)
        rw [show decide (ys = ys) = true from decide_eq_true rfl] at c9
        refine (callsIn_wide.2 c9).mono ?_
        rintro e wq ⟨rfl, q, rfl⟩
        have HOA := Lib.hid (HO9.out.kept (grown_drewN w8 q none))
        have HCHA := Lib.hid (HCH9.out.kept (grown_drewN w8 q none))
        have HGA := Lib.hid (grown_trans HG9.out (grown_drewN w8 q none))
        have HWAA := Lib.hid (HWA9.out.kept (grown_drewN w8 q none))
        have HCBA := Lib.hid (HCB9.out.kept (grown_drewN w8 q none) (by simp))
        have HDA : Hid ((w8.drewN q).heap[wB.heap.size]? = some (.deferred (some []))) := Lib.hid HD9.out
        clear c9 hbx9 hcb9 HO9 HCH9 HG9 HSE9 HWA9 HCB9 HD9
        generalize w8.drewN q = wA at *
        gi_wp2_with fail
        have cA := turned_at _ _ wA HWAA.out (by rw [Hn.out]; omega)
        refine (callsIn_wide.2 cA).mono ?_
        rintro e wC ⟨r, rfl, hr, hg⟩
        have HRC := Lib.hid (NRow.of_owns (xs := ys.reverse) hr (by rw [List.length_reverse]))
        have HOC := Lib.hid (HOA.out.kept hg)
        have HCHC := Lib.hid (HCHA.out.kept hg)
        have HGC := Lib.hid (grown_trans HGA.out hg)
        have HCBC := Lib.hid (HCBA.out.kept hg (by simp))
        have HDC : Hid (wC.heap[wB.heap.size]? = some (.deferred (some []))) := Lib.hid ((hg.block _ (Array.getElem?_eq_some_iff.1 HDA.out).1 (by simp)).trans HDA.out)
        obtain ⟨AC, capC, rfl⟩ := owns_slice hr
        rw [Hn.out] at HRC ⊢
        clear hr hg cA HOA HCHA HGA HWAA HCBA HDA
        gi_wp2_with fail
        have cC := nodes_at _ _ _ _ wC HOC.out HRC.out (by rw [List.length_reverse, Hn.out]; omega) (by rw [List.length_reverse, Hn.out]; omega)
        rw [show decide (ys.reverse = ys.reverse) = true from decide_eq_true rfl] at cC
        refine (callsIn_wide.2 cC).mono ?_
        rintro e wq ⟨rfl, q2, rfl⟩
        have HCHD := Lib.hid (HCHC.out.kept (grown_drewN wC q2 none))
        have HGD := Lib.hid (grown_trans HGC.out (grown_drewN wC q2 none))
        have HCBD := Lib.hid (HCBC.out.kept (grown_drewN wC q2 none) (by simp))
        have HDD : Hid ((wC.drewN q2).heap[wB.heap.size]? = some (.deferred (some []))) := Lib.hid HDC.out
        clear cC HRC HOC HCHC HGC HCBC HDC
        generalize wC.drewN q2 = wD at *
        have hcbD := HCBD.out.cell
        have cD : Calls Try.prog 22 #[.pointer (some ⟨w.heap.size + 2, 0, none⟩), .int .i64 0] wD fun e w' => e = .returned (.int .i64 0) ∧ wD = w' := by
          have := len_is HCHD.out 0 (by simp [tl])
          rw [tl_of0, List.drop_length] at this
          exact this
        have HCD := Lib.hid cD
        clear cD
        gi_wp2_with fail
        refine (callsIn_wide.2 HCD.out).mono ?_
        rintro e w' ⟨rfl, rfl⟩
        gi_wp2_with fail
        refine (callsIn_wide.2 (alive_any wD)).mono ?_
        rintro e wE ⟨rfl, hg⟩
        have HGE := Lib.hid (grown_trans HGD.out hg)
        have HDE : Hid (wE.heap[wB.heap.size]? = some (.deferred (some []))) := Lib.hid ((hg.block _ (Array.getElem?_eq_some_iff.1 HDD.out).1 (by simp)).trans HDD.out)
        clear hg HGD HDD hcbD HCD HCBD HCHD
        gi_wp2
        refine ⟨by simp, .inl ⟨_, _, rfl, run_takeDeferred (show wE.heap[Bs + 3]? = some (.deferred (some [])) by rw [← hzB]; exact HDE.out), ?_⟩⟩
        refine ⟨_, results_tmp rfl _ _ _, rfl, ?_⟩
        exact grown_new HGE.out (grownBy_putObj' _ _ _) (by omega)
theorem tells_long (A : Option Addr) (len cap : Nat) (k : Int) (w : World) (h : 60 < len) :
    Calls Try.prog 5 #[.slice A len cap, .int .u8 k] w fun e w' => e = .returned (.bool true) ∧ w.grownBy w' none := by
  have hd : decide (60 < (len : Int)) = true := by simp; omega
  have hd' : decide (60 < len) = true := by simp; omega
  have H := Lib.hid (alive_any w)
  go_enter Try.func5, Try.ntmps5
  go_wp2_with (go_at_call 9; refine H.out.mono ?_; rintro e w' ⟨rfl, hg⟩; have HG := Lib.hid hg; clear hg)
  go_ret
  exact ⟨rfl, HG.out⟩
end Go.Proofs.Ytmjccpgkgkindaa
