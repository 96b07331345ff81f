/-
  The walk of the law that a dial is gone around as it was, whatever is done to it meanwhile.
-/
import Derived.Test.YtjligfgaahcogaaTells
namespace Go.Proofs.Ytjligfgaahcogaa
open Go.RowKit Go.Shelf
set_option linter.unusedVariables false
set_option maxRecDepth 100000
attribute [local go_sem] Oper.semAt_some

theorem kp_box {b gL gH B : Nat} {w w' : World} {t : TypeId} {v : Value} (h : Boxed w B t v) (hk : Kp b gL gH w w') (h1 : B ≠ b ∧ B ≠ gL ∧ B ≠ gH) : Boxed w' B t v := (hk.block B h.lt h1).trans h
theorem owns_kept {w w' : World} {base n : Nat} {e : TypeId} {size : Nat} {v : Value} {xs : List Value} (h : w.ownsRow base e size v n xs) (hg : w.grownBy w' none) : w'.ownsRow base e size v n xs :=
  owns_stay h fun k hk => hg.block k (h.lt k hk).2 (by simp)
set_option maxHeartbeats 4000000 in
theorem tells_walk (A : Option Addr) (len cap most : Nat) (zs : List Nat) (w : World) (hlen : zs.length = len) (hz : ∀ x ∈ zs, x < 256) (hr : BRow w A zs) (hm : most < 256) (h60 : len ≤ 60) :
    Calls Try.prog 5 #[.slice A len cap, .int .u8 (most : Int)] w fun e w' => e = .returned (.bool true) ∧ w.grownBy w' none := by
  refine (callsIn_wide (n := 3)).1 ?_
  have hF : ∀ k, WF.fn k := fun _ => trivial
  have hDp : WF.depth.isSome = false := rfl
  have hd : decide (60 < (len : Int)) = false := by simp; omega
  have hd' : decide (60 < len) = false := by simp; omega
  have c0 : Calls Try.prog 7 #[.int .i64 256, .int .i64 1] w fun e w' => ∃ gL gH, e = .returned (.tuple #[.pointer (some ⟨w.heap.size + 2, 0, none⟩), .int .i64 0]) ∧ IsD w' w.heap.size (w.heap.size + 2) gL gH (Dl.new 256 1) ∧ w.grownBy w' none ∧ w'.heap.size = w.heap.size + 3 := new_is 256 1 w (by decide) (by decide) (by decide)
  have HC0 := Lib.hid c0
  have Hlen := Lib.hid hlen
  have HZ := Lib.hid hz
  have HB := Lib.hid hr
  clear hlen hz hr c0
  refine callsIn_of_wp_marks Try.func5 rfl trivial ?_ rfl
  simp only [Try.ntmps5, List.size_toArray, List.length_cons, List.length_nil, Nat.reduceAdd, Nat.reduceSub, Array.replicate_succ, Array.replicate_zero, List.push_toArray, List.append_toArray, List.nil_append, List.cons_append]
  gi_wp2_with fail
  refine (callsIn_wide.2 HC0.out).mono ?_
  rintro e w1 ⟨gL, gH, rfl, hs, hg, hzz⟩
  clear hzz
  have HG1 := Lib.hid hg
  have HS1 := Lib.hid hs
  have HL := Lib.hid hs.los
  have HT := Lib.hid hs.lts
  obtain ⟨Bc, HBc⟩ : ∃ Bc, Hid (w1.heap.size = Bc) := ⟨_, Lib.hid rfl⟩
  clear hs hg HC0
  gi_wp2_with fail
  have HS2 := Lib.hid (HS1.out.kept (World.grownBy_alloc w1 (.cells #[.pointer (some ⟨w.heap.size + 2, 0, none⟩)] 23) none))
  have HG2 := Lib.hid (grown_trans HG1.out (World.grownBy_alloc w1 (.cells #[.pointer (some ⟨w.heap.size + 2, 0, none⟩)] 23) none))
  have HB2 := Lib.hid (Boxed.new w1 23 (.pointer (some ⟨w.heap.size + 2, 0, none⟩)))
  rw [HBc.out] at HB2 HT ⊢
  have HT3 : Hid (Bc ≠ w.heap.size + 2 ∧ Bc ≠ gL ∧ Bc ≠ gH) := Lib.hid (by have := HT.out; omega)
  clear HS1 HG1 HBc
  generalize w1.alloc (.cells #[.pointer (some ⟨w.heap.size + 2, 0, none⟩)] 23) = w2 at *
  gi_loopw [32] (fun k wr => ∃ (k' : Nat) (D : Dl), k' ≤ len ∧ k = .int .i64 (k' : Int) ∧ Hid (IsD wr w.heap.size (w.heap.size + 2) gL gH D) ∧ Hid (D.N = 256 ∧ D.hs.length = 1 ∧ D.l.length ≤ k') ∧ Hid (w.grownBy wr none) ∧ Hid (Boxed wr Bc 23 (.pointer (some ⟨w.heap.size + 2, 0, none⟩)))) (fun k _ => len - (intOf k).toNat)
  case atStart => exact ⟨0, Dl.new 256 1, by omega, by go_num, HS2, Lib.hid ⟨rfl, rfl, Nat.le_refl _⟩, HG2, HB2⟩
  case round =>
    obtain ⟨k, D, hk, rfl, HS3, HD3, HG3, HB3⟩ := hrel
    clear HS2 HG2 HB2
    have hcb := HB3.out.cell
    by_cases hlt : k < len
    · have hx0 : ¬ zs = [] := by intro e; have := Hlen.out; rw [e] at this; simp at this; omega
      obtain ⟨b1, o1, rfl, hb1, hc1⟩ := HB.out.resolve_left hx0
      obtain ⟨x, Hx⟩ : ∃ x, Hid (zs[k]? = some x) := ⟨_, Lib.hid (List.getElem?_eq_getElem (by rw [Hlen.out]; exact hlt))⟩
      have hcell := HG3.out.cell (hc1 k x Hx.out) (by simp)
      have hx256 : x < 256 := HZ.out x (List.mem_of_getElem? Hx.out)
      have hw32 : IntKind.i32.wrap (x : Int) = (x : Int) := by rw [IntKind.wrap_i32]; omega
      have hkI : (k : Int) < (len : Int) := by omega
      have HC := Lib.hid (insert_any HS3.out (i := 0) (x := x) (by rw [HD3.out.2.1]; omega) (by rw [HD3.out.1]; exact hx256))
      clear hc1 hx0
      gi_wp2_with (gi_at_call 13; refine (callsIn_wide.2 HC.out).mono ?_; rintro e w4 ⟨v, D', rfl, hs, hk2, h1, h2, h3, h4⟩; have HS4 := Lib.hid hs; have HG4 := Lib.hid (Kp.grown HG3.out hk2 HL.out.1 HL.out.2.1 HL.out.2.2); have HB4 := Lib.hid (kp_box HB3.out hk2 HT3.out); have HD4 : Hid (D'.N = 256 ∧ D'.hs.length = 1 ∧ D'.l.length ≤ k + 1) := Lib.hid ⟨h1.trans HD3.out.1, h2.trans HD3.out.2.1, Nat.le_trans h3 (Nat.succ_le_succ HD3.out.2.2)⟩; clear hs hk2 h1 h2 h3 h4)
      go_roundw
      case rel => exact ⟨k + 1, D', by omega, by go_num, HS4, HD4, HG4, HB4⟩
      case measure => simp [intOf]; omega
    · obtain rfl : k = len := by omega
      obtain ⟨h0, Hh⟩ : ∃ h0, Hid (D.hs[0]? = some h0) := ⟨_, Lib.hid (List.getElem?_eq_getElem (by rw [HD3.out.2.1]; omega))⟩
      obtain ⟨l, Hl⟩ : ∃ l, Hid (D.around 0 = l) := ⟨_, Lib.hid rfl⟩
      have HRl : Hid (l = rot D.l h0) := Lib.hid (by rw [← Hl.out]; exact Dl.around_at (i := 0) Hh.out)
      have hll : l.length ≤ 60 := by rw [HRl.out, rot_length]; have := HD3.out.2.2; omega
      have HNl : Hid (D.l.length = l.length) := Lib.hid (by rw [HRl.out, rot_length])
      have HMl : Hid (∀ y ∈ D.l, y ∈ l) := Lib.hid fun y hy => by rw [HRl.out]; exact rot_mem.2 hy
      have HLt : Hid (∀ y ∈ l, y < 256) := Lib.hid fun y hy => by rw [HRl.out, rot_mem] at hy; have := HS3.out.ok.lt y hy; rw [HD3.out.1] at this; exact this
      have c1 : Calls Try.prog 15 #[.pointer (some ⟨w.heap.size + 2, 0, none⟩), .int .i64 0, .int .i64 1000] wr (ToldPost wr l 1000) := by
        have := told_is HS3.out 0 1000 (by decide)
        rw [Hl.out] at this
        exact this
      have HC1 := Lib.hid c1
      clear c1 hlt hk HZ HB HD3 HRl Hh
      gi_wp2_with fail
      refine (callsIn_wide.2 HC1.out).mono ?_
      rintro e w4 ⟨vw, rfl, hr, hg⟩
      rw [List.take_of_length_le (by omega)] at hr
      have HW4 := Lib.hid hr
      have HHw : Hid (gH < wr.heap.size) := Lib.hid HS3.out.lts.2.2
      have HG4 := Lib.hid (grown_trans HG3.out hg)
      have HS4 := Lib.hid (HS3.out.kept hg)
      have HB4 := Lib.hid (HB3.out.kept hg (by simp))
      obtain ⟨A4, cap4, rfl⟩ := owns_slice hr
      obtain ⟨n, Hn⟩ : ∃ n, Hid (l.length = n) := ⟨_, Lib.hid rfl⟩
      rw [Hn.out] at HW4 hll HNl ⊢
      clear hr hg HC1 HS3 HG3 HB3 hcb
      have hcb := HB4.out.cell
      -- the first few
      have hwm : IntKind.i64.wrap (most : Int) = (most : Int) := by rw [IntKind.wrap_i64]; omega
      have c2 : Calls Try.prog 15 #[.pointer (some ⟨w.heap.size + 2, 0, none⟩), .int .i64 0, .int .i64 (most : Int)] w4 (ToldPost w4 l most) := by
        have := told_is HS4.out 0 most (by omega)
        rw [Hl.out] at this
        exact this
      have HC2 := Lib.hid c2
      clear c2
      gi_wp2_with fail
      refine (callsIn_wide.2 HC2.out).mono ?_
      rintro e w5 ⟨vf, rfl, hr, hg⟩
      have HF5 := Lib.hid (NRow.of_owns hr rfl)
      have HG5 := Lib.hid (grown_trans HG4.out hg)
      have HS5 := Lib.hid (HS4.out.kept hg)
      have HB5 := Lib.hid (HB4.out.kept hg (by simp))
      have HW5 := Lib.hid (owns_kept HW4.out hg)
      obtain ⟨A5, cap5, rfl⟩ := owns_slice hr
      obtain ⟨kk, Hkk⟩ : ∃ kk, Hid (min n most = kk) := ⟨_, Lib.hid rfl⟩
      have hkl : (l.take most).length = kk := by rw [List.length_take, Hn.out, Nat.min_comm]; exact Hkk.out
      rw [hkl] at HF5 ⊢
      have Hkl := Lib.hid hkl
      clear hr hg HC2 HS4 HG4 HB4 HW4 hcb hkl
      have hcb := HB5.out.cell
      have hmin : (if (most : Int) < (n : Int) then (most : Int) else (n : Int)) = (kk : Int) := by rw [← Hkk.out]; split <;> omega
      have hmin2 : (if most < n then (most : Int) else (n : Int)) = (kk : Int) := by rw [← Hkk.out]; split <;> omega
      have hkn : kk ≤ n := by rw [← Hkk.out]; omega
      -- what goes around
      gi_wp2_with fail
      refine (callsIn_wide.2 (from_any _ _ _)).mono ?_
      rintro e w' ⟨rfl, rfl⟩
      have hgx : w5.grownBy ((w5.alloc (.cells #[.pointer (some ⟨w.heap.size + 2, 0, none⟩)] 23)).alloc (.cells #[.int .i64 0] 3)) none := grown_trans (World.grownBy_alloc _ _ none) (World.grownBy_alloc _ _ none)
      have HBd : Hid (((w5.alloc (.cells #[.pointer (some ⟨w.heap.size + 2, 0, none⟩)] 23)).alloc (.cells #[.int .i64 0] 3)).heap[w5.heap.size]? = some (.cells #[.pointer (some ⟨w.heap.size + 2, 0, none⟩)] 23 (0, 0))) := Lib.hid ((Boxed.new w5 23 (.pointer (some ⟨w.heap.size + 2, 0, none⟩))).alloc _)
      have HBh : Hid (((w5.alloc (.cells #[.pointer (some ⟨w.heap.size + 2, 0, none⟩)] 23)).alloc (.cells #[.int .i64 0] 3)).heap[w5.heap.size + 1]? = some (.cells #[.int .i64 0] 3 (0, 0))) := Lib.hid (by have := Boxed.new (w5.alloc (.cells #[.pointer (some ⟨w.heap.size + 2, 0, none⟩)] 23)) 3 (.int .i64 0); rw [World.size_alloc] at this; exact this)
      have HG6 := Lib.hid (grown_trans HG5.out hgx)
      have HS6 := Lib.hid (HS5.out.kept hgx)
      have HB6 := Lib.hid (HB5.out.kept hgx (by simp))
      have HW6 := Lib.hid (owns_kept HW5.out hgx)
      have HF6 := Lib.hid (HF5.out.kept hgx)
      have HT6 := Lib.hid (NRow.of_owns HW6.out Hn.out.symm)
      obtain ⟨A', cap', hv, hTk⟩ := HT6.out.take kk (by rw [Hn.out]; exact hkn)
      have hA : A' = A4 ∧ cap' = cap4 := by cases hv; exact ⟨rfl, rfl⟩
      rw [hA.1, hA.2] at hTk
      have HTK := Lib.hid hTk
      have hc6 : n ≤ cap4 := by obtain ⟨A', cap', hv, h1, _⟩ := HT6.out; cases hv; rw [Hn.out] at h1; exact h1
      have HLW : Hid (w.heap.size + 2 < w5.heap.size ∧ gL < w5.heap.size ∧ gH < w5.heap.size ∧ Bc < w5.heap.size) := Lib.hid ⟨HS5.out.lts.1, HS5.out.lts.2.1, HS5.out.lts.2.2, HB5.out.lt⟩
      have HWL : Hid (∀ g, (Value.slice A4 n cap4).ownBlock = some g → g < w5.heap.size) := Lib.hid fun g hg => (HW5.out.lt g hg).2
      clear HS5 HG5 HB5 HW5 HF5 hcb hv hA hTk HT6 hgx
      generalize (w5.alloc (.cells #[.pointer (some ⟨w.heap.size + 2, 0, none⟩)] 23)).alloc (.cells #[.int .i64 0] 3) = w6 at *
      obtain ⟨Bd, HBde⟩ : ∃ Bd, Hid (w5.heap.size = Bd) := ⟨_, Lib.hid rfl⟩
      rw [HBde.out] at HBd HBh HLW HWL ⊢
      have hkc : (kk : Int) ≤ (cap4 : Int) := by omega
      have hkc0 : (0 : Int) ≤ (kk : Int) := by omega
      have hcb := HB6.out.cell
      have hfn := fun w' => run_eql_func_nil (P := Try.prog) w' (.func 37) #[] #[.pointer (some ⟨Bd, 0, none⟩), .pointer (some ⟨Bd + 1, 0, none⟩)] Try.underlying53
      have c3 := len_is HS6.out
      rw [HNl.out] at c3
      have HC3 := Lib.hid c3
      clear c3
      gi_wp2_with fail
      refine (callsIn_wide.2 HC3.out).mono ?_
      rintro e w' ⟨rfl, rfl⟩
      gi_wp2_with fail
      have htk : l.take most = l.take kk := by
        rw [← Hkk.out, ← Hn.out]
        by_cases h : l.length ≤ most
        · rw [Nat.min_eq_left h, List.take_of_length_le h, List.take_of_length_le (Nat.le_refl _)]
        · rw [Nat.min_eq_right (by omega)]
      rw [htk] at HF6 Hkl
      have c5 := nodes_at _ _ _ _ w6 HF6.out HTK.out (by rw [Hkl.out]; omega) (by rw [Hkl.out]; omega)
      rw [show decide (l.take kk = l.take kk) = true from decide_eq_true rfl] at c5
      refine (callsIn_wide.2 c5).mono ?_
      rintro e w7 ⟨rfl, q, rfl⟩
      have hgq := grown_drewN w6 q none
      have HG7 := Lib.hid (grown_trans HG6.out hgq)
      have HS7 := Lib.hid (HS6.out.kept hgq)
      have HB7 := Lib.hid (HB6.out.kept hgq (by simp))
      have HW7 := Lib.hid (owns_kept HW6.out hgq)
      have HBd7 : Hid ((w6.drewN q).heap[Bd]? = some (.cells #[.pointer (some ⟨w.heap.size + 2, 0, none⟩)] 23 (0, 0))) := Lib.hid HBd.out
      have HBh7 : Hid ((w6.drewN q).heap[Bd + 1]? = some (.cells #[.int .i64 0] 3 (0, 0))) := Lib.hid HBh.out
      clear c5 htk HF6 HTK HG6 HS6 HB6 HW6 HBd HBh hcb Hkl Hkk hmin hmin2 hkn hkc hkc0 hc6 hwm HC3 hgq hfn
      generalize w6.drewN q = w7 at *
      gi_wp2_with fail
      obtain ⟨Bs, HBse⟩ : ∃ Bs, Hid (w7.heap.size = Bs) := ⟨_, Lib.hid rfl⟩
      have hgB := World.grownBy_alloc w7 (.cells #[.slice none 0 0] 29) none
      have hzB : (w7.alloc (.cells #[.slice none 0 0] 29)).heap.size = w7.heap.size + 1 := by simp
      have b0 := Boxed.new w7 29 (.slice none 0 0)
      have HSB := Lib.hid (HS7.out.kept hgB)
      have HGB := Lib.hid (grown_trans HG7.out hgB)
      have HBB := Lib.hid (HB7.out.kept hgB (by simp))
      have HWB := Lib.hid (owns_kept HW7.out hgB)
      have HBdB := Lib.hid ((hgB.block Bd (Array.getElem?_eq_some_iff.1 HBd7.out).1 (by simp)).trans HBd7.out)
      have HBhB := Lib.hid ((hgB.block (Bd + 1) (Array.getElem?_eq_some_iff.1 HBh7.out).1 (by simp)).trans HBh7.out)
      have HBs2 : Hid (Bd + 1 < Bs) := Lib.hid (by rw [← HBse.out]; exact (Array.getElem?_eq_some_iff.1 HBh7.out).1)
      rw [HBse.out] at hzB b0 ⊢
      clear hgB HS7 HG7 HB7 HW7 HBd7 HBh7 HBse
      generalize w7.alloc (.cells #[.slice none 0 0] 29) = wB at *
      have hBsw : w.heap.size ≤ Bs := by have := HLW.out; have := HBs2.out; omega
      have HSq := Lib.hid (from_seq (PBD (w.heap.size + 2) gL gH) w.heap.size Bd (Bd + 1) (some ⟨w.heap.size + 2, 0, none⟩) 0 l wB (pbd_lt HSB.out) (by rw [Hn.out]; omega) (cell_of_head HBdB.out 0) (cell_of_head HBhB.out 0) (by have := goes_is HSB.out 0; rw [Hl.out] at this; exact this))
      have HR0 : Hid (RI w w.heap.size (w.heap.size + 2) gL gH Bs Bc wr.heap.size wB.heap.size (.slice A4 n cap4) l [] (.slice none 0 0) D (rfoot Bs (w.heap.size + 2) gL gH (.slice none 0 0)) wB) := Lib.hid
        ⟨b0, World.ownsRow_nil _ _ _ _, rfl, HSB.out, fun y hy => ⟨HMl.out y hy, by simp⟩, HBB.out, by rw [Hn.out]; exact HWB.out, fun g hg => by have := HWL.out g hg; have := HBs2.out; omega, HGB.out, Nat.le_refl _⟩
      have HTB : Hid (w.heap.size + 2 < Bs ∧ gL < Bs ∧ gH < Bs ∧ Bc < Bs) := Lib.hid (by have := HLW.out; have := HBs2.out; omega)
      clear b0 HSB HGB HBB HWB HBdB HBhB HWL HLW HBs2
      obtain ⟨i0, hi, hz0, hz1, hz2⟩ := info_parts info21
      have HI := Lib.hid hi
      have HI0 := Lib.hid hz0
      have HI1 := Lib.hid hz1
      have HI2 := Lib.hid hz2
      clear hi hz0 hz1 hz2
      refine range_own (P := Try.prog) (α := Nat) (gf := 37) (lb := #[.pointer (some ⟨Bd, 0, none⟩), .pointer (some ⟨Bd + 1, 0, none⟩)]) rfl (enters_of Try.func37 (by kernel_rfl) rfl) (Prot := fun _ => False) (fun _ h => h.elim)
        HSq.out (World.grownBy.refl _ _) (by omega) (fun _ => rfl) (fun _ => False) (fun _ h => h.elim)
        (fun pre Ft W => ∃ v D, RI w w.heap.size (w.heap.size + 2) gL gH Bs Bc wr.heap.size wB.heap.size (.slice A4 n cap4) l pre v D Ft W) (fun _ _ _ _ => False)
        ?firm (fun _ _ _ _ _ h _ => h.elim) ?own (fun _ _ _ _ _ h _ => h.elim) (fun _ _ _ _ _ h => h.elim)
        (rfoot Bs (w.heap.size + 2) gL gH (.slice none 0 0)) ⟨_, _, HR0.out⟩ ?hF0 ?a1 ?assign ?body ?done ?stop
      case assign =>
        intro l2 m2 x W2 K hK
        gi_wp2
        exact hK
      case firm =>
        rintro pre Ft W W' ⟨v, D, h⟩ hs
        have := HTB.out
        exact ⟨v, D, h.firm (by omega) (by omega) (by omega) (by omega) (by omega) (by omega) hs⟩
      case own =>
        rintro pre Ft W k' ⟨v, D, h⟩ hk'
        exact h.owned hBsw (by omega) hk'
      case hF0 =>
        have := HTB.out
        rintro k' ((rfl | hk') | rfl | rfl | rfl)
        · omega
        · cases hk'
        · omega
        · omega
        · omega
      case stop =>
        rintro c pre Ft W2 _ h _
        exact h.elim
      case body =>
        rintro l2 m2 pre x Ft W2 ⟨v, D, h⟩ hlen2 hsp
        have hst := HTB.out
        have hcb := h.cbox.cell
        have hsb := h.box.cell
        have hzz := h.siz
        have hx256 : x < 65536 := by
          obtain ⟨r, hr⟩ := hsp
          have := HLt.out x (by rw [← hr]; simp)
          omega
        obtain ⟨Av, cv, rfl⟩ := owns_slice h.row
        obtain ⟨g', cap', w3, hrun, ho, hgr, hft⟩ := run_append_foot (P := Try.prog) (W2.alloc (.cells #[.int .i32 (x : Int)] 21)) wB.heap.size 29 29 21 i0 (.int .i32 0) 1 4 Try.underlying29 HI.out HI0.out HI1.out HI2.out rfl (by decide) (.slice Av pre.length cv) pre.length (nvals pre) (h.row.alloc _) ⟨W2.heap.size, 0, none⟩ 1 [.int .i32 (x : Int)] rfl (cell_new1 W2 21 _) (by simp [Value.oneCell']) (by unfold maxLen; omega) (by omega) (by simp; omega)
        obtain ⟨hb1, hb2, hr2, hst3⟩ := coll_push h.box h.row ho hgr hft
        have hs3 := hst3 (fun _ => False)
        have hcc1 := hb1.cell
        have hff1 := hb1.frozen
        -- the dial is as it was
        have hbn : ∀ k', k' < W2.heap.size → (k' = w.heap.size + 2 ∨ k' = gL ∨ k' = gH) → (w3.setCell ⟨Bs, 0, none⟩ (.slice (some ⟨g', 0, none⟩) (pre.length + 1) cap')).heap[k']? = W2.heap[k']? := by
          intro k' hk' hkk
          refine hs3.stay.block k' hk' ⟨?_, fun h => h⟩
          rintro (rfl | hv)
          · omega
          · have := (h.row.lt _ hv).1; omega
        have hch3 := h.ch.stay hbn
        have hcb3 : Boxed (w3.setCell ⟨Bs, 0, none⟩ (.slice (some ⟨g', 0, none⟩) (pre.length + 1) cap')) Bc 23 (.pointer (some ⟨w.heap.size + 2, 0, none⟩)) := by
          refine (hs3.stay.block Bc h.cbox.lt ⟨?_, fun h => h⟩).trans h.cbox
          rintro (rfl | hv)
          · omega
          · have := (h.row.lt _ hv).1; omega
        have HC6 := Lib.hid (remove_any hch3 hx256)
        have HRun := Lib.hid hrun
        have HH := Lib.hid h
        have HB2 := Lib.hid hb2
        have HR2 := Lib.hid hr2
        have HS3 := Lib.hid hs3
        have hcb4 := hcb3.cell
        clear hrun ho hgr hft hb1 hb2 hr2 hst3 hs3 hch3 hcb3 h hbn hsp
        gi_wp2_with (gi_at_builtin; refine append_in rfl (.tmp 86) (.tmp 88) 29 rfl rfl rfl HRun.out ?_)
        refine (CallsIn.inRound l2 (callsIn_wide.2 HC6.out)).mono ?_
        rintro e w5 ⟨v5, D5, rfl, hs5, hk5, hm5⟩
        have HS5 := Lib.hid hs5
        have HK5 := Lib.hid hk5
        have HM5 := Lib.hid hm5
        clear hs5 hk5 hm5 HC6 hcb4
        gi_wp2
        have hfin := HH.out.step (x := x) (Nat.le_refl _) (by omega) HB2.out HR2.out HS3.out (by omega) hBsw (by omega) (by omega) (by omega) (by omega) (by omega) HHw.out HT3.out HK5.out HS5.out HM5.out
        exact ⟨_, ⟨_, _, hfin.1⟩, hfin.2⟩
      case done =>
        rintro ys Ft W hS ⟨v, D, h⟩ hD
        have hS : ys = l := hS
        subst hS
        have hst := HTB.out
        obtain ⟨Av, cv, rfl⟩ := owns_slice h.row
        have hsee := NRow.of_owns h.row rfl
        have hwas := NRow.of_owns h.was rfl
        have hl0 : D.l = [] := by
          cases hl : D.l with
          | nil => rfl
          | cons y t =>
            have := h.mem y (by rw [hl]; simp)
            exact absurd this.1 this.2
        have c8 : Calls Try.prog 19 #[.slice Av n cv, .slice A4 n cap4] W fun e w' => e = .returned (.bool true) ∧ ∃ q, w' = W.drewN q := by
          have := nodes_at _ _ _ _ W hsee hwas (by rw [Hn.out]; omega) (by rw [Hn.out]; omega)
          rw [show decide (ys = ys) = true from decide_eq_true rfl, Hn.out] at this
          exact this
        have hcb := h.cbox.cell
        have hbx := h.box.cell
        rw [Hn.out] at hbx
        have HC8 := Lib.hid c8
        have HCH := Lib.hid h.ch
        have HGH := Lib.hid h.grown
        have HCB := Lib.hid h.cbox
        have HD0 := Lib.hid hD
        have HL0 := Lib.hid hl0
        clear c8 hsee hwas hD h hl0
        gi_wp2_with fail
        refine (callsIn_wide.2 HC8.out).mono ?_
        rintro e wq ⟨rfl, q, rfl⟩
        have hgq := grown_drewN W q none
        have HCHA := Lib.hid (HCH.out.kept hgq)
        have HGA := Lib.hid (grown_trans HGH.out hgq)
        have HCBA := Lib.hid (HCB.out.kept hgq (by simp))
        have HDA : Hid ((W.drewN q).heap[wB.heap.size]? = some (.deferred (some []))) := Lib.hid HD0.out
        clear hcb hbx HC8 HCH HGH HCB HD0 hgq
        generalize W.drewN q = wA at *
        have hcbA := HCBA.out.cell
        have cD : Calls Try.prog 16 #[.pointer (some ⟨w.heap.size + 2, 0, none⟩)] wA fun e w' => e = .returned (.int .i64 0) ∧ wA = w' := by
          have := len_is HCHA.out
          rw [HL0.out] at this
          exact this
        have HCD := Lib.hid cD
        clear cD
        gi_wp2_with fail
        refine (callsIn_wide.2 HCD.out).mono ?_
        rintro e w' ⟨rfl, rfl⟩
        gi_wp2_with fail
        refine (callsIn_wide.2 (alive_any wA)).mono ?_
        rintro e wE ⟨rfl, hg⟩
        have HGE := Lib.hid (grown_trans HGA.out hg)
        have HDE : Hid (wE.heap[wB.heap.size]? = some (.deferred (some []))) := Lib.hid ((hg.block _ (Array.getElem?_eq_some_iff.1 HDA.out).1 (by simp)).trans HDA.out)
        clear hg HGA HDA hcbA HCD HCBA HCHA
        gi_wp2
        refine ⟨by simp, .inl ⟨_, _, rfl, run_takeDeferred (show wE.heap[Bs + 1]? = some (.deferred (some [])) by rw [← hzB]; exact HDE.out), ?_⟩⟩
        refine ⟨_, results_tmp rfl _ _ _, rfl, ?_⟩
        exact grown_new HGE.out (grownBy_putObj' _ _ _) (by omega)
theorem tells_long (A : Option Addr) (len cap : Nat) (k : Int) (w : World) (h : 60 < len) :
    Calls Try.prog 5 #[.slice A len cap, .int .u8 k] w fun e w' => e = .returned (.bool true) ∧ w.grownBy w' none := by
  have hd : decide (60 < (len : Int)) = true := by simp; omega
  have hd' : decide (60 < len) = true := by simp; omega
  have H := Lib.hid (alive_any w)
  go_enter Try.func5, Try.ntmps5
  go_wp2_with (go_at_call 9; refine H.out.mono ?_; rintro e w' ⟨rfl, hg⟩; have HG := Lib.hid hg; clear hg)
  go_ret
  exact ⟨rfl, HG.out⟩
end Go.Proofs.Ytjligfgaahcogaa
