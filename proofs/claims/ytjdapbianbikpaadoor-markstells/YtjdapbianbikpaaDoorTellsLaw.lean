/-
  The walk of the law that a set is gone through as far as one goes on, and what is done to it meanwhile plays no part.
-/
import Derived.Test.YtjdapbianbikpaaDoorLists2
import Derived.Test.YtjdapbianbikpaaDoorNilLaw
import Derived.Test.YtjdapbianbikpaaDoorRanksLaw
namespace Go.Proofs.YtjdapbianbikpaaDoor
open Go.ChangeShapes Go.WideShapes Go.ChangeAt Go.RowKit Go.Shelf
set_option linter.unusedVariables false
attribute [local go_sem] Oper.semAt_some

theorem natrow_stay {base : Nat} {W W' : World} {v : Value} {xs : List Nat} {S : Nat → Prop} (h : NatRow base W v xs) (hs : Stay S W W') (hS : ∀ g, v.ownBlock = some g → S g) : NatRow base W' v xs := by
  refine ⟨h.1, ?_⟩
  rcases h.2 with h | ⟨g, cap, cur, rfl, hbg, hgb, r⟩
  · exact .inl h
  · exact .inr ⟨g, cap, cur, rfl, hbg, (hs.block g (Array.getElem?_eq_some_iff.1 hgb).1 (hS _ rfl)).trans hgb, r⟩
theorem isset_stay {W W' : World} {b g N : Nat} {m : Nat → Bool} {S : Nat → Prop} (h : IsSet W b g N m) (hs : Stay S W W') (sb : S b) (sg : S g) : IsSet W' b g N m := by
  obtain ⟨cap, ws, h, hm⟩ := h
  exact ⟨cap, ws, h.of_same hs.size (hs.block _ h.blt sb) (hs.block _ h.glt sg), hm⟩
/-- what holds between two rounds: what has come, the set that is changed meanwhile, the list -/
def RInv (w : World) (Bb Bs n0 : Nat) (vw : Value) (L : List Nat) (pre : List Nat) (Ft : Nat → Prop) (W : World) : Prop :=
  ∃ vb m, Boxed W Bb 22 vb ∧ W.ownsRow n0 3 1 vb pre.length (ivals pre) ∧ Ft = (fun k => foot Bb vb k ∨ k = w.heap.size) ∧ IsSet W (w.heap.size + 1) w.heap.size 65536 m ∧ Boxed W Bs 23 (.pointer (some ⟨w.heap.size + 1, 0, none⟩)) ∧ NatRow (w.heap.size + 3) W vw L ∧ w.grownBy W none
theorem rinv_firm (w : World) (Bb Bs n0 : Nat) (vw : Value) (L : List Nat) (h1 : w.heap.size + 1 < n0) (h2 : Bs < n0) (h3 : ∀ g, vw.ownBlock = some g → g < n0) : Firm n0 (RInv w Bb Bs n0 vw L) := by
  rintro pre Ft W W' ⟨vb, m, hb, hr, rfl, hS, hB, hW, hg⟩ hs
  obtain ⟨hb', hr'⟩ := coll_stay hb hr hs fun k hk => .inr (.inl hk)
  refine ⟨vb, m, hb', hr', rfl, isset_stay hS hs (.inl h1) (.inr (.inr rfl)), (hs.block _ hB.lt (.inl h2)).trans hB, natrow_stay hW hs (fun g hg => .inl (h3 g hg)), ?_⟩
  exact ⟨hs.os.trans hg.os, hs.tape.trans hg.tape, hs.output.trans hg.output, Nat.le_trans hg.size hs.size, fun k hk hr => (hs.block k (Nat.lt_of_lt_of_le hk hg.size) (.inl (by omega))).trans (hg.block k hk hr)⟩
theorem isset_cells {W : World} {b g : Nat} {m : Nat → Bool} (h : IsSet W b g 65536 m) : ∃ o : Obj, W.heap[g]? = some o ∧ o.isCells = true := by
  obtain ⟨cap, ws, h, _⟩ := h
  have hc := h.cell 0 (by rw [h.len]; decide)
  unfold World.cell? at hc
  cases ho : W.heap[g]? with
  | none => simp [ho] at hc
  | some o => exact ⟨o, rfl, by cases o <;> simp_all [Obj.isCells]⟩
theorem rinv_owned (w : World) (Bb Bs n0 : Nat) (vw : Value) (L : List Nat) (h1 : w.heap.size ≤ Bb) (h2 : w.heap.size ≤ n0) : Owned w.heap.size (RInv w Bb Bs n0 vw L) := by
  rintro pre Ft W k ⟨vb, m, hb, hr, rfl, hS, _⟩ (hk | rfl)
  · exact coll_owned hb hr h1 h2 hk
  · exact ⟨Nat.le_refl _, isset_cells hS⟩

set_option maxRecDepth 100000 in
set_option maxHeartbeats 4000000 in
theorem tells_walk (A : Option Addr) (len cap : Nat) (zs : List Int) (most : Nat) (w : World) (hl : zs.length = len) (hz : ∀ j : Nat, 0 ≤ zs[j]?.getD 0 ∧ zs[j]?.getD 0 ≤ 65535) (hr : RowAt .u16 (fun b => b < w.heap.size) w A zs)
    (hm : most ≤ 255) (ht : Tab w) (h0 : 0 < w.heap.size) (hlen : len ≤ 200) :
    Calls Tryd.prog 5 #[.slice A len cap, .int .u8 (most : Int)] w fun e w' => e = .returned (.bool true) ∧ w.grownBy w' none := by
  refine (callsIn_wide (n := 3)).1 ?_
  have hF : ∀ k, WF.fn k := fun _ => trivial
  have hDp : WF.depth.isSome = false := rfl
  have Hl := Lib.hid hl
  have Hz := Lib.hid hz
  have Hr := Lib.hid hr
  have Ht := Lib.hid ht
  clear hl hz hr ht
  have hd : decide (200 < (len : Int)) = false := by simp; omega
  have hd' : decide (200 < len) = false := by simp; omega
  refine callsIn_of_wp_marks Tryd.func5 rfl trivial ?_ rfl
  simp only [Tryd.ntmps5, List.size_toArray, List.length_cons, List.length_nil, Nat.reduceAdd, Nat.reduceSub, Array.replicate_succ, Array.replicate_zero, List.push_toArray, List.append_toArray, List.nil_append, List.cons_append]
  gi_wp2_with (gi_at_call 7; refine (callsIn_wide.2 (new_at 65536 _ (by decide))).mono ?_; rintro e w1 ⟨rfl, hg1, hz1, hs1⟩; have HG1 := Lib.hid hg1; have HS1 := Lib.hid hs1; have Hz1 := Lib.hid hz1; clear hg1 hz1 hs1)
  have HGb : Hid (w.grownBy (w1.alloc (.cells #[.pointer (some ⟨w.heap.size + 1, 0, none⟩)] 23)) none) := Lib.hid (grown_trans HG1.out (World.grownBy_alloc _ _ none))
  have HSb := Lib.hid (HS1.out.kept (World.grownBy_alloc w1 (.cells #[.pointer (some ⟨w.heap.size + 1, 0, none⟩)] 23) none) (by simp) (by simp))
  have HBb := Lib.hid (Boxed.new w1 23 (.pointer (some ⟨w.heap.size + 1, 0, none⟩)))
  have HZb : Hid (w.heap.size + 3 ≤ (w1.alloc (.cells #[.pointer (some ⟨w.heap.size + 1, 0, none⟩)] 23)).heap.size) := Lib.hid (by rw [World.size_alloc, Hz1.out]; exact Nat.le_refl _)
  obtain ⟨Bs, HBs⟩ : ∃ Bs, Hid (w1.heap.size = Bs) := ⟨_, Lib.hid rfl⟩
  have hBs : Bs = w.heap.size + 2 := by rw [← HBs.out, Hz1.out]
  have hBs1 : w.heap.size + 1 < Bs := by omega
  have hBs2 : Bs < w.heap.size + 3 := by omega
  rw [HBs.out] at HBb ⊢
  clear hBs HG1 HS1 Hz1
  generalize w1.alloc (.cells #[.pointer (some ⟨w.heap.size + 1, 0, none⟩)] 23) = wb at *
  gi_loopw [7, 32] (fun v k wr => ∃ k' : Nat, k' ≤ len ∧ k = .int .i64 (k' : Int) ∧ Hid (IsSet wr (w.heap.size + 1) w.heap.size 65536 (mof (zs.take k'))) ∧ Hid (NatRow (w.heap.size + 3) wr v (els (mof (zs.take k')) 65536)) ∧ Hid (w.grownBy wr none) ∧ Hid (Boxed wr Bs 23 (.pointer (some ⟨w.heap.size + 1, 0, none⟩))) ∧ Hid (w.heap.size + 3 ≤ wr.heap.size)) (fun _ k _ => len - (intOf k).toNat)
  case atStart => exact ⟨0, by omega, by go_num, Lib.hid (by rw [List.take_zero, mof_nil]; exact HSb.out), Lib.hid (by rw [List.take_zero, mof_nil, show els (fun _ => false) 65536 = [] by unfold els; exact List.filter_eq_nil_iff.2 (by simp)]; exact NatRow.nil _ _), HGb, HBb, HZb⟩
  case round =>
    obtain ⟨k, hk, rfl, HS, HV, HG, HB, HZ⟩ := hrel
    clear HSb HGb HBb HZb
    by_cases hlt : k < len
    · obtain ⟨b, off, rfl, hb, _, hc⟩ := Hr.out.some (by rw [Hl.out]; omega)
      have hcell := HG.out.cell (hc k (by rw [Hl.out]; exact hlt)) (by simp)
      have hkI : (k : Int) < (len : Int) := by omega
      have hb0 := (Hz.out k).1
      have hb1 := (Hz.out k).2
      have HM := Lib.hid (mof_put (zs.take k) (zs[k]?.getD 0) 65536 hb0 (by omega))
      have HT2 := Lib.hid (take_more zs k (by rw [Hl.out]; exact hlt))
      generalize zs[k]?.getD 0 = z at *
      clear hc
      have hcb := HB.out.cell
      gi_wp2_with (gi_at_call 13; refine (callsIn_wide.2 (put_at wr _ _ 65536 _ z HS.out)).mono ?_; rintro e w2 ⟨rfl, hg2, hs2⟩; have HG2 := Lib.hid hg2; have HS2 := Lib.hid hs2; clear hg2 hs2)
      refine (callsIn_wide.2 (withN_at (w.heap.size + 3) (w.heap.size + 3) 65536 _ _ z w2 (HV.out.kept HG2.out (fun r e => by cases e; omega)) (by decide) hb0 (by omega) (Nat.le_trans HZ.out HG2.out.size))).mono ?_
      rintro e w3 ⟨v3, rfl, hv3, hg3⟩
      have HG3 := Lib.hid hg3
      have HV3 := Lib.hid hv3
      clear hg3 hv3
      have HB3 : Hid (Boxed w3 Bs 23 (.pointer (some ⟨w.heap.size + 1, 0, none⟩))) := Lib.hid ((HB.out.kept HG2.out (fun e => by have := Option.some.inj e; omega)).kept HG3.out (by simp))
      have HS3 := Lib.hid (HS2.out.kept HG3.out (by simp) (by simp))
      have HGn := Lib.hid (grown_trans (grown_new HG.out HG2.out (Nat.le_refl _)) HG3.out)
      have HZn := Lib.hid (Nat.le_trans HZ.out (Nat.le_trans HG2.out.size HG3.out.size))
      have HM2 := Lib.hid (HM.out.trans (by rw [← HT2.out]))
      gi_wp2
      go_roundw
      case rel => exact ⟨k + 1, by omega, by go_num, Lib.hid (by rw [← HM2.out]; exact HS3.out), Lib.hid (by rw [← HM2.out]; exact HV3.out), HGn, HB3, HZn⟩
      case measure => simp [intOf]; omega
    · obtain rfl : k = len := by omega
      rw [List.take_of_length_le (by rw [Hl.out]; exact Nat.le_refl _)] at HS HV
      generalize mof zs = m at *
      clear Hl Hz Hr hlt hk
      have HT : Hid (Tab wr) := Lib.hid (Ht.out.kept HG.out (by simp))
      have h0r : 0 < wr.heap.size := by have := HZ.out; omega
      have hcb := HB.out.cell
      obtain ⟨A7, c7, rfl, hr7, hc7⟩ := HV.out.slice
      have hL : (els m 65536).length ≤ 65536 := by rw [els_length]; exact cn_le m _
      have HL := Lib.hid hL
      obtain ⟨n7, Hn7⟩ : ∃ n7, Hid ((els m 65536).length = n7) := ⟨_, Lib.hid rfl⟩
      rw [Hn7.out] at hc7 HV hL ⊢
      have Hr7 := Lib.hid hr7
      clear hr7
      obtain ⟨kk, Hkk⟩ : ∃ kk, Hid (min n7 most = kk) := ⟨_, Lib.hid rfl⟩
      have hkk1 : kk ≤ n7 := by rw [← Hkk.out]; omega
      have hkk2 : kk ≤ most := by rw [← Hkk.out]; omega
      have hkk3 : kk ≤ c7 := by omega
      have hmin : (if (most : Int) < (n7 : Int) then (most : Int) else (n7 : Int)) = (kk : Int) := by rw [← Hkk.out]; split <;> omega
      have hmin2 : (if most < n7 then (most : Int) else (n7 : Int)) = (kk : Int) := by rw [← Hkk.out]; split <;> omega
      gi_wp2_with (first
        | (gi_at_call 19; refine (callsIn_wide.2 (told_set wr _ _ 65536 most m HS.out HT.out h0r (by omega))).mono ?_; rintro e w2 ⟨v2, rfl, hown, hg2⟩; have HG2 := Lib.hid hg2; have HO2 := Lib.hid hown; have hcb2 := hg2.cell hcb (by simp); clear hown hg2)
        | (gi_at_call 20; refine (callsIn_wide.2 (all_any _ _)).mono ?_; rintro e w3 ⟨rfl, rfl⟩))
      have hz2 := HG2.out.size
      have HGA : Hid (wr.grownBy (w2.alloc (.cells #[.pointer (some ⟨w.heap.size + 1, 0, none⟩)] 23)) none) := Lib.hid (grown_trans HG2.out (World.grownBy_alloc _ _ none))
      have HRw : Hid (RowAt .i64 (fun b => w.heap.size + 3 ≤ b) (w2.alloc (.cells #[.pointer (some ⟨w.heap.size + 1, 0, none⟩)] 23)) A7 (ci ((els m 65536).take kk))) := Lib.hid (by rw [← ci_take]; exact (Hr7.out.kept HGA.out (by simp)).take kk)
      obtain ⟨A2, c2, rfl, hra, _⟩ := NatRow.slice (show NatRow wr.heap.size w2 v2 ((els m 65536).take most) from HO2.out)
      have HRa := Lib.hid (hra.kept (World.grownBy_alloc w2 (.cells #[.pointer (some ⟨w.heap.size + 1, 0, none⟩)] 23) none) (by simp))
      clear hra HO2
      have HAA : Hid (w2.heap.size = w2.heap.size) := Lib.hid rfl
      have htk : (els m 65536).take most = (els m 65536).take kk := by
        rw [← Hkk.out, ← Hn7.out]
        by_cases h : (els m 65536).length ≤ most
        · rw [Nat.min_eq_left h, List.take_of_length_le h, List.take_of_length_le (Nat.le_refl _)]
        · rw [Nat.min_eq_right (by omega)]
      rw [htk] at HRa ⊢
      have hkl : ((els m 65536).take kk).length = kk := by rw [List.length_take, Hn7.out]; omega
      have hI := ints_at _ _ A2 A7 c2 c7 (ci ((els m 65536).take kk)) (ci ((els m 65536).take kk)) _ HRa.out HRw.out (by rw [ci_length, hkl]; omega) (by rw [ci_length, hkl]; omega)
      rw [ci_length, hkl, decide_eq_true rfl] at hI
      have HI := Lib.hid hI
      rw [hkl]
      clear htk hkl hI HRa HRw
      have hfn := fun w' => run_eql_func_nil (P := Tryd.prog) w' (.func 32) #[] #[.pointer (some ⟨w2.heap.size, 0, none⟩)] Tryd.underlying43
      refine (callsIn_wide.2 HI.out).mono ?_
      rintro e w' ⟨rfl, q, rfl⟩
      gi_wp2
      -- the world where the loop begins
      have hgB : wr.grownBy (((w2.alloc (.cells #[.pointer (some ⟨w.heap.size + 1, 0, none⟩)] 23)).drewN q).alloc (.cells #[.slice none 0 0] 22)) none := grown_trans (grown_trans HGA.out (grown_drewN _ q none)) (World.grownBy_alloc _ _ none)
      have hzB : (((w2.alloc (.cells #[.pointer (some ⟨w.heap.size + 1, 0, none⟩)] 23)).drewN q).alloc (.cells #[.slice none 0 0] 22)).heap.size = w2.heap.size + 2 := by
        rw [World.size_alloc]; show (w2.alloc _).heap.size + 1 = _; rw [World.size_alloc]
      have bA : (((w2.alloc (.cells #[.pointer (some ⟨w.heap.size + 1, 0, none⟩)] 23)).drewN q).alloc (.cells #[.slice none 0 0] 22)).cell? ⟨w2.heap.size, 0, none⟩ = some (.pointer (some ⟨w.heap.size + 1, 0, none⟩)) :=
        (grown_trans (grown_drewN _ q none) (World.grownBy_alloc _ _ none)).cell (Boxed.new w2 23 (.pointer (some ⟨w.heap.size + 1, 0, none⟩))).cell (by simp)
      have bL : Boxed (((w2.alloc (.cells #[.pointer (some ⟨w.heap.size + 1, 0, none⟩)] 23)).drewN q).alloc (.cells #[.slice none 0 0] 22)) (w2.heap.size + 1) 22 (.slice none 0 0) := by
        have := Boxed.new ((w2.alloc (.cells #[.pointer (some ⟨w.heap.size + 1, 0, none⟩)] 23)).drewN q) 22 (.slice none 0 0)
        rwa [show ((w2.alloc (.cells #[.pointer (some ⟨w.heap.size + 1, 0, none⟩)] 23)).drewN q).heap.size = w2.heap.size + 1 by show (w2.alloc _).heap.size = _; rw [World.size_alloc]] at this
      generalize ((w2.alloc (.cells #[.pointer (some ⟨w.heap.size + 1, 0, none⟩)] 23)).drewN q).alloc (.cells #[.slice none 0 0] 22) = wB at *
      have hzr := HZ.out
      have HSB := Lib.hid (HS.out.kept hgB (by simp) (by simp))
      have HTB := Lib.hid (HT.out.kept hgB (by simp))
      have HBB := Lib.hid (HB.out.kept hgB (by simp))
      have HVB := Lib.hid (HV.out.kept hgB (by simp))
      have HGB := Lib.hid (grown_trans HG.out hgB)
      have h7 : ∀ g, (Value.slice A7 n7 c7).ownBlock = some g → g < wB.heap.size := fun g hg => (HVB.out.lt g hg).2
      have H7 := Lib.hid h7
      have HbL := Lib.hid bL
      have HbA := Lib.hid bA
      have HzB := Lib.hid hzB
      clear h7 bL bA hgB HI hfn
      obtain ⟨i0, hi, hz0, hz1, hz2'⟩ := info_parts info3
      have HI := Lib.hid hi
      have HI0 := Lib.hid hz0
      have HI1 := Lib.hid hz1
      have HI2 := Lib.hid hz2'
      clear hi hz0 hz1 hz2'
      refine range_own (P := Tryd.prog) (α := Nat) (gf := 32) (lb := #[.pointer (some ⟨w2.heap.size, 0, none⟩)]) rfl (enters_of Tryd.func32 (by kernel_rfl) rfl)
        (all_seq w.heap.size w2.heap.size (w.heap.size + 1) w.heap.size 65536 m wB h0 HbA.out HSB.out HTB.out) (World.grownBy.refl _ _) (by omega) (fun _ => rfl) (fun _ => False) (fun _ h => h.elim)
        (RInv w (w2.heap.size + 1) Bs wB.heap.size (.slice A7 n7 c7) (els m 65536)) (fun _ _ _ _ => False)
        (rinv_firm w _ _ _ _ _ (by omega) (by omega) H7.out) (fun _ _ _ _ _ h _ => h.elim) (rinv_owned w _ _ _ _ _ (by omega) (by omega)) (fun _ _ _ _ _ h _ => h.elim)
        (fun k => foot (w2.heap.size + 1) (.slice none 0 0) k ∨ k = w.heap.size) ⟨_, m, HbL.out, World.ownsRow_nil _ _ _ _, rfl, HSB.out, HBB.out, HVB.out, HGB.out⟩ ?hF0 ?a1 ?assign ?body ?done ?stop
      case assign =>
        intro l2 m2 x W2 K hK
        gi_wp2
        exact hK
      case hF0 =>
        rintro k' ((rfl | hk') | rfl)
        · omega
        · cases hk'
        · omega
      case stop =>
        rintro c pre Ft W2 _ h _
        exact h.elim
      case body =>
        rintro l2 m2 pre x Ft W2 ⟨vb, mb, hb, hr, rfl, hS, hB, hW, hg⟩ hlen2
        have hcb2 := hb.cell
        have hzz := hb.lt
        obtain ⟨g', cap', w3, hrun, ho, hgr, hft⟩ := run_append_foot (P := Tryd.prog) (W2.alloc (.cells #[.int .i64 (x : Int)] 3)) wB.heap.size 22 22 3 i0 (.int .i64 0) 8 Tryd.underlying22 HI.out HI0.out HI1.out HI2.out rfl vb pre.length (ivals pre) (hr.alloc _) ⟨W2.heap.size, 0, none⟩ 1 (.int .i64 (x : Int)) (cell_one_new _ _ _) rfl (by unfold maxLen; omega) (by omega) (by simp; omega)
        obtain ⟨hb1, hb2, hr2, hst⟩ := coll_push hb hr ho hgr hft
        have hcc1 := hb1.cell
        have hff1 := hb1.frozen
        have hst0 := hst (fun _ => False)
        have nB : ¬ foot (w2.heap.size + 1) vb Bs := by
          rintro (h | h)
          · omega
          · have := (hr.lt _ h).1; omega
        have nb : ¬ foot (w2.heap.size + 1) vb (w.heap.size + 1) := by
          rintro (h | h)
          · omega
          · have := (hr.lt _ h).1; omega
        have ng : ¬ foot (w2.heap.size + 1) vb w.heap.size := by
          rintro (h | h)
          · omega
          · have := (hr.lt _ h).1; omega
        have n7 : ∀ g, (Value.slice A7 n7 c7).ownBlock = some g → ¬ foot (w2.heap.size + 1) vb g := by
          rintro g hg7 (h | h)
          · have h9 := H7.out g hg7
            have h8 := (HVB.out.lt g hg7).1
            subst h
            have h6 : (Value.slice A7 n7 c7).ownBlock ≠ some (w2.heap.size + 1) := fun e => HbL.out.not_row (by decide) HVB.out e.symm
            exact h6 hg7
          · have h9 := H7.out g hg7
            have := (hr.lt _ h).1; omega
        have HS4 := Lib.hid (isset_stay hS hst0.stay ⟨nb, fun h => h⟩ ⟨ng, fun h => h⟩)
        have hB4 : Boxed (w3.setCell ⟨w2.heap.size + 1, 0, none⟩ (.slice (some ⟨g', 0, none⟩) (pre.length + 1) cap')) Bs 23 (.pointer (some ⟨w.heap.size + 1, 0, none⟩)) := (hst0.stay.block _ hB.lt ⟨nB, fun h => h⟩).trans hB
        have HW4 := Lib.hid (natrow_stay hW hst0.stay (fun g hg7 => ⟨n7 g hg7, fun h => h⟩))
        have HG4 := Lib.hid (grown_step hg hst0 (fun k hk => (coll_owned hb hr (lo := w.heap.size) (by omega) (by omega) hk).1) (fun _ h => h))
        have HR := Lib.hid hrun
        have HB2 := Lib.hid hb2
        have HR2 := Lib.hid hr2
        have HST := Lib.hid hst
        have hg'ge : wB.heap.size ≤ g' := (ho.lt g' rfl).1
        have hcB4 := hB4.cell
        have HB4 := Lib.hid hB4
        clear hrun ho hgr hft hb1 hb2 hr2 hst hst0 nB nb ng n7 hB4 hS hB hW hg hb hr
        gi_wp2_with (gi_at_builtin; refine append_in rfl (.tmp 75) (.tmp 77) 22 rfl rfl rfl HR.out ?_)
        refine (CallsIn.inRound l2 (callsIn_wide.2 (put_at _ _ _ 65536 mb 65535 HS4.out))).mono ?_
        rintro e w5 ⟨rfl, hg5, hs5⟩
        have hB5 := HB4.out.kept hg5 (fun e => by have := Option.some.inj e; omega)
        have hcB5 := hB5.cell
        have HB5 := Lib.hid hB5
        have HG5 := Lib.hid hg5
        have HS5 := Lib.hid hs5
        clear hB5 hg5 hs5 hcB4
        gi_wp2_with fail
        refine (CallsIn.inRound l2 (callsIn_wide.2 (drop_at w5 _ _ 65536 _ (x : Int) HS5.out))).mono ?_
        rintro e w6 ⟨rfl, hg6, hs6⟩
        have HG6 := Lib.hid hg6
        have HS6 := Lib.hid hs6
        clear hg6 hs6
        gi_wp2
        have hgg : (w3.setCell ⟨w2.heap.size + 1, 0, none⟩ (.slice (some ⟨g', 0, none⟩) (pre.length + 1) cap')).grownBy w6 (some w.heap.size) := grown_trans HG5.out HG6.out
        have hne' : ∀ k', foot (w2.heap.size + 1) (.slice (some ⟨g', 0, none⟩) (pre.length + 1) cap') k' → k' ≠ w.heap.size := by
          rintro k' (rfl | h) e
          · omega
          · have : g' = k' := by injection h
            omega
        obtain ⟨hb6, hr6⟩ := coll_stay HB2.out HR2.out (Stay.of_grown hgg (S := fun k' => k' ≠ w.heap.size) (fun r e _ h => h (Option.some.inj e).symm)) hne'
        have hst1 : Step (fun _ => False) (fun k' => foot (w2.heap.size + 1) vb k' ∨ k' = w.heap.size) (fun k' => foot (w2.heap.size + 1) (.slice (some ⟨g', 0, none⟩) (pre.length + 1) cap') k' ∨ k' = w.heap.size) W2 (w3.setCell ⟨w2.heap.size + 1, 0, none⟩ (.slice (some ⟨g', 0, none⟩) (pre.length + 1) cap')) := by
          refine ⟨(HST.out (fun _ => False)).stay.weaken (fun k' _ hk' => ⟨fun h => hk'.1 (.inl h), hk'.2⟩), fun k' hk' => ?_⟩
          rcases hk' with hk' | hk'
          · rcases (HST.out (fun _ => False)).foot k' hk' with h | h
            · exact .inl (.inl h)
            · exact .inr h
          · exact .inl (.inr hk')
        have hst2 : Step (fun _ => False) (fun k' => foot (w2.heap.size + 1) (.slice (some ⟨g', 0, none⟩) (pre.length + 1) cap') k' ∨ k' = w.heap.size) (fun k' => foot (w2.heap.size + 1) (.slice (some ⟨g', 0, none⟩) (pre.length + 1) cap') k' ∨ k' = w.heap.size) (w3.setCell ⟨w2.heap.size + 1, 0, none⟩ (.slice (some ⟨g', 0, none⟩) (pre.length + 1) cap')) w6 :=
          ⟨Stay.of_grown hgg (fun r e _ h => h.1 (.inr (Option.some.inj e).symm)), fun k' hk' => .inl hk'⟩
        refine ⟨_, ⟨_, _, hb6, hr6, rfl, HS6.out, (HB5.out.kept HG6.out (fun e => by have := Option.some.inj e; omega)), natrow_stay HW4.out (Stay.of_grown hgg (S := fun k' => k' ≠ w.heap.size) (fun r e _ h => h (Option.some.inj e).symm)) (fun g hg7 => by have := (HVB.out.lt g hg7).1; omega), grown_new HG4.out hgg (Nat.le_refl _)⟩, hst1.trans hst2⟩
      case done =>
        rintro ys Ft W2 rfl ⟨vb, mb, hb, hr, rfl, hS, hB, hW, hg⟩ hD
        have hcb2 := hb.cell
        have HR := Lib.hid (show NatRow wB.heap.size W2 vb (els m 65536) from hr)
        have HW := Lib.hid hW
        have HG2' := Lib.hid hg
        have HD := Lib.hid hD
        have HTd : Hid (Tab W2) := Lib.hid (Ht.out.kept hg (by simp))
        have h0d : 0 < W2.heap.size := by have := hb.lt; omega
        clear hb hr hS hB hW hg hD
        gi_wp2_with (gi_at_call 21; refine (callsIn_wide.2 (intsN_at _ _ _ _ (els m 65536) (els m 65536) W2 HR.out HW.out (Nat.le_trans HL.out (by decide)) (Nat.le_trans HL.out (by decide)))).mono ?_; rintro e w' ⟨rfl, q9, rfl⟩; rw [decide_eq_true rfl])
        refine (callsIn_wide.2 (alive_any _ (HTd.out.kept (grown_drewN W2 q9 none) (by simp)) h0d)).mono ?_
        rintro e w9 ⟨rfl, hg9⟩
        have hg9' : W2.grownBy w9 none := grown_trans (grown_drewN W2 q9 none) hg9
        have HD9 : Hid (w9.heap[wB.heap.size]? = some (.deferred (some []))) := Lib.hid ((hg9'.block _ (Array.getElem?_eq_some_iff.1 HD.out).1 (by simp)).trans HD.out)
        have HG9 := Lib.hid (grown_trans HG2'.out hg9')
        clear hg9 hg9'
        gi_wp2
        refine ⟨by simp, .inl ⟨_, _, rfl, run_takeDeferred (show w9.heap[w2.heap.size + 2]? = some (.deferred (some [])) by rw [← hzB]; exact HD9.out), ?_⟩⟩
        exact ⟨_, results_tmp rfl _ _ _, rfl, grown_new HG9.out (grownBy_putObj' _ _ _) (by omega)⟩
set_option maxHeartbeats 400000 in
theorem tells_long (A : Option Addr) (len cap : Nat) (most : Int) (w : World) (ht : Tab w) (h0 : 0 < w.heap.size) (hlen : 200 < len) :
    Calls Tryd.prog 5 #[.slice A len cap, .int .u8 most] w fun e w' => e = .returned (.bool true) ∧ w.grownBy w' none := by
  have Ht := Lib.hid ht
  clear ht
  have hd : decide (200 < (len : Int)) = true := by simp; omega
  have hd' : decide (200 < len) = true := by simp; omega
  go_enter Tryd.func5, Tryd.ntmps5
  go_wp2_with fail
  refine (new_at 65536 _ (by decide)).mono ?_
  rintro e w1 ⟨rfl, hg1, hz1, hs1⟩
  have HG1 := Lib.hid hg1
  have hz1' : w.heap.size < w1.heap.size := by omega
  clear hg1 hz1 hs1
  go_wp2_with fail
  refine (alive_any _ ((Ht.out.kept HG1.out (by simp)).kept (World.grownBy_alloc _ _ none) (by simp)) (by simp)).mono ?_
  rintro e w6 ⟨rfl, hg6⟩
  have HG6 := Lib.hid hg6
  clear hg6
  go_wp2
  go_ret
  exact ⟨rfl, grown_trans (grown_trans HG1.out (World.grownBy_alloc _ _ none)) HG6.out⟩
theorem marksTells_law (a0 : Option Addr) (len0 cap0 : Nat) (z0 : List Int) (a1 : Int) (w : World) (w0 : IsRow .u16 w a0 len0 cap0 z0) (w1 : (Lit.int .u8 a1).wf = true) (ht : Tab w) (h0 : 0 < w.heap.size) :
    Calls Tryd.prog 5 #[.slice a0 len0 cap0, .int .u8 a1] w fun e w' => e = .returned (.bool true) ∧ Below w.heap.size w w' := by
  have hb := bounds_u8 w1
  have key : Calls Tryd.prog 5 #[.slice a0 len0 cap0, .int .u8 a1] w fun e w' => e = .returned (.bool true) ∧ w.grownBy w' none := by
    obtain ⟨ys, hl, hw, hr⟩ := w0.row
    by_cases hlen : len0 ≤ 200
    · obtain ⟨mo, rfl⟩ := Int.eq_ofNat_of_zero_le hb.1
      exact tells_walk a0 len0 cap0 ys mo w hl (range_u16 hw) hr (by omega) ht h0 hlen
    · exact tells_long a0 len0 cap0 a1 w ht h0 (by omega)
  exact key.mono fun _ _ ⟨he, hg⟩ => ⟨he, grown_below hg (Nat.le_refl _) (by simp)⟩
end Go.Proofs.YtjdapbianbikpaaDoor
