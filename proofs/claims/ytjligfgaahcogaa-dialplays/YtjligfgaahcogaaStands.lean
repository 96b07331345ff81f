/-
  The law's look at a dial, around from a hand and at a node: it is the document's.
-/
import Derived.Test.YtjligfgaahcogaaRefF
namespace Go.Proofs.Ytjligfgaahcogaa
open Go.ChangeShapes Go.WideShapes Go.ChangeAt Go.RowKit
set_option linter.unusedVariables false
set_option maxRecDepth 100000

theorem quiet_drew {P : Program} {f : FuncId} {args : Array Value} {w : World} {n : Nat} {v : Value}
    (h : Calls P f args (w.drewN n) fun e w' => e = .returned v ∧ ∃ q, w' = (w.drewN n).drewN q) : Calls P f args (w.drewN n) fun e w'' => e = .returned v ∧ ∃ m, w'' = w.drewN m :=
  h.mono fun _ _ ⟨he, q, hm⟩ => ⟨he, n + q, by rw [hm, World.drewN_drewN]⟩
theorem quiet_same {P : Program} {f : FuncId} {args : Array Value} {w : World} {n : Nat} {v : Value}
    (h : Calls P f args (w.drewN n) fun e w' => e = .returned v ∧ w.drewN n = w') : Calls P f args (w.drewN n) fun e w'' => e = .returned v ∧ ∃ m, w'' = w.drewN m :=
  h.mono fun _ _ ⟨he, hm⟩ => ⟨he, n, hm.symm⟩
section
variable {w : World} {D : Dl} {lo b gL gH lr : Nat} {vL vH : Value}
set_option maxHeartbeats 1000000 in
theorem stands_at (hc : IsD w lo b gL gH D) (hr : RefAt lr w D vL vH) (hl1000 : D.l.length ≤ 1000) (hand n : Int) (hn : i32in n) :
    Calls Try.prog 12 #[.pointer (some ⟨b, 0, none⟩), refV D vL vH, .int .i64 hand, .int .i32 n] w fun e w' => e = .returned (.bool true) ∧ w.grownBy w' none := by
  have hok := hc.ok
  have hM8 := hc.m8
  have HAr := Lib.hid (fun w' (hg : w.grownBy w' none) => raround_at (hr.kept hg) hok hc.few hM8.2 hand)
  have HPl := Lib.hid (fun w' (hg : w.grownBy w' none) => rplace_at (hr.kept hg) hc.few n)
  have HGp := Lib.hid (fun w' (hg : w.grownBy w' none) x y => rgap_at (hr.kept hg) hok hc.few hM8.2 x y)
  have HHr := Lib.hid hr
  have HC := Lib.hid hc
  have HOk := Lib.hid hok
  obtain ⟨bH, oH, cH, rfl, _⟩ := hr.h
  obtain ⟨A, c, rfl, hlc, _, _, hrow⟩ := hr.l
  obtain ⟨L, HL⟩ : ∃ L, Hid (D.l.length = L) := ⟨_, Lib.hid rfl⟩
  obtain ⟨M, HM⟩ : ∃ M, Hid (D.hs.length = M) := ⟨_, Lib.hid rfl⟩
  obtain ⟨N, HN⟩ : ∃ N, Hid (D.N = N) := ⟨_, Lib.hid rfl⟩
  have HRV : Hid (refV D (.slice A D.l.length c) (.slice (some ⟨bH, oH, none⟩) D.hs.length cH) = .agg #[.int .i64 (N : Int), .slice A L c, .slice (some ⟨bH, oH, none⟩) M cH]) := Lib.hid (by unfold refV; rw [HL.out, HM.out, HN.out])
  rw [HRV.out] at HAr HPl HGp ⊢
  rw [HL.out] at hl1000
  obtain ⟨xs, Hxs⟩ : ∃ xs, Hid (D.around hand = xs) := ⟨_, Lib.hid rfl⟩
  have HXl : Hid (xs.length ≤ 1000) := Lib.hid (by have := D.around_len hand; rw [Hxs.out, HL.out] at this; omega)
  have hg0 := World.grownBy_alloc w (.cells #[.int .i64 (N : Int), .slice A L c, .slice (some ⟨bH, oH, none⟩) M cH] 32) none
  have b0 := heap_alloc_new w (.cells #[.int .i64 (N : Int), .slice A L c, .slice (some ⟨bH, oH, none⟩) M cH] 32)
  have HG0 := Lib.hid hg0
  have HB0 := Lib.hid b0
  have HRow := Lib.hid hrow
  obtain ⟨c00, c01, c02, _, _, _, l0⟩ := cells3 b0
  clear hc hr hok hM8 hg0 b0 hrow hlc
  go_enter Try.func12, Try.ntmps12
  go_wp2_with fail
  generalize w.alloc (.cells #[.int .i64 (N : Int), .slice A L c, .slice (some ⟨bH, oH, none⟩) M cH] 32) = w0 at *
  have ha := HAr.out w0 HG0.out
  rw [Hxs.out] at ha
  refine ha.mono ?_
  rintro e w1 ⟨Aw, cw, rfl, hnw, hsw, hg1⟩
  have HNw := Lib.hid hnw
  have HG1 := Lib.hid (grown_trans HG0.out hg1)
  have HB1 := Lib.hid (kept2 HB0.out hg1)
  have HSw := Lib.hid hsw
  obtain ⟨n0, Hn0⟩ : ∃ n0, Hid (xs.length = n0) := ⟨_, Lib.hid rfl⟩
  rw [Hn0.out] at HNw HXl ⊢
  clear ha hnw hsw hg1 c00 c01 c02 l0 HAr HB0 HG0
  have ht := told_is (HC.out.kept HG1.out) hand 1000 (by decide)
  rw [Hxs.out] at ht
  have HT : Hid (Calls Try.prog 15 #[.pointer (some ⟨b, 0, none⟩), .int .i64 hand, .int .i64 1000] w1 (ToldPost w1 xs 1000)) := Lib.hid ht
  clear ht
  go_wp2_with fail
  refine HT.out.mono ?_
  rintro e w2 ⟨vt, rfl, hrt, hg2⟩
  rw [List.take_of_length_le (by rw [Hn0.out]; exact HXl.out)] at hrt
  have HNt := Lib.hid (NRow.of_owns hrt rfl)
  obtain ⟨At, ct, rfl⟩ := owns_slice hrt
  rw [Hn0.out] at HNt ⊢
  have HG2 := Lib.hid (grown_trans HG1.out hg2)
  have HB2 := Lib.hid (kept2 HB1.out hg2)
  have HNw2 := Lib.hid (HNw.out.kept hg2)
  clear hrt hg2 HT HNw HB1 HG1
  have hat := at_is (HC.out.kept HG2.out) hand
  rw [Hxs.out, tupO_eq] at hat
  obtain ⟨a0, Ha0⟩ : ∃ a0, Hid (xs[0]?.getD 0 = a0) := ⟨_, Lib.hid rfl⟩
  obtain ⟨s0, Hs0⟩ : ∃ s0, Hid (xs[0]?.isSome = s0) := ⟨_, Lib.hid rfl⟩
  rw [Ha0.out, Hs0.out] at hat
  have HAt := Lib.hid hat
  clear hat
  go_wp2_with fail
  refine HAt.out.mono ?_
  rintro e w' ⟨rfl, rfl⟩
  have HNo : Hid (∀ q, Calls Try.prog 19 #[.slice At n0 ct, .slice Aw n0 cw] (w2.drewN q) fun e w' => e = .returned (.bool true) ∧ ∃ m, w' = (w2.drewN q).drewN m) := Lib.hid fun q => by
    have := nodes_at _ _ _ _ (w2.drewN q) (HNt.out.kept (grown_drewN w2 q none)) (HNw2.out.kept (grown_drewN w2 q none)) (by rw [Hn0.out]; have := HXl.out; omega) (by rw [Hn0.out]; have := HXl.out; omega)
    rw [show decide (xs = xs) = true from decide_eq_true rfl] at this
    exact this
  have HLn : Hid (∀ q, Calls Try.prog 16 #[.pointer (some ⟨b, 0, none⟩)] (w2.drewN q) fun e w' => e = .returned (.int .i64 (L : Int)) ∧ w2.drewN q = w') := Lib.hid fun q => by
    have := len_is (HC.out.kept (grown_trans HG2.out (grown_drewN w2 q none)))
    rw [HL.out] at this
    exact this
  obtain ⟨c00, c01, c02, _, _, _, l0⟩ := cells3 HB2.out
  clear HAt
  go_wp2_with fail
  go_cut [72] from 32 to 72 (fun v wc => v = .bool false ∧ Hid (w2.grownBy wc none))
  case first =>
    cases hxs : xs with
    | nil =>
      have hn00 : n0 = 0 := by rw [← Hn0.out, hxs]; rfl
      subst hn00
      have ha0 : a0 = 0 := by rw [← Ha0.out, hxs]; rfl
      have hs0 : s0 = false := by rw [← Hs0.out, hxs]; rfl
      clear Ha0 Hs0 hxs
      subst ha0 hs0
      go_quiet (first | (go_at_call 19; exact quiet_drew (HNo.out _)) | (go_at_call 16; exact quiet_same (HLn.out _)))
      go_wp2
      go_meet
      exact ⟨rfl, Lib.hid (grown_drewN w2 _ none)⟩
    | cons y t =>
      have hn00 : 0 < n0 := by rw [← Hn0.out, hxs]; simp
      have hd : decide (0 < (n0 : Int)) = true := by simp; omega
      have hd' : decide (0 < n0) = true := by simp; omega
      have Hxc := Lib.hid hxs
      rw [hxs] at HNw2
      obtain ⟨bw, ow, rfl, hcw⟩ := HNw2.out.at (i := 0) (x := y) rfl
      simp only [Nat.add_zero] at hcw
      have ha0 : a0 = y := by rw [← Ha0.out, hxs]; rfl
      have hs0 : s0 = true := by rw [← Hs0.out, hxs]; rfl
      clear Ha0 Hs0 hxs
      subst ha0 hs0
      go_quiet (first | (go_at_call 19; exact quiet_drew (HNo.out _)) | (go_at_call 16; exact quiet_same (HLn.out _)))
      go_wp2
      go_meet
      exact ⟨rfl, Lib.hid (grown_drewN w2 _ none)⟩
  case rest =>
    obtain ⟨rfl, HGc⟩ := hcut
    have HG3 := Lib.hid (grown_trans HG2.out HGc.out)
    have HB3 := Lib.hid (kept2 HB2.out HGc.out)
    clear HGc HG2 HB2 HNo HLn HNt HNw2 HSw c00 c01 c02 l0
    have HNx : Hid (∃ o, Calls Try.prog 22 #[.pointer (some ⟨b, 0, none⟩), .int .i32 n] wc (fun e w' => e = .returned (tupO o) ∧ wc = w') ∧ (D.has n = false ∧ o = none ∨ ∃ k x : Nat, n = (x : Int) ∧ D.l[k]? = some x ∧ o = some (nxt D.l k))) := Lib.hid (by
      have hcc := HC.out.kept HG3.out
      cases hh : D.has n with
      | false => exact ⟨none, next_er hcc n hn hh, .inl ⟨rfl, rfl⟩⟩
      | true =>
        obtain ⟨k, x, rfl, hk⟩ := Dl.has_get hh
        exact ⟨_, next_is hcc hk, .inr ⟨k, x, rfl, hk, rfl⟩⟩)
    obtain ⟨o, hnx, ho⟩ := HNx.out
    rw [tupO_eq] at hnx
    obtain ⟨o0, Ho0⟩ : ∃ o0, Hid (o.getD 0 = o0) := ⟨_, Lib.hid rfl⟩
    obtain ⟨o1, Ho1⟩ : ∃ o1, Hid (o.isSome = o1) := ⟨_, Lib.hid rfl⟩
    rw [Ho0.out, Ho1.out] at hnx
    have HNX := Lib.hid hnx
    have Ho := Lib.hid ho
    clear hnx ho HNx
    obtain ⟨c00, c01, c02, _, _, _, l0⟩ := cells3 HB3.out
    go_wp2_with fail
    refine HNX.out.mono ?_
    rintro e w' ⟨rfl, rfl⟩
    go_wp2_with fail
    refine (HPl.out wc HG3.out).mono ?_
    rintro e w4 ⟨hg4, hpl⟩
    have HG4 := Lib.hid (grown_trans HG3.out hg4)
    have HB4 := Lib.hid (kept2 HB3.out hg4)
    have HPL := Lib.hid hpl
    have HHs : Hid (∀ q, Calls Try.prog 24 #[.pointer (some ⟨b, 0, none⟩), .int .i32 n] (w4.drewN q) fun e w' => e = .returned (.bool (D.has n)) ∧ w4.drewN q = w') := Lib.hid fun q => has_is (HC.out.kept (grown_trans HG4.out (grown_drewN w4 q none))) n hn
    obtain ⟨pv, Hpv⟩ : ∃ pv : Int, Hid (e = .returned (.int .i64 pv) ∧ (pv = -1 ∧ D.has n = false ∨ ∃ k x : Nat, pv = (k : Int) ∧ n = (x : Int) ∧ D.l[k]? = some x)) := by
      rcases hpl with ⟨he, hh⟩ | ⟨k, x, he, hx, hk⟩
      · exact ⟨-1, Lib.hid ⟨he, .inl ⟨rfl, hh⟩⟩⟩
      · exact ⟨k, Lib.hid ⟨he, .inr ⟨k, x, rfl, hx, hk⟩⟩⟩
    rw [Hpv.out.1]
    clear hg4 hpl c00 c01 c02 l0 HB3 HG3 HNX HPL
    obtain ⟨c00, c01, c02, _, _, _, l0⟩ := cells3 HB4.out
    go_wp2_with fail
    go_cut [117] from 82 to 117 (fun v wd => v = .bool false ∧ Hid (w4.grownBy wd none))
    case first =>
      rcases Ho.out with ⟨hh, rfl⟩ | ⟨k, x, rfl, hk, rfl⟩
      · have hp1 : pv = -1 := by
          rcases Hpv.out.2 with h | ⟨k, x, _, hx, hk⟩
          · exact h.1
          · rw [hx, Dl.has_iff.2 ⟨by omega, by rw [Int.toNat_natCast]; exact List.mem_of_getElem? hk⟩] at hh; cases hh
        subst hp1
        rw [hh] at HHs
        have e0 : o0 = 0 := Ho0.out.symm
        have e1 : o1 = false := Ho1.out.symm
        clear hh Ho0 Ho1
        subst e0 e1
        go_quiet (first | (go_at_call 24; exact quiet_same (HHs.out _)))
        go_wp2
        go_meet
        exact ⟨rfl, Lib.hid (grown_drewN w4 _ none)⟩
      · have hh : D.has (x : Int) = true := Dl.has_iff.2 ⟨by omega, by rw [Int.toNat_natCast]; exact List.mem_of_getElem? hk⟩
        have hpk : pv = (k : Int) := by
          rcases Hpv.out.2 with h | ⟨k', x', hp, hx, hk'⟩
          · rw [hh] at h; cases h.2
          · have : x = x' := by omega
            subst this
            rw [hp, nodup_idx HOk.out.nd hk hk']
        subst hpk
        rw [hh] at HHs
        have hkL : k < L := by rw [← HL.out]; exact (List.getElem?_eq_some_iff.1 hk).1
        have hne : ¬ D.l = [] := by intro e; rw [e] at hk; simp at hk
        obtain ⟨bL, oL, rfl, _, _, hcx⟩ := HRow.out.resolve_left hne
        have hnm := nxt_mod (l := D.l) (k := k) (by rw [HL.out]; exact hkL)
        rw [HL.out] at hnm
        obtain ⟨m, Hm⟩ : ∃ m, Hid ((k + 1) % L = m) := ⟨_, Lib.hid rfl⟩
        rw [Hm.out] at hnm
        have hcell := HG4.out.cell (hcx _ _ hnm) (by simp)
        have hmL : m < L := by rw [← Hm.out]; exact Nat.mod_lt _ (by omega)
        have hmm := mod_step Hm.out
        have hw1 : IntKind.i64.wrap ((k : Int) + 1) = (k : Int) + 1 := by rw [IntKind.wrap_i64]; omega
        have hL3 : ¬ ((L : Int) = 0) := by omega
        have hd0 : decide (0 ≤ (k : Int)) = true := by simp
        obtain ⟨z, Hz⟩ : ∃ z, Hid (nxt D.l k = z) := ⟨_, Lib.hid rfl⟩
        rw [Hz.out] at hcell
        have e0 : o0 = z := Ho0.out.symm.trans Hz.out
        have e1 : o1 = true := Ho1.out.symm
        clear hh hk hne hcx hnm Ho0 Ho1
        subst e0 e1
        go_quiet (first | (go_at_call 24; exact quiet_same (HHs.out _)))
        go_wp2
        go_meet
        exact ⟨rfl, Lib.hid (grown_drewN w4 _ none)⟩
    case rest =>
      obtain ⟨rfl, HGd⟩ := hcut
      have HG5 := Lib.hid (grown_trans HG4.out HGd.out)
      have HB5 := Lib.hid (kept2 HB4.out HGd.out)
      clear HGd HG4 HB4 HHs c00 c01 c02 l0 Ho Hpv
      obtain ⟨c00, c01, c02, _, _, _, l0⟩ := cells3 HB5.out
      have HGa : Hid (∀ w', wc.grownBy w' none → ∀ x y, Calls Try.prog 17 #[.pointer (some ⟨b, 0, none⟩), .int .i64 x, .int .i64 y] w' fun e w'' => e = .returned (.int .i64 (D.gap x y : Int)) ∧ wc.grownBy w'' none) := Lib.hid fun w' hg x y => by
        refine (gap_is (HC.out.kept (grown_trans HG5.out hg)) x y).mono ?_
        rintro e w'' ⟨rfl, h⟩
        exact ⟨rfl, grown_trans hg h⟩
      have HGb : Hid (∀ w', wc.grownBy w' none → ∀ x y, Calls Try.prog 31 #[.agg #[.int .i64 (N : Int), .slice A L c, .slice (some ⟨bH, oH, none⟩) M cH], .int .i64 x, .int .i64 y] w' fun e w'' => e = .returned (.int .i64 (D.gap x y : Int)) ∧ wc.grownBy w'' none) := Lib.hid fun w' hg x y => by
        refine (HGp.out w' (grown_trans HG5.out hg) x y).mono ?_
        rintro e w'' ⟨rfl, h⟩
        exact ⟨rfl, grown_trans hg h⟩
      clear HGp HPl
      go_wp2_with fail
      go_region_held3 (fun w' => w'.cell? ⟨w.heap.size, 0, none⟩ = some (.int .i64 (N : Int)) ∧ w'.cell? ⟨w.heap.size, 1, none⟩ = some (.slice A L c) ∧ w'.cell? ⟨w.heap.size, 2, none⟩ = some (.slice (some ⟨bH, oH, none⟩) M cH)) (first | exact ⟨k00, k01, k02⟩ | exact ⟨c00, c01, c02⟩ | go_keep)
        (first | (go_at_call 17; refine (HGa.out _ (by first | exact hgl | exact grown_drewN wc 1 none) _ _).mono ?_; rintro e wl ⟨rfl, hgl⟩; obtain ⟨k00, k01, k02, _, _, _, _⟩ := cells3 (kept2 HB5.out hgl)) | (go_at_call 31; refine (HGb.out _ (by first | exact hgl | exact grown_drewN wc 1 none) _ _).mono ?_; rintro e wl ⟨rfl, hgl⟩; obtain ⟨k00, k01, k02, _, _, _, _⟩ := cells3 (kept2 HB5.out hgl)))
      all_goals go_wp2
      all_goals go_ret
      all_goals exact ⟨rfl, grown_trans HG5.out hgl⟩
end
end Go.Proofs.Ytjligfgaahcogaa
