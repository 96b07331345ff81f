/-
  The document's vault and the program's, held against each other: stands.
-/
import Derived.Test.YthpcjgfbngemiaaRefN
import Derived.Test.YthpcjgfbngemiaaRefH
import Derived.Test.YthpcjgfbngemiaaKeepsLaw
namespace Go.Proofs.Ythpcjgfbngemiaa
open Go.ChangeShapes Go.WideShapes Go.ChangeAt Go.RowKit
set_option linter.unusedVariables false
set_option maxRecDepth 100000
set_option maxHeartbeats 2000000 in
theorem stands_at {w : World} {lo b : Nat} {h : Hd} {V : Vl} (x : VAt w lo b h V) (hv : VM V 0 0) (hk : V.bk.length ≤ 60000) {r : Rf} (rv : RV V r) {A : Option Addr} {n c base : Nat} (ho : w.ownsRow base 63 3 (.slice A n c) n (rvals renc r.L)) :
    Calls Try.prog 14 #[.pointer (some ⟨b, 0, none⟩), refV (V.room : Int) (V.packs : Int) (V.moved : Int) A n c] w fun e w' => e = .returned (.bool true) ∧ w.grownBy w' none := by
  have HX := Lib.hid x
  have HR := Lib.hid (owns_rrow ho).2
  have HV := Lib.hid (And.intro hv (And.intro rv (owns_rrow ho).1))
  have hn : n ≤ 60000 := by have := rv.len; have := (owns_rrow ho).1; omega
  obtain ⟨rm, hrm⟩ : ∃ q, V.room = q := ⟨_, rfl⟩
  obtain ⟨pk, hpk⟩ : ∃ q, V.packs = q := ⟨_, rfl⟩
  obtain ⟨mv, hmv⟩ : ∃ q, V.moved = q := ⟨_, rfl⟩
  obtain ⟨us, hus⟩ : ∃ q, V.used = q := ⟨_, rfl⟩
  rw [hrm, hpk, hmv]
  have HQ := Lib.hid (And.intro hrm (And.intro hpk (And.intro hmv hus)))
  obtain ⟨B, hB⟩ : ∃ B, w.heap.size = B := ⟨_, rfl⟩
  have hga := World.grownBy_alloc w (.cells #[.int .i64 (rm : Int), .int .i64 (pk : Int), .int .i64 (mv : Int), .slice A n c] 30) none
  have hb := heap_alloc_new w (.cells #[.int .i64 (rm : Int), .int .i64 (pk : Int), .int .i64 (mv : Int), .slice A n c] 30)
  rw [hB] at hb
  have c20 := blocks_at (x.kept hga) (by omega)
  unfold refV
  have HBL := Lib.hid c20
  have HG0 := Lib.hid hga
  have HB0 := Lib.hid hb
  have HN60 := Lib.hid hk
  clear x hv rv ho hk hrm hpk hmv hus hga hb c20
  go_enter Try.func14, Try.ntmps14
  go_wp2_with fail
  refine HBL.out.mono ?_
  rintro e w1 ⟨A1, c1, l', rfl, hp, hs, ho1, hg1⟩
  have hL : r.L = l'.map (rb V) := HV.out.2.1.told HV.out.1 hp hs
  obtain ⟨n1, hn1⟩ : ∃ n1, l'.length = n1 := ⟨_, rfl⟩
  obtain rfl : n1 = n := by have := HV.out.2.2; rw [hL, List.length_map] at this; omega
  rw [hn1] at ho1
  have HLL := Lib.hid (And.intro hL (And.intro hp hn1))
  have HO1 := Lib.hid ho1
  have HB1 := Lib.hid (kept2 HB0.out hg1)
  have HG1 := Lib.hid (grown_trans HG0.out hg1)
  rw [hn1]
  clear hL hp hs ho1 hg1 HBL HB0 HG0 hn1 hB
  have hcells : ∀ p : GrW w1, _ := fun p => cells4 (kept2 HB1.out p.h)
  have y0 : ∀ p : GrW w1, p.v.cell? ⟨B, 0, none⟩ = some (.int .i64 (rm : Int)) := fun p => (hcells p).1.1
  have y1 : ∀ p : GrW w1, p.v.cell? ⟨B, 1, none⟩ = some (.int .i64 (pk : Int)) := fun p => (hcells p).1.2.1
  have y2 : ∀ p : GrW w1, p.v.cell? ⟨B, 2, none⟩ = some (.int .i64 (mv : Int)) := fun p => (hcells p).1.2.2.1
  have y3 : ∀ p : GrW w1, p.v.cell? ⟨B, 3, none⟩ = some (.slice A n1 c) := fun p => (hcells p).1.2.2.2
  clear hcells
  have hVK : ∀ p : GrW w1, VAt p.v lo b h V := fun p => HX.out.kept (grown_trans HG1.out p.h)
  have H16 : Hid (∀ p : GrW w1, Calls Try.prog 16 #[.pointer (some ⟨b, 0, none⟩)] p.v fun r w' => r = .returned (.int .i64 (rm : Int)) ∧ ∃ p' : GrW w1, w' = p'.v) := Lib.hid (fun p => (room_at (hVK p)).mono fun r w' ⟨hr, hg⟩ => ⟨by rw [hr, HQ.out.1], p, hg.symm⟩)
  have H17 : Hid (∀ p : GrW w1, Calls Try.prog 17 #[.pointer (some ⟨b, 0, none⟩)] p.v fun r w' => r = .returned (.int .i64 (us : Int)) ∧ ∃ p' : GrW w1, w' = p'.v) := Lib.hid (fun p => (used_at (hVK p)).mono fun r w' ⟨hr, hg⟩ => ⟨by rw [hr, HQ.out.2.2.2], p, hg.symm⟩)
  have H18 : Hid (∀ p : GrW w1, Calls Try.prog 18 #[.pointer (some ⟨b, 0, none⟩)] p.v fun r w' => r = .returned (.int .i64 (pk : Int)) ∧ ∃ p' : GrW w1, w' = p'.v) := Lib.hid (fun p => (packs_at (hVK p)).mono fun r w' ⟨hr, hg⟩ => ⟨by rw [hr, HQ.out.2.1], p, hg.symm⟩)
  have H19 : Hid (∀ p : GrW w1, Calls Try.prog 19 #[.pointer (some ⟨b, 0, none⟩)] p.v fun r w' => r = .returned (.int .i64 (mv : Int)) ∧ ∃ p' : GrW w1, w' = p'.v) := Lib.hid (fun p => (moved_at (hVK p)).mono fun r w' ⟨hr, hg⟩ => ⟨by rw [hr, HQ.out.2.2.1], p, hg.symm⟩)
  have H24 : Hid (∀ p : GrW w1, Calls Try.prog 24 #[refV (rm : Int) (pk : Int) (mv : Int) A n1 c] p.v fun r w' => r = .returned (.int .i64 (us : Int)) ∧ ∃ p' : GrW w1, w' = p'.v) := Lib.hid (fun p => by
    have hu := HV.out.2.1.used HV.out.1
    have h1 := HV.out.1.ur
    have h2 := HV.out.1.room
    rw [HQ.out.2.2.2] at hu h1
    refine (rused_at (HR.out.kept (grown_trans HG1.out p.h)) n1 c HV.out.2.2 (by omega) (by rw [hu]; omega) _ _ _).mono fun r w' ⟨hr, hg⟩ => ⟨by rw [hr, hu], ⟨w', grown_trans p.h hg⟩, rfl⟩)
  unfold refV at H24
  clear hVK
  go_wp2_with fail
  refine region_grown (by kernel_rfl) (by kernel_rfl) ?_
  repeat (go_big_quiet_step (first | (go_at_call 17; exact H17.out _) | (go_at_call 24; exact H24.out _) | (go_at_call 18; exact H18.out _) | (go_at_call 19; exact H19.out _) | (go_at_call 16; exact H16.out _)))
  refine wpQuiet_nil ?_
  rintro w2 ⟨⟨w3, hg3⟩, rfl⟩
  have HG2 := Lib.hid hg3
  clear hg3 y0 y1 y2 y3 H16 H17 H18 H19 H24
  go_wp2_with fail
  go_loopw [48] (fun i wr => ∃ k : Nat, k ≤ n1 ∧ i = .int .i64 (k : Int) ∧ Hid (w1.grownBy wr none)) (fun i _ => n1 - (intOf i).toNat)
  case atStart => exact ⟨0, by omega, by go_num, HG2⟩
  case round =>
    obtain ⟨k, hk, rfl, HK⟩ := hrel
    by_cases hlt : k < n1
    · have hltI : (k : Int) < (n1 : Int) := by omega
      obtain ⟨p, hp⟩ : ∃ p, l'[k]? = some p := ⟨_, List.getElem?_eq_getElem (by rw [HLL.out.2.2]; exact hlt)⟩
      obtain ⟨num, a, m, rfl, hbk⟩ := (alive_blk HV.out.1).1 (HLL.out.2.1.mem_iff.1 (List.mem_of_getElem? hp))
      have hrk : r.L[k]? = some ((num : Int), (a : Int), str V a m) := by rw [HLL.out.1, List.getElem?_map, hp]; rfl
      have hsz := str_size HV.out.1 hbk
      have hkin := HV.out.1.kin num _ hbk
      have hm0 : m = 0 → a = 0 := by
        rcases hkin with h1 | ⟨a', m', he, _, h3⟩
        · have : (num : Int) = -1 := h1
          omega
        · injection he with _ he
          injection he with e1 e2
          intro h; have := h3 (by omega); omega
      have hbyt := HV.out.2.1.byt num a m hbk
      have hlen := HV.out.1.blk_len hbk
      have hb6 : V.bs.length ≤ 1048576 := by have := HV.out.1.bsl; have := HV.out.1.room; omega
      have hkl : V.bk.length ≤ 1000000 := by have := HLL.out; have := HN60.out; omega
      have HCV : Hid (∀ W : World, w.grownBy W none → Calls Try.prog 15 #[.pointer (some ⟨b, 0, none⟩), .int .i64 (num : Int)] W (GetPost W m (val V a m))) := Lib.hid (fun W hg => get_yes (HX.out.kept hg) hkl hbk (by omega) hlen hb6 hm0)
      have HSRC : Hid (∀ (W : World) (A3 : Option Addr) (c3 base3 : Nat), W.ownsRow base3 5 1 (.slice A3 m c3) m (rvals benc (val V a m)) → ∀ q, (convert 31 9 (.slice A3 m c3)).run Try.prog (W.drewN q) = .ok (.string (str V a m)) (W.drewN q)) := Lib.hid (fun W A3 c3 base3 ho q => src_str ((owns_src ho hbyt).kept (grown_drewN W q none)) c3)
      obtain ⟨s, hs⟩ : ∃ s, str V a m = s := ⟨_, rfl⟩
      rw [hs] at hsz HSRC hrk
      obtain ⟨g, cap, eg⟩ := owns_some HO1.out (by omega)
      injection eg with e1 _ e3
      subst e1
      subst e3
      have kc := fun j (hj : j < 3) => ((own_same HO1.out fun q hq _ => HK.out.block q hq (by simp)).cellAt (k * 3 + j) (by omega)).trans (rvals_get kenc_len hp hj)
      have k0 : wr.cell? ⟨g, k * 3, none⟩ = some (.int .i64 (num : Int)) := kc 0 (by omega)
      have k1 : wr.cell? ⟨g, k * 3 + 1, none⟩ = some (.int .i64 (a : Int)) := kc 1 (by omega)
      have k2 : wr.cell? ⟨g, k * 3 + 2, none⟩ = some (.int .i64 (m : Int)) := kc 2 (by omega)
      have hix := ix49 g k n1 c1 hlt
      have hld := ld59 k0 k1 k2
      have HGW := Lib.hid (grown_trans HG1.out (grown_trans HK.out (World.grownBy_alloc wr (.cells #[.int .i64 (num : Int), .int .i64 (a : Int), .int .i64 (m : Int)] 59) none)))
      have HB3 := Lib.hid (kept2 HB1.out (grown_trans HK.out (World.grownBy_alloc wr (.cells #[.int .i64 (num : Int), .int .i64 (a : Int), .int .i64 (m : Int)] 59) none)))
      have HK3 := Lib.hid (grown_trans HK.out (World.grownBy_alloc wr (.cells #[.int .i64 (num : Int), .int .i64 (a : Int), .int .i64 (m : Int)] 59) none))
      have HBX := Lib.hid (heap_alloc_new wr (.cells #[.int .i64 (num : Int), .int .i64 (a : Int), .int .i64 (m : Int)] 59))
      have HRK := Lib.hid hrk
      subst hsz
      clear hp hbk hrk hkin hm0 hbyt hlen hb6 hkl kc
      go_wp2_with fail
      obtain ⟨Q, hQ⟩ : ∃ Q, wr.heap.size = Q := ⟨_, rfl⟩
      rw [hQ] at HBX ⊢
      generalize wr.alloc (.cells #[.int .i64 (num : Int), .int .i64 (a : Int), .int .i64 (s.size : Int)] 59) = wa at *
      obtain ⟨⟨z0, z1, z2, z3⟩, _⟩ := cells4 HB3.out
      have q0 := cell_of_head HBX.out 0
      have q1 := cell_of_head HBX.out 1
      have q2 := cell_of_head HBX.out 2
      obtain ⟨g4, off, rfl, r0, r1, r2⟩ := (HR.out.kept HGW.out).some HRK.out
      dsimp only at r0 r1 r2
      clear k0 k1 k2 hix hld hQ
      go_quiet (fail)
      have hgb := grown_drewN wa nq none
      have HGb := Lib.hid (grown_trans HGW.out hgb)
      have HKb := Lib.hid (grown_trans HK3.out hgb)
      have HBb := Lib.hid (kept2 HB3.out hgb)
      have HBXb := Lib.hid (kept2 HBX.out hgb)
      clear z0 z1 z2 z3 q0 q1 q2 r0 r1 r2 hgb
      generalize wa.drewN nq = wb at *
      have q0 := cell_of_head HBXb.out 0
      have HC15 := Lib.hid (HCV.out wb HGb.out)
      go_wp2_with fail
      refine HC15.out.mono ?_
      rintro e wc ⟨A3, c3, rfl, ho3, hgc⟩
      have hcv := HSRC.out wc A3 c3 _ ho3
      have HGc := Lib.hid (grown_trans HKb.out hgc)
      obtain ⟨⟨z0, z1, z2, z3⟩, _⟩ := cells4 (kept2 HBb.out hgc)
      obtain ⟨g5, off5, e5, r0, r1, r2⟩ := (HR.out.kept (grown_trans HGb.out hgc)).some HRK.out
      injection e5 with e5
      injection e5 with e6 e7
      subst e6
      subst e7
      dsimp only at r0 r1 r2
      clear ho3 hgc q0 HCV HSRC HC15
      go_wp2_with fail
      go_quiet (fail)
      have HGd := Lib.hid (grown_trans HGc.out (grown_drewN wc nq none))
      clear z0 z1 z2 z3 r0 r1 r2 hcv
      go_wp2
      go_round
      case rel => exact ⟨k + 1, by omega, by go_num, HGd⟩
      case measure => simp only [intOf]; omega
    · have hltI : ¬ ((k : Int) < (n1 : Int)) := by omega
      have HGF := Lib.hid (grown_trans HG1.out HK.out)
      go_wp2
      go_ret
      exact ⟨rfl, HGF.out⟩
end Go.Proofs.Ythpcjgfbngemiaa
