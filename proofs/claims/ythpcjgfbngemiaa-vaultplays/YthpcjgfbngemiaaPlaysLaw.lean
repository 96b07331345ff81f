/-
  The law over acts: its walk.
-/
import Derived.Test.YthpcjgfbngemiaaPlaysM
namespace Go.Proofs.Ythpcjgfbngemiaa
open Go.ChangeShapes Go.WideShapes Go.ChangeAt Go.RowKit
set_option linter.unusedVariables false
set_option maxRecDepth 100000
set_option maxHeartbeats 4000000 in
theorem vplays_main (r0 : Nat) (hr : r0 ≤ 1048576) (l : List AV) (A : Option Addr) (L cap : Nat) (hL : l.length = L) (h60 : L ≤ 60) (w : World) (ha : ActsAt w A l) :
    Calls Try.prog 3 #[.int .i64 (r0 : Int), .slice A L cap] w fun e w' => e = .returned (.bool true) ∧ w.grownBy w' none := by
  have HN := Lib.hid (new_any w r0 hr)
  have HA := Lib.hid ha
  have HL := Lib.hid hL
  have h60' : ¬ (60 : Int) < (L : Int) := by omega
  have hr0 : (r0 : Int) ≤ 1048576 := by omega
  have hr1 : ¬ (1048576 : Int) < (r0 : Int) := by omega
  have hr2 : ¬ (r0 : Int) < 0 := by omega
  clear ha hL
  go_enter Try.func3, Try.ntmps3
  go_wp2_with fail
  refine HN.out.mono ?_
  rintro e w1 ⟨rfl, v, hx, hg⟩
  obtain ⟨b, HB⟩ : ∃ b, Hid (w.heap.size = b) := ⟨_, Lib.hid rfl⟩
  have HX1 := Lib.hid hx
  have HG1 := Lib.hid hg
  rw [HB.out]
  clear hx hg HN
  go_wp2_with fail
  obtain ⟨B, hBz⟩ : ∃ B, w1.heap.size = B := ⟨_, rfl⟩
  rw [hBz]
  have hI := XI.init hr HX1.out HG1.out HB.out hBz
  obtain ⟨h0, V0, hI, hV0⟩ := hI
  generalize w1.alloc (.cells #[.int .i64 (r0 : Int), .int .i64 0, .int .i64 0, .slice none 0 0] 30) = wS at *
  have HI0 : Hid (XI w wS b B r0 0 h0 V0 (V0.room : Int) (V0.packs : Int) (V0.moved : Int) none 0 0 (⟨r0, 0, 0, []⟩ : Rf).L ∧ RV V0 ⟨r0, 0, 0, []⟩) := Lib.hid ⟨hI, hV0⟩
  clear hI hV0 hBz HX1 HG1
  go_loopw [49] (fun i wr => ∃ (k : Nat) (h : Hd) (V : Vl) (r : Rf) (Ar : Option Addr) (n c : Nat), k ≤ L ∧ i = .int .i64 (k : Int) ∧ Hid (XI w wr b B r0 k h V (V.room : Int) (V.packs : Int) (V.moved : Int) Ar n c r.L ∧ RV V r)) (fun i _ => L - (intOf i).toNat)
  case atStart => exact ⟨0, h0, V0, ⟨r0, 0, 0, []⟩, none, 0, 0, by omega, by go_num, HI0⟩
  case round =>
    obtain ⟨k, h, V, r, Ar, n, c, hk, rfl, HK⟩ := hrel
    clear HI0
    by_cases hlt : k < L
    · obtain ⟨a, HAK⟩ : ∃ a, Hid (l[k]? = some a) := ⟨_, Lib.hid (List.getElem?_eq_getElem (by rw [HL.out]; exact hlt))⟩
      rcases HA.out.kept HK.out.1.grown with e | ⟨g, off, rfl, hc⟩
      · rw [e] at HAK; have := HAK.out; simp at this
      · obtain ⟨p0, p1, p2, p3⟩ := hc k a HAK.out
        obtain ⟨pt, A2, n2, c2, nm, ys⟩ := a
        dsimp only at p0 p1 p2 p3
        have HS : Hid (Src w A2 n2 ys) := Lib.hid (by
          rcases HA.out with e | ⟨g2, off2, e2, hc2⟩
          · rw [e] at HAK; have := HAK.out; simp at this
          · exact (hc2 k _ HAK.out).2.2.2)
        clear hc p3 HA
        obtain ⟨G, hG⟩ : ∃ G, wr.heap.size = G := ⟨_, rfl⟩
        have HI : Hid (XI w (wr.alloc (.cells #[.bool pt, .slice A2 n2 c2, .int .i64 nm] 33)) b B r0 k h V (V.room : Int) (V.packs : Int) (V.moved : Int) Ar n c r.L ∧ RV V r) := Lib.hid ⟨HK.out.1.more (World.grownBy_alloc _ _ none), HK.out.2⟩
        have HGH : Hid ((wr.alloc (.cells #[.bool pt, .slice A2 n2 c2, .int .i64 nm] 33)).heap[G]? = some (.cells #[.bool pt, .slice A2 n2 c2, .int .i64 nm] 33 (0, 0)) ∧ ¬ own b h G) := Lib.hid ⟨by rw [← hG]; exact heap_alloc_new _ _, fun ho => by have := (HK.out.1.at_.own_lo ho).2; omega⟩
        have HKL : Hid (k ≤ 1000) := Lib.hid (by omega)
        by_cases hbig : 2000 < n2
        · have hb1 : (2000 : Int) < (n2 : Int) := by omega
          go_wp2_with fail
          refine (alive_at _).mono ?_
          rintro e w3 ⟨rfl, hg3⟩
          have HG := Lib.hid (grown_trans HI.out.1.grown hg3)
          clear hg3
          go_wp2
          go_ret
          exact ⟨rfl, HG.out⟩
        · have hb1 : ¬ (2000 : Int) < (n2 : Int) := by omega
          cases hpt : pt with
          | true =>
            subst hpt
            go_wp2_with fail
            generalize wr.alloc (.cells #[.bool true, .slice A2 n2 c2, .int .i64 nm] 33) = wG at *
            have HSG := Lib.hid (HS.out.kept HI.out.1.grown)
            have HBD : Hid (V.bk.length ≤ 60000 ∧ V.moved ≤ 900000000000 ∧ V.packs ≤ 900000000000 ∧ n ≤ 60000 ∧ rU r.L = V.used ∧ V.used ≤ V.room ∧ V.room ≤ 1048576) := Lib.hid ⟨by have := HI.out.1.kl; omega, by have := HI.out.1.moved; omega, by have := HI.out.1.packs; omega, by have h1 := HI.out.2.len; have h2 := (owns_rrow HI.out.1.row).1; have h3 := HI.out.1.kl; omega, HI.out.2.used HI.out.1.vm, by have := HI.out.1.vm.ur; omega, HI.out.1.vm.room⟩
            refine (put_anyX (c := c2) HI.out.1.at_ HI.out.1.vm HSG.out (fun hn0 q o e ho => by
              obtain ⟨_, hz, _⟩ := HS.out
              have h1 := (HI.out.1.at_.own_lo ho).1
              rcases hz with hz | ⟨q2, o2, e2, hq2, _⟩
              · exact hn0 hz
              · rw [e] at e2
                injection e2 with e2
                injection e2 with e2
                omega) (by have := HBD.out.1; omega) HBD.out.2.1 HBD.out.2.2.1).mono ?_
            clear hG HK
            rintro e w3 (⟨hful, rfl, hg3⟩ | ⟨hfit, num, h3, V3, rfl, hx3, hs3, R, X⟩)
            · have HI3 := Lib.hid (And.intro (HI.out.1.more hg3).up HI.out.2)
              have g1 := cell_of_head (kept2 HGH.out.1 hg3) 1
              have hg1 := cell_of_head (kept2 HGH.out.1 hg3) 2
              have hcv := src_str (HSG.out.kept hg3) c2
              obtain ⟨s, hs⟩ : ∃ s, strOfNums ys = s := ⟨_, rfl⟩
              have hsz : s.size = n2 := by rw [← hs, strOfNums_size, HS.out.1]
              rw [hs] at hcv
              have c10 := rput_full HI3.out.1.row (HI3.out.2.small HI3.out.1.vm) (by have := HBD.out.2.2.2.1; omega) (by have := HBD.out; omega) (V.room : Int) (V.packs : Int) (V.moved : Int) (by omega) (by have := HBD.out; omega) s (by omega) (by have := HBD.out; omega)
              unfold refV at c10
              have HC := Lib.hid c10
              obtain ⟨⟨z0, z1, z2, z3⟩, ⟨f0, f1, f2, f3⟩, hBl⟩ := cells4 HI3.out.1.box
              clear hg3 hs hsz c10 hful
              go_wp2_with fail
              refine HC.out.mono ?_
              rintro e w4 ⟨rfl, hg4⟩
              have HI4 := Lib.hid (And.intro (HI3.out.1.more hg4) HI3.out.2)
              clear hg4 HC z0 z1 z2 z3 f0 f1 f2 f3 hBl g1 hg1 hcv
              obtain ⟨⟨z0, z1, z2, z3⟩, ⟨f0, f1, f2, f3⟩, hBl⟩ := cells4 HI4.out.1.box
              go_wp2_with fail
              have HI5 := Lib.hid (And.intro ((HI4.out.1.set (rm2 := (V.room : Int)) (pk2 := (V.packs : Int)) (mv2 := (V.moved : Int)) HI4.out.1.row HI4.out.1.nA).more (World.grownBy_alloc _ (.cells #[.int .i64 (V.room : Int), .int .i64 (V.packs : Int), .int .i64 (V.moved : Int), .slice Ar n c] 30) none)) HI4.out.2)
              have c14 := stands_at HI5.out.1.at_ HI5.out.1.vm (by have := HI5.out.1.kl; have := HKL.out; omega) HI5.out.2 HI5.out.1.row
              unfold refV at c14
              refine c14.mono ?_
              rintro e w6 ⟨rfl, hg6⟩
              have HI6 := Lib.hid (And.intro (HI5.out.1.more hg6) HI5.out.2)
              clear hg6 c14 z0 z1 z2 z3 f0 f1 f2 f3 hBl
              go_wp2
              go_round
              case rel => exact ⟨k + 1, h, V, r, Ar, n, c, by omega, by go_num, HI6⟩
              case measure => simp only [intOf]; omega
            · have HI3 := Lib.hid (HI.out.1.act hx3 hs3 R.nx)
              have hgh := hs3.head HGH.out.1 HGH.out.2
              have g1 := cell_of_head hgh.1 1
              have hg1 := cell_of_head hgh.1 2
              have hcv := src_str (HS.out.kept HI3.out.grown) c2
              obtain ⟨r', hr', c10⟩ := rput_any HI.out.2 HI.out.1.vm HBD.out.1 HBD.out.2.1 HBD.out.2.2.1 R X HS.out.1 HS.out.2.2 (by omega) hfit HI3.out.row
              obtain ⟨s, hs⟩ : ∃ s, strOfNums ys = s := ⟨_, rfl⟩
              rw [hs] at hcv c10
              unfold refV at c10
              have HC := Lib.hid c10
              have HR' := Lib.hid hr'
              have hnm : (num : Int) ≤ 1000000 := by
                obtain ⟨a9, hb9, _⟩ := R.blk
                have h1 := (List.getElem?_eq_some_iff.1 hb9).1
                have h2 := HI3.out.kl
                have := HKL.out
                omega
              obtain ⟨⟨z0, z1, z2, z3⟩, ⟨f0, f1, f2, f3⟩, hBl⟩ := cells4 HI3.out.box
              clear hs c10 hr' hgh hfit R X hx3 hs3
              go_wp2_with fail
              refine HC.out.mono ?_
              rintro e w4 ⟨A', N, c', rfl, ho4, hg4⟩
              have HI4 := Lib.hid (HI3.out.setNew (rm2 := (V3.room : Int)) (pk2 := (V3.packs : Int)) (mv2 := (V3.moved : Int)) hg4 ho4)
              obtain ⟨⟨z0, z1, z2, z3⟩, ⟨f0, f1, f2, f3⟩, hBl⟩ := cells4 (kept2 HI3.out.box hg4)
              clear hg4 ho4 HC g1 hg1 hcv
              go_wp2_with fail
              have HI5 := Lib.hid (And.intro (HI4.out.more (World.grownBy_alloc _ (.cells #[.int .i64 (V3.room : Int), .int .i64 (V3.packs : Int), .int .i64 (V3.moved : Int), .slice A' N c'] 30) none)) HR'.out)
              have c14 := stands_at HI5.out.1.at_ HI5.out.1.vm (by have := HI5.out.1.kl; have := HKL.out; omega) HI5.out.2 HI5.out.1.row
              unfold refV at c14
              refine c14.mono ?_
              rintro e w6 ⟨rfl, hg6⟩
              have HI6 := Lib.hid (And.intro (HI5.out.1.more hg6) HI5.out.2)
              clear hg6 c14 z0 z1 z2 z3 f0 f1 f2 f3 hBl
              go_wp2
              go_round
              case rel => exact ⟨k + 1, h3, V3, r', A', N, c', by omega, by go_num, HI6⟩
              case measure => simp only [intOf]; omega
          | false =>
            subst hpt
            generalize hwG : wr.alloc (.cells #[.bool false, .slice A2 n2 c2, .int .i64 nm] 33) = wG at *
            have HWG := Lib.hid hwG
            have HBD : Hid (V.bk.length ≤ 60000 ∧ n ≤ 60000) := Lib.hid ⟨by have := HI.out.1.kl; omega, by have h1 := HI.out.2.len; have h2 := (owns_rrow HI.out.1.row).1; have h3 := HI.out.1.kl; omega⟩
            have HNL := Lib.hid (owns_rrow HI.out.1.row)
            have HKB := Lib.hid HK.out.1.box
            have hBG : B < G := by have := (Array.getElem?_eq_some_iff.1 HK.out.1.box).1; omega
            have hBG2 : ¬ B = G := by omega
            have hBG3 : ¬ G = B := by omega
            clear hwG HK
            have c11 := rfind_at HNL.out.2 n c HNL.out.1 (by have := HBD.out.2; omega) (V.room : Int) (V.packs : Int) (V.moved : Int) nm
            unfold refV at c11
            by_cases hno : ∃ k9 a9 m9 : Nat, nm = (k9 : Int) ∧ Blk V k9 a9 m9
            · obtain ⟨i, a9, m9, rfl, hb9⟩ := hno
              obtain ⟨j, hj1, hj2⟩ := HI.out.2.find_some HI.out.1.vm hb9
              rw [hj1] at c11
              have hjn : j < n := by have := (List.getElem?_eq_some_iff.1 hj2).1; have := HNL.out.1; omega
              have hjd : (0 : Int) ≤ (j : Int) := by omega
              have hjc : (j : Int) ≤ 60000 := by have := HBD.out.2; omega
              have HJ := Lib.hid (And.intro hb9 hj2)
              have HC := Lib.hid c11
              obtain ⟨⟨z0, z1, z2, z3⟩, ⟨f0, f1, f2, f3⟩, hBl⟩ := cells4 HKB.out
              have g0 := cell_of_head HGH.out.1 0
              have g2 := cell_of_head HGH.out.1 2
              clear c11 hj1 hj2 hb9
              go_wp2_with fail
              rw [HWG.out]
              refine HC.out.mono ?_
              rintro e w2 ⟨rfl, hg2⟩
              have HI2 := Lib.hid (And.intro (HI.out.1.more hg2) HI.out.2)
              have HGH2 := Lib.hid (And.intro (kept2 HGH.out.1 hg2) HGH.out.2)
              clear hg2 HC z0 z1 z2 z3 f0 f1 f2 f3 hBl g0 g2
              have g2 := cell_of_head HGH2.out.1 2
              go_wp2_with fail
              refine (drop_anyX HI2.out.1.at_ HI2.out.1.vm (by have := HBD.out.1; omega) (i : Int)).mono ?_
              rintro e w3 (⟨_, _, hbad⟩ | ⟨i2, a8, m8, ei, hb8, rfl, h3, V3, hx3, hs3, hbk, hbs, R⟩)
              · exact absurd HJ.out.1 (hbad i a9 m9 rfl)
              · obtain rfl : i = i2 := by omega
                obtain ⟨rfl, rfl⟩ := Blk.eq HJ.out.1 hb8
                have HI3 := Lib.hid (HI2.out.1.act hx3 hs3 R.nx)
                have HR' := Lib.hid (HI2.out.2.drop HI2.out.1.vm R.vm HJ.out.1 HJ.out.2 hbk hbs R.room R.packs R.moved)
                have c13 := rdrop_at HI3.out.row (by have := HBD.out.2; omega) (V.room : Int) (V.packs : Int) (V.moved : Int) hjn
                unfold refV at c13
                have HC := Lib.hid c13
                have HE := Lib.hid (And.intro R.room (And.intro R.packs R.moved))
                obtain ⟨⟨z0, z1, z2, z3⟩, ⟨f0, f1, f2, f3⟩, hBl⟩ := cells4 HI3.out.box
                clear ei hb8 hx3 hs3 hbk hbs R c13 g2
                go_wp2_with fail
                refine HC.out.mono ?_
                rintro e w4 ⟨A', c', N, hN, rfl, ho4, hg4⟩
                have HI4 := Lib.hid (HI3.out.setNew (rm2 := (V.room : Int)) (pk2 := (V.packs : Int)) (mv2 := (V.moved : Int)) hg4 ho4)
                obtain ⟨⟨z0, z1, z2, z3⟩, ⟨f0, f1, f2, f3⟩, hBl⟩ := cells4 (kept2 HI3.out.box hg4)
                clear hg4 ho4 HC hN
                go_wp2_with fail
                generalize (((w4.setCell ⟨B, 0, none⟩ (.int .i64 (V.room : Int))).setCell ⟨B, 1, none⟩ (.int .i64 (V.packs : Int))).setCell ⟨B, 2, none⟩ (.int .i64 (V.moved : Int))).setCell ⟨B, 3, none⟩ (.slice A' N c') = w5 at *
                have HI4' : Hid (XI w w5 b B r0 (k + 1) h3 V3 (V3.room : Int) (V3.packs : Int) (V3.moved : Int) A' N c' (r.L.eraseIdx j)) := Lib.hid (by rw [HE.out.1, HE.out.2.1, HE.out.2.2]; exact HI4.out)
                rw [← HE.out.1, ← HE.out.2.1, ← HE.out.2.2]
                have HI5 := Lib.hid (And.intro HI4'.out HR'.out)
                have c14 := stands_at HI5.out.1.at_ HI5.out.1.vm (by have := HI5.out.1.kl; have := HKL.out; omega) HI5.out.2 HI5.out.1.row
                unfold refV at c14
                refine c14.mono ?_
                rintro e w6 ⟨rfl, hg6⟩
                have HI6 := Lib.hid (And.intro (HI5.out.1.more hg6) HI5.out.2)
                clear hg6 c14 z0 z1 z2 z3 f0 f1 f2 f3 hBl
                go_wp2
                go_round
                case rel => exact ⟨k + 1, h3, V3, { r with L := r.L.eraseIdx j }, A', N, c', by omega, by go_num, HI6⟩
                case measure => simp only [intOf]; omega
            · have hj1 : rF r.L nm = -1 := by
                refine HI.out.2.find_none HI.out.1.vm fun k9 a9 m9 e9 hb9 => hno ⟨k9, a9, m9, e9, hb9⟩
              rw [hj1] at c11
              have HNO := Lib.hid hno
              have HC := Lib.hid c11
              obtain ⟨⟨z0, z1, z2, z3⟩, ⟨f0, f1, f2, f3⟩, hBl⟩ := cells4 HKB.out
              have g0 := cell_of_head HGH.out.1 0
              have g2 := cell_of_head HGH.out.1 2
              clear c11 hj1 hno
              go_wp2_with fail
              rw [HWG.out]
              refine HC.out.mono ?_
              rintro e w2 ⟨rfl, hg2⟩
              have HI2 := Lib.hid (And.intro (HI.out.1.more hg2) HI.out.2)
              have HGH2 := Lib.hid (And.intro (kept2 HGH.out.1 hg2) HGH.out.2)
              clear hg2 HC z0 z1 z2 z3 f0 f1 f2 f3 hBl g0 g2
              have g2 := cell_of_head HGH2.out.1 2
              go_wp2_with fail
              refine (drop_anyX HI2.out.1.at_ HI2.out.1.vm (by have := HBD.out.1; omega) nm).mono ?_
              rintro e w3 (⟨rfl, hg3, _⟩ | ⟨i2, a8, m8, ei, hb8, _⟩)
              · have HI3 := Lib.hid (And.intro (HI2.out.1.more hg3).up HI2.out.2)
                obtain ⟨⟨z0, z1, z2, z3⟩, ⟨f0, f1, f2, f3⟩, hBl⟩ := cells4 HI3.out.1.box
                clear hg3 g2
                go_wp2_with fail
                have HI5 := Lib.hid (And.intro HI3.out.1 HI3.out.2)
                have c14 := stands_at HI5.out.1.at_ HI5.out.1.vm (by have := HI5.out.1.kl; have := HKL.out; omega) HI5.out.2 HI5.out.1.row
                unfold refV at c14
                refine c14.mono ?_
                rintro e w6 ⟨rfl, hg6⟩
                have HI6 := Lib.hid (And.intro (HI5.out.1.more hg6) HI5.out.2)
                clear hg6 c14 z0 z1 z2 z3 f0 f1 f2 f3 hBl
                go_wp2
                go_round
                case rel => exact ⟨k + 1, h, V, r, Ar, n, c, by omega, by go_num, HI6⟩
                case measure => simp only [intOf]; omega
              · exact absurd ⟨i2, a8, m8, ei, hb8⟩ HNO.out
    · have HGF := Lib.hid HK.out.1.grown
      go_wp2_with fail
      refine (alive_at _).mono ?_
      rintro e w3 ⟨rfl, hg3⟩
      have HG := Lib.hid (grown_trans HGF.out hg3)
      clear hg3
      go_wp2
      go_ret
      exact ⟨rfl, HG.out⟩
theorem vaultPlays_law (a0 : Int) (A : Option Addr) (L cap : Nat) (l : List AV) (w : World) (w0 : (Lit.int .i64 a0).wf = true) (hL : l.length = L) (ha : ActsAt w A l) :
    Calls Try.prog 3 #[.int .i64 a0, .slice A L cap] w fun e w' => e = .returned (.bool true) ∧ Below w.heap.size w w' := by
  by_cases hr : a0 < 0 ∨ 1048576 < a0
  · have HN := Lib.hid (new_no w a0 hr)
    clear ha hL w0
    by_cases h0 : a0 < 0
    · clear hr
      go_enter Try.func3, Try.ntmps3
      go_wp2_with fail
      refine HN.out.mono ?_
      rintro e w1 ⟨rfl, hg⟩
      have HG := Lib.hid hg
      clear hg HN
      go_wp2_with fail
      refine (alive_at _).mono ?_
      rintro e w2 ⟨rfl, hg2⟩
      have HG2 := Lib.hid (grown_trans HG.out hg2)
      clear hg2
      go_wp2
      go_ret
      exact ⟨rfl, grown_belowF HG2.out⟩
    · have h1 : 1048576 < a0 := hr.resolve_left h0
      clear hr
      go_enter Try.func3, Try.ntmps3
      go_wp2_with fail
      refine HN.out.mono ?_
      rintro e w1 ⟨rfl, hg⟩
      have HG := Lib.hid hg
      clear hg HN
      go_wp2_with fail
      refine (alive_at _).mono ?_
      rintro e w2 ⟨rfl, hg2⟩
      have HG2 := Lib.hid (grown_trans HG.out hg2)
      clear hg2
      go_wp2
      go_ret
      exact ⟨rfl, grown_belowF HG2.out⟩
  · obtain ⟨r0, rfl⟩ : ∃ r : Nat, a0 = r := ⟨a0.toNat, by omega⟩
    have hr2 : r0 ≤ 1048576 := by omega
    by_cases h60 : L ≤ 60
    · exact (vplays_main r0 hr2 l A L cap hL h60 w ha).mono fun e w' ⟨h1, h2⟩ => ⟨h1, grown_belowF h2⟩
    · have HN := Lib.hid (new_any w r0 hr2)
      have h60' : (60 : Int) < (L : Int) := by omega
      have hr1 : ¬ (1048576 : Int) < (r0 : Int) := by omega
      have hr3 : ¬ (r0 : Int) < 0 := by omega
      clear ha hL w0 hr h60
      go_enter Try.func3, Try.ntmps3
      go_wp2_with fail
      refine HN.out.mono ?_
      rintro e w1 ⟨rfl, v, hx, hg⟩
      have HG := Lib.hid hg
      clear hx hg HN
      go_wp2_with fail
      refine (alive_at _).mono ?_
      rintro e w2 ⟨rfl, hg2⟩
      have HG2 := Lib.hid (grown_trans HG.out hg2)
      clear hg2
      go_wp2
      go_ret
      exact ⟨rfl, grown_belowF HG2.out⟩
end Go.Proofs.Ythpcjgfbngemiaa
