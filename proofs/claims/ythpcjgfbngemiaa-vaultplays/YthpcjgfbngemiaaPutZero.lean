/-
  Put of an empty value.
-/
import Derived.Test.YthpcjgfbngemiaaPutOk
namespace Go.Proofs.Ythpcjgfbngemiaa
open Go.ChangeShapes Go.WideShapes Go.ChangeAt Go.RowKit
set_option linter.unusedVariables false
set_option maxRecDepth 100000
section
variable {w : World} {lo b : Nat} {h : Hd} {V : Vl}
theorem TakeR.zero (hv : VM V 0 0) : TakeR V V 0 0 := ⟨hv, by omega, rfl, rfl, rfl, rfl, fun k a n hb => ⟨a, hb, rfl⟩, by omega, by omega⟩
theorem over_nil (l : List Int) : over l 0 [] = l := by simp [over]
theorem copy_zero (d : Option Addr) (n k : Nat) (A : Option Addr) (c : Nat) (W : World) : (Builtin.copy_ #[31, 31] 3 #[.slice d n k, .slice A 0 c]).run Try.prog W = .ok (.int .i64 0) W := by
  simp [Builtin.copy_, go_sem]
  cases A <;> cases d <;> simp [storeCells, go_sem]
theorem slice_some (g n cap : Nat) (W : World) : (Instr.slice 31 (.slice (some ⟨g, 0, none⟩) n cap) (some (.int .i64 0)) none none).run Try.prog W = .ok (.slice (some ⟨g, 0, none⟩) n cap) W := by
  simp [go_sem]
theorem slice_none (W : World) : (Instr.slice 31 (.slice none 0 0) (some (.int .i64 0)) none none).run Try.prog W = .ok (.slice none 0 0) W := by
  simp [go_sem]
theorem slice_zero {v : Value} {n : Nat} {xs : List Value} (ho : w.ownsRow lo 5 1 v n xs) : ∃ D k, v = .slice D n k ∧ ∀ W, (Instr.slice 31 (.slice D n k) (some (.int .i64 0)) none none).run Try.prog W = .ok (.slice D n k) W := by
  obtain ⟨h1, h2⟩ := ho
  rcases h2 with ⟨rfl, rfl⟩ | ⟨g, cap, cur, rfl, hg, hh, hcap, hm, hs, ht⟩
  · exact ⟨none, 0, rfl, slice_none⟩
  · exact ⟨_, cap, rfl, slice_some g n cap⟩
set_option maxHeartbeats 1000000 in
theorem put_zero (x : VAt w lo b h V) (hv : VM V 0 0) (A : Option Addr) (c : Nat) (hk : V.bk.length ≤ 90000) :
    Calls Try.prog 9 #[.pointer (some ⟨b, 0, none⟩), .slice A 0 c] w (PutOk w lo b h V 0 []) := by
  obtain ⟨num, hN⟩ := num_ok lo b (TakeR.zero hv) (ys := []) rfl (fun _ => rfl) hk
  rw [over_nil, Nat.add_zero] at hN
  have HX := Lib.hid x
  have c0 := x.c0
  have c5 := x.c5
  have HNN := Lib.hid hN
  obtain ⟨us, HUS⟩ : ∃ us, Hid (V.used = us) := ⟨_, Lib.hid rfl⟩
  obtain ⟨rm, HRM⟩ : ∃ rm, Hid (V.room = rm) := ⟨_, Lib.hid rfl⟩
  have hur := hv.ur
  have hr6 := hv.room
  rw [HUS.out] at c5 hur
  rw [HRM.out] at c0 hur hr6
  have k0 : ¬ ((rm : Int) - (us : Int) < 0) := by omega
  have HV := Lib.hid hv
  clear x hN hv
  go_enter Try.func9, Try.ntmps9
  go_wp2_with fail
  go_quiet (fail)
  have HG0 := Lib.hid (grown_drewN w nq none)
  clear c0 c5
  generalize w.drewN nq = w0 at *
  have HX0 := Lib.hid (HX.out.kept HG0.out)
  have HT0 := Lib.hid (takeB_zero HX0.out)
  go_wp2_with fail
  refine HT0.out.mono ?_
  rintro e w1 ⟨rfl, hg1⟩
  have hx1 := HX0.out.kept hg1
  have HG1 := Lib.hid (grown_trans HG0.out hg1)
  have c5 := hx1.c5
  have f5 := hx1.free 5
  have d1 := hx1.c1
  rw [HUS.out] at c5
  obtain ⟨hv3, hs3⟩ := hx1.used' V.used
  rw [HUS.out] at hv3 hs3
  have e0 : ({ V with used := us } : Vl) = V := by rw [← HUS.out]
  rw [e0] at hv3
  have HV3 := Lib.hid hv3
  have HS3 := Lib.hid ((Stp.of_new HG1.out).trans hs3)
  obtain ⟨D, kD, eD, hsl⟩ := slice_zero hx1.rB
  obtain ⟨nB, HNB⟩ : ∃ nB, Hid (V.bs.length = nB) := ⟨_, Lib.hid rfl⟩
  rw [eD] at d1
  rw [HNB.out] at d1 hsl
  have hcp := copy_zero D nB kD A c
  clear hv3 hs3 hg1 HT0 e0 eD hx1
  go_wp2_with fail
  clear hsl hcp c5 f5 d1
  generalize w1.setCell ⟨b, 5, none⟩ (.int .i64 (us : Int)) = w3 at *
  refine (HNN.out w3 h HV3.out).mono ?_
  rintro e w4 ⟨rfl, h4, V4, hP, hx4, hs4⟩
  obtain ⟨hnl, hn6, hPR⟩ := hP
  obtain ⟨gk, ck, ek⟩ := owns_some hx4.rK (by omega)
  have hrk := hx4.rK
  rw [ek] at hrk
  have c2 := hx4.c2
  rw [ek] at c2
  obtain ⟨s1, g1⟩ := hrk.stored (num * 3) (.int .i64 (num : Int))
  obtain ⟨s2, g2⟩ := s1.stored (num * 3 + 1) (.int .i64 0)
  obtain ⟨s3, g3⟩ := s2.stored (num * 3 + 2) (.int .i64 0)
  rw [kset_all hnl] at s3
  obtain ⟨hv5, hs5⟩ := hx4.inK (w1 := ((w4.setCell ⟨gk, num * 3, none⟩ (.int .i64 (num : Int))).setCell ⟨gk, num * 3 + 1, none⟩ (.int .i64 0)).setCell ⟨gk, num * 3 + 2, none⟩ (.int .i64 0)) (by rw [ek]; exact grown_trans (grown_trans g1 g2) g3) (l := V4.bk.set num ((num : Int), 0, 0)) (by rw [List.length_set]) (by rw [List.length_set, ek]; exact s3)
  have HFin : Hid (PutOk w lo b h V 0 [] (.returned (.tuple #[.int .i64 (num : Int), .int .i64 0])) (((w4.setCell ⟨gk, num * 3, none⟩ (.int .i64 (num : Int))).setCell ⟨gk, num * 3 + 1, none⟩ (.int .i64 0)).setCell ⟨gk, num * 3 + 2, none⟩ (.int .i64 0))) := Lib.hid ⟨num, h4, _, rfl, hv5, (HS3.out.trans hs4).trans hs5, hPR⟩
  obtain ⟨nk, HNK⟩ : ∃ nk, Hid (V4.bk.length = nk) := ⟨_, Lib.hid rfl⟩
  obtain ⟨q0, q1, q2⟩ : w4.cell? ⟨gk, num * 3, none⟩ = some (.int .i64 V4.bk[num].1) ∧ w4.cell? ⟨gk, num * 3 + 1, none⟩ = some (.int .i64 V4.bk[num].2.1) ∧ w4.cell? ⟨gk, num * 3 + 2, none⟩ = some (.int .i64 V4.bk[num].2.2) := by
    have kc := fun j (hj : j < 3) => (hrk.cellAt (num * 3 + j) (by omega)).trans (rvals_get kenc_len (List.getElem?_eq_getElem hnl) hj)
    exact ⟨kc 0 (by omega), kc 1 (by omega), kc 2 (by omega)⟩
  have f0 := hrk.frozenAt (num * 3)
  have f1 := hrk.frozenAt (num * 3 + 1)
  have f2 := hrk.frozenAt (num * 3 + 2)
  rw [HNK.out] at c2 hn6
  have hnl2 : num < nk := by rw [← HNK.out]; exact hnl
  have hix := ix49 gk num nk ck hnl2
  clear hx4 hs4 hrk ek s1 g1 s2 g2 s3 g3 hv5 hs5 hPR
  generalize V4.bk[num].1 = x1 at q0
  generalize V4.bk[num].2.1 = x2 at q1
  generalize V4.bk[num].2.2 = x3 at q2
  clear hnl
  go_wp2
  go_ret2
  exact HFin.out
end
end Go.Proofs.Ythpcjgfbngemiaa
