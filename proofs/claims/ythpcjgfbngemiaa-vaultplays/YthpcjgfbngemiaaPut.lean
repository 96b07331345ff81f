/-
  A value is kept: Put. A vault is made: New.
-/
import Derived.Test.YthpcjgfbngemiaaTakeB
namespace Go.Proofs.Ythpcjgfbngemiaa
open Go.ChangeShapes Go.WideShapes Go.ChangeAt Go.RowKit
set_option linter.unusedVariables false
set_option maxRecDepth 100000
theorem kset_all {l : List (Int × Int × Int)} {i : Nat} (hi : i < l.length) (u v z : Int) : (((rvals kenc l).set (i * 3) (.int .i64 u)).set (i * 3 + 1) (.int .i64 v)).set (i * 3 + 2) (.int .i64 z) = rvals kenc (l.set i (u, v, z)) := by
  refine List.ext_getElem? fun j => ?_
  rw [List.getElem?_set, List.getElem?_set, List.getElem?_set, List.length_set, List.length_set]
  have hl := rvals_len kenc_len l
  by_cases hj : j < l.length * 3
  · obtain ⟨k, t, hk, rfl⟩ : ∃ k t, t < 3 ∧ j = k * 3 + t := ⟨j / 3, j % 3, by omega, by omega⟩
    have hkl : k < l.length := by omega
    by_cases hki : k = i
    · subst hki
      have h2 : (l.set k (u, v, z))[k]? = some (u, v, z) := by rw [List.getElem?_set_self hkl]
      rw [rvals_get kenc_len h2 hk]
      obtain rfl | rfl | rfl : t = 0 ∨ t = 1 ∨ t = 2 := by omega
      · rw [if_neg (by omega), if_neg (by omega), if_pos (by omega), if_pos (by omega)]; rfl
      · rw [if_neg (by omega), if_pos rfl, if_pos (by omega)]; rfl
      · rw [if_pos rfl, if_pos (by omega)]; rfl
    · have h2 : (l.set i (u, v, z))[k]? = l[k]? := by rw [List.getElem?_set_ne (fun e => hki e.symm)]
      have h3 : l[k]? = some l[k] := List.getElem?_eq_getElem hkl
      rw [if_neg (by omega), if_neg (by omega), if_neg (by omega), rvals_get kenc_len h3 hk, rvals_get kenc_len (h2.trans h3) hk]
  · rw [if_neg (by omega), if_neg (by omega), if_neg (by omega), List.getElem?_eq_none (by omega), List.getElem?_eq_none (by rw [rvals_len kenc_len, List.length_set]; omega)]
section
variable {w : World} {lo b : Nat} {h : Hd} {V : Vl}
theorem put_nil (v : Value) (n c : Nat) (A : Option Addr) (w : World) : Calls Try.prog 9 #[.pointer none, .slice A n c] w fun e w' => e = .returned (.tuple #[.int .i64 0, .int .i64 9]) ∧ w = w' := by
  go_enter Try.func9, Try.ntmps9
  go_wp2
  go_ret2
  exact ⟨rfl, rfl⟩
/-- a Put that goes through, by what takeBytes and takeNumber leave -/
def PutPost (w : World) (lo b : Nat) (h : Hd) (P : Vl → Prop) (num at' m : Nat) (e : Ending) (w' : World) : Prop :=
  e = .returned (.tuple #[.int .i64 (num : Int), .int .i64 0]) ∧ ∃ h3 V3, P V3 ∧ VAt w' lo b h3 { V3 with bk := V3.bk.set num ((num : Int), (at' : Int), (m : Int)) } ∧ Stp b h h3 w w'
set_option maxHeartbeats 1000000 in
theorem put_at (x : VAt w lo b h V) {q o m c at' num : Nat} {ys : List Int} {V1 : Vl} {P : Vl → Prop} (hm : 0 < m) (hy : ys.length = m) (hsrc : ∀ j u, (rvals benc ys)[j]? = some u → w.cell? ⟨q, o + j, none⟩ = some u) (hq : ¬ own b h q) (hql : q < w.heap.size)
    (hroom : V.used + m ≤ V.room) (hr6 : V.room ≤ 1048576)
    (hT : ∀ w', VAt w' lo b h V → Calls Try.prog 22 #[.pointer (some ⟨b, 0, none⟩), .int .i64 (m : Int)] w' fun e w1 => e = .returned (.int .i64 (at' : Int)) ∧ ∃ h1, VAt w1 lo b h1 V1 ∧ Stp b h h1 w' w1)
    (hat : at' + m ≤ V1.bs.length) (hb6 : V1.bs.length ≤ 1048576) (hu1 : V1.used = V.used)
    (hN : ∀ w2 h2, VAt w2 lo b h2 { V1 with bs := over V1.bs at' ys, used := V1.used + m } → Calls Try.prog 23 #[.pointer (some ⟨b, 0, none⟩)] w2 fun e w3 => e = .returned (.int .i64 (num : Int)) ∧ ∃ h3 V3, P V3 ∧ VAt w3 lo b h3 V3 ∧ Stp b h2 h3 w2 w3)
    (hnum : ∀ V3, P V3 → num < V3.bk.length ∧ V3.bk.length ≤ 1000000) :
    Calls Try.prog 9 #[.pointer (some ⟨b, 0, none⟩), .slice (some ⟨q, o, none⟩) m c] w (PutPost w lo b h P num at' m) := by
  have HX := Lib.hid x
  have c0 := x.c0
  have c5 := x.c5
  have HT := Lib.hid hT
  have HNN := Lib.hid hN
  have HNUM := Lib.hid hnum
  have HSRC := Lib.hid hsrc
  have HQ := Lib.hid (⟨hq, hql⟩ : ¬ own b h q ∧ q < w.heap.size)
  obtain ⟨us, HUS⟩ : ∃ us, Hid (V.used = us) := ⟨_, Lib.hid rfl⟩
  obtain ⟨rm, HRM⟩ : ∃ rm, Hid (V.room = rm) := ⟨_, Lib.hid rfl⟩
  rw [HUS.out] at c5 hroom
  rw [HRM.out] at c0 hroom hr6
  have k0 : ¬ ((rm : Int) - (us : Int) < (m : Int)) := by omega
  have HU1 := Lib.hid hu1
  clear x hT hN hnum hsrc hq hql hu1
  go_enter Try.func9, Try.ntmps9
  go_wp2_with fail
  go_quiet (fail)
  have HG0 := Lib.hid (grown_drewN w nq none)
  clear c0 c5
  generalize w.drewN nq = w0 at *
  have HX0 := Lib.hid (HX.out.kept HG0.out)
  have HT0 := Lib.hid (HT.out w0 HX0.out)
  go_wp2_with fail
  refine HT0.out.mono ?_
  rintro e w1 ⟨rfl, h1, hx1, hs1⟩
  -- the bytes
  obtain ⟨g, c1, eg⟩ := owns_some hx1.rB (by omega)
  have hr := hx1.rB
  rw [eg] at hr
  obtain ⟨n, HN⟩ : ∃ n, Hid (V1.bs.length = n) := ⟨_, Lib.hid rfl⟩
  have d1 := hx1.c1
  rw [eg] at d1
  rw [HN.out] at hr d1 hat hb6
  have hcap := owns_cap hr
  obtain ⟨w2, hr2, ho2, hg2⟩ := copy_bytes (t := at') (q := q) (o := o) (m := m) (ys := ys) hr HN.out hy (by omega) (fun j u hu => by
    have h2 := HSRC.out j u hu
    have hb1 : w1.heap[q]? = w.heap[q]? := (hs1.but.block q (Nat.lt_of_lt_of_le HQ.out.2 HG0.out.size) HQ.out.1).trans (HG0.out.block q HQ.out.2 (by simp))
    exact (World.cell?_of_block (a := ⟨q, o + j, none⟩) hb1).trans h2) 3
  obtain ⟨hv2, hs2⟩ := hx1.inB (w1 := w2) (by rw [eg]; exact hg2) (l := over V1.bs at' ys) (over_len (by rw [hy, HN.out]; omega)) (by rw [over_len (by rw [hy, HN.out]; omega), eg, HN.out]; exact ho2)
  obtain ⟨hv3, hs3⟩ := hv2.used' (V1.used + m)
  have HV3 := Lib.hid hv3
  have HS3 := Lib.hid (((Stp.of_new HG0.out).trans hs1).trans (hs2.trans hs3))
  have c5 := hv2.c5
  have f5 := hv2.free 5
  dsimp only at c5
  rw [HU1.out, HUS.out] at c5
  have k1 : (0 : Int) ≤ (at' : Int) := by omega
  have k2 : (at' : Int) ≤ (n : Int) := by omega
  have k3 : (at' : Int) ≤ (c1 : Int) := by omega
  have k4 : ¬ (c1 : Int) = (at' : Int) := by omega
  have hr4 := fun dc sc => hr2 (n - at') dc sc (by omega)
  have HW3 : Hid (((V1.used + m : Nat) : Int) = (us : Int) + (m : Int)) := Lib.hid (by rw [HU1.out, HUS.out]; omega)
  rw [HW3.out] at HV3 HS3
  clear hx1 hs1 eg hr ho2 hg2 hv2 hs2 hv3 hs3 hcap hr2 HT HT0
  go_wp2_with fail
  clear hr4 c5 f5 d1 k1 k2 k3 k4
  generalize w2.setCell ⟨b, 5, none⟩ (.int .i64 ((us : Int) + (m : Int))) = w3 at *
  refine (HNN.out w3 h1 HV3.out).mono ?_
  rintro e w4 ⟨rfl, h4, V4, hP, hx4, hs4⟩
  obtain ⟨hnl, hn6⟩ := HNUM.out V4 hP
  obtain ⟨gk, ck, ek⟩ := owns_some hx4.rK (by omega)
  have hrk := hx4.rK
  rw [ek] at hrk
  have c2 := hx4.c2
  rw [ek] at c2
  obtain ⟨s1, g1⟩ := hrk.stored (num * 3) (.int .i64 (num : Int))
  obtain ⟨s2, g2⟩ := s1.stored (num * 3 + 1) (.int .i64 (at' : Int))
  obtain ⟨s3, g3⟩ := s2.stored (num * 3 + 2) (.int .i64 (m : Int))
  rw [kset_all hnl] at s3
  obtain ⟨hv5, hs5⟩ := hx4.inK (w1 := ((w4.setCell ⟨gk, num * 3, none⟩ (.int .i64 (num : Int))).setCell ⟨gk, num * 3 + 1, none⟩ (.int .i64 (at' : Int))).setCell ⟨gk, num * 3 + 2, none⟩ (.int .i64 (m : Int))) (by rw [ek]; exact grown_trans (grown_trans g1 g2) g3) (l := V4.bk.set num ((num : Int), (at' : Int), (m : Int))) (by rw [List.length_set]) (by rw [List.length_set, ek]; exact s3)
  have HFin : Hid (PutPost w lo b h P num at' m (.returned (.tuple #[.int .i64 (num : Int), .int .i64 0])) (((w4.setCell ⟨gk, num * 3, none⟩ (.int .i64 (num : Int))).setCell ⟨gk, num * 3 + 1, none⟩ (.int .i64 (at' : Int))).setCell ⟨gk, num * 3 + 2, none⟩ (.int .i64 (m : Int)))) := Lib.hid ⟨rfl, h4, V4, hP, hv5, (HS3.out.trans hs4).trans hs5⟩
  obtain ⟨nk, HNK⟩ : ∃ nk, Hid (V4.bk.length = nk) := ⟨_, Lib.hid rfl⟩
  obtain ⟨q0, q1, q2⟩ : w4.cell? ⟨gk, num * 3, none⟩ = some (.int .i64 V4.bk[num].1) ∧ w4.cell? ⟨gk, num * 3 + 1, none⟩ = some (.int .i64 V4.bk[num].2.1) ∧ w4.cell? ⟨gk, num * 3 + 2, none⟩ = some (.int .i64 V4.bk[num].2.2) := by
    have kc := fun j (hj : j < 3) => (hrk.cellAt (num * 3 + j) (by omega)).trans (rvals_get kenc_len (List.getElem?_eq_getElem hnl) hj)
    exact ⟨kc 0 (by omega), kc 1 (by omega), kc 2 (by omega)⟩
  have f0 := hrk.frozenAt (num * 3)
  have f1 := hrk.frozenAt (num * 3 + 1)
  have f2 := hrk.frozenAt (num * 3 + 2)
  rw [HNK.out] at c2 hn6
  have hnl2 : num < nk := by rw [← HNK.out]; exact hnl
  have hix := ix49 gk num nk ck hnl2
  clear hx4 hs4 hrk ek s1 g1 s2 g2 s3 g3 hv5 hs5 hP
  generalize V4.bk[num].1 = x1 at q0
  generalize V4.bk[num].2.1 = x2 at q1
  generalize V4.bk[num].2.2 = x3 at q2
  clear hnl
  go_wp2
  go_ret2
  exact HFin.out
end
end Go.Proofs.Ythpcjgfbngemiaa
