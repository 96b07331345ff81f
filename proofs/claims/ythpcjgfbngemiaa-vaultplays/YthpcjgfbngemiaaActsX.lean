/-
  Put and Drop: where a block comes to stand, and which number it gets.
-/
import Derived.Test.YthpcjgfbngemiaaActs
import Derived.Test.YthpcjgfbngemiaaRefN
namespace Go.Proofs.Ythpcjgfbngemiaa
open Go.ChangeShapes Go.WideShapes Go.ChangeAt Go.RowKit
set_option linter.unusedVariables false
set_option maxRecDepth 100000
/-- which bytes are taken -/
def TakeX (V V1 : Vl) (ga m : Nat) : Prop :=
  (m = 0 ∧ ga = 0 ∧ V1 = V) ∨
  (0 < m ∧ ∃ (i gm : Nat) (z : List Int), V.gp[i]? = some ((ga : Int), (gm : Int)) ∧ m ≤ gm ∧ (∀ j, j < i → ∀ q, V.gp[j]? = some q → ¬ (m : Int) ≤ q.2) ∧ V1.bk = V.bk ∧ V1.bs = V.bs ++ z ∧ V1.packs = V.packs ∧ V1.moved = V.moved) ∨
  (0 < m ∧ (∀ p ∈ V.gp, ¬ (m : Int) ≤ p.2) ∧ ∃ (l : List (Int × Int × Int)) (gm : Nat) (z : List Int), l.Perm (alive V.bk) ∧ (l.Pairwise fun a b => ¬ ltB b a) ∧ (packF l V).gp = [((ga : Int), (gm : Int))] ∧ m ≤ gm ∧ V1.bk = (packF l V).bk ∧ V1.bs = (packF l V).bs ++ z ∧ V1.packs = (packF l V).packs ∧ V1.moved = (packF l V).moved)
structure NumX (V1 : Vl) (num : Nat) : Prop where
  low : ∀ j, j < num → ∃ a n, Blk V1 j a n
  free : ∀ a n, ¬ Blk V1 num a n
def PutX (V V' : Vl) (num m : Nat) (ys : List Int) : Prop :=
  ∃ V1 ga, TakeR V V1 ga m ∧ TakeX V V1 ga m ∧ NumX V1 num ∧ (alive V'.bk).Perm (((num : Int), (ga : Int), (m : Int)) :: alive V1.bk) ∧ V'.bs = over V1.bs ga ys ∧ V'.packs = V1.packs ∧ V'.moved = V1.moved
theorem VM.blk_or {V : Vl} {fa fm : Nat} (h : VM V fa fm) {j : Nat} (hj : j < V.bk.length) : (∃ a n, Blk V j a n) ∨ (j : Int) ∈ V.fr := by
  rcases h.kin j _ (List.getElem?_eq_getElem hj) with h1 | ⟨a, n, he, _⟩
  · exact .inr ((h.fr _).2 ⟨j, _, rfl, List.getElem?_eq_getElem hj, h1⟩)
  · exact .inl ⟨a, n, by unfold Blk; rw [List.getElem?_eq_getElem hj, he]⟩
theorem VM.num_len {V : Vl} {fa fm : Nat} (h : VM V fa fm) (hf : V.fr = []) : NumX V V.bk.length :=
  ⟨fun j hj => (h.blk_or hj).resolve_right (by rw [hf]; simp), fun a n hb => by
    have := (List.getElem?_eq_some_iff.1 hb).1
    omega⟩
theorem VM.num_heap {V : Vl} {fa fm : Nat} (h : VM V fa fm) {d : Nat → Int} {n : Nat} (hf : V.fr = vals d (n + 1)) (hp : Heap (n + 1) d) {num : Nat} {t : Int × Int × Int} (e0 : d 0 = (num : Int)) (g0 : V.bk[num]? = some t) (g1 : t.1 = -1) : NumX V num := by
  have hl := (List.getElem?_eq_some_iff.1 g0).1
  refine ⟨fun j hj => (h.blk_or (by omega)).resolve_right fun hc => ?_, fun a m hb => ?_⟩
  · rw [hf] at hc
    obtain ⟨i, hi⟩ := List.mem_iff_getElem?.1 hc
    have hil := (List.getElem?_eq_some_iff.1 hi).1
    rw [vals_len] at hil
    have hle := hp.least i hil
    have e : d i = (j : Int) := by
      have h1 : (vals d (n + 1))[i]? = some (d i) := by unfold vals; simp [hil]
      rw [h1] at hi
      injection hi
    omega
  · unfold Blk at hb
    rw [g0] at hb
    injection hb with hb
    rw [hb] at g1
    dsimp only at g1
    omega
section
variable {w : World} {lo b : Nat} {h : Hd} {V : Vl}
def PutOkX (w : World) (lo b : Nat) (h : Hd) (V : Vl) (m : Nat) (ys : List Int) (e : Ending) (w' : World) : Prop :=
  ∃ num h' V', e = .returned (.tuple #[.int .i64 ((num : Nat) : Int), .int .i64 0]) ∧ VAt w' lo b h' V' ∧ Stp b h h' w w' ∧ PutR V V' num m ys ∧ PutX V V' num m ys
def DropOkX (w : World) (lo b : Nat) (h : Hd) (V : Vl) (i a m : Nat) (e : Ending) (w' : World) : Prop :=
  e = .returned (.bool true) ∧ ∃ h' V', VAt w' lo b h' V' ∧ Stp b h h' w w' ∧ V'.bk = V.bk.set i (-1, (a : Int), (m : Int)) ∧ V'.bs = V.bs ∧ DropR V V' i
/-- bytes are taken, one way or the other -/
theorem take_okX (lo b : Nat) (h : Hd) (hv : VM V 0 0) {m : Nat} (hm : 0 < m) (hroom : V.used + m ≤ V.room) (hk : V.bk.length ≤ 90000) (hmv : V.moved ≤ 900000000000) (hpk : V.packs ≤ 900000000000) :
    ∃ V1 ga, TakeR V V1 ga m ∧ TakeX V V1 ga m ∧ ∀ w', VAt w' lo b h V → Calls Try.prog 22 #[.pointer (some ⟨b, 0, none⟩), .int .i64 (m : Int)] w' fun e w1 => e = .returned (.int .i64 (ga : Int)) ∧ ∃ h1, VAt w1 lo b h1 V1 ∧ Stp b h h1 w' w1 := by
  have hr6 := hv.room
  have hbl := hv.bsl
  have hgl := hv.gp_len
  by_cases hex : ∃ i : Nat, ∃ p, V.gp[i]? = some p ∧ (m : Int) ≤ p.2
  · obtain ⟨i, ⟨p, hp, hmp⟩, hmin⟩ := least hex
    have hpos := hv.g.pos p (List.mem_of_getElem? hp)
    have hend := hv.gend p (List.mem_of_getElem? hp)
    obtain ⟨ga, hga⟩ : ∃ ga : Nat, p.1 = (ga : Int) := ⟨p.1.toNat, by omega⟩
    obtain ⟨gm, hgm⟩ : ∃ gm : Nat, p.2 = (gm : Int) := ⟨p.2.toNat, by omega⟩
    have hp2 : V.gp[i]? = some ((ga : Int), (gm : Int)) := by rw [hp, ← hga, ← hgm]
    refine ⟨_, ga, TakeR.gap hv hp2 hm (by omega) hroom, .inr (.inl ⟨hm, i, gm, _, hp2, by omega, fun j hj q hq hle => hmin j hj ⟨q, hq, hle⟩, rfl, rfl, rfl, rfl⟩), fun w' hx' => ?_⟩
    refine (takeB_gap hx' hm hp2 (by omega) (fun j q hj hq hle => hmin j hj ⟨q, hq, hle⟩) (by omega) (by omega) (by omega)).mono ?_
    rintro e w1 ⟨he, vB, vG, hv1, hs1⟩
    exact ⟨he, _, hv1, hs1⟩
  · obtain ⟨l, hlp, hls⟩ := sorted_ex (alive V.bk)
    obtain ⟨ok, hend, h1, h2, h3, h4, h5, h6, h7, h8⟩ := hv.pack (by omega) hmv hlp hls
    have hgp : (packF l V).gp = [((V.used : Int), ((V.room - V.used : Nat) : Int))] := by
      unfold packF
      dsimp only
      rw [hend, if_neg (by omega)]
    have hpk1 : (packF l V).packs = V.packs + 1 := by
      unfold packF
      dsimp only
      rw [(pk_room l 0 V).2.1]
    refine ⟨_, V.used, TakeR.pack hv (by omega) hmv hlp hls (by rw [hpk1]; exact Nat.le_refl _) hgp hm (by omega) hroom, .inr (.inr ⟨hm, fun p hp hle => hex (by
      obtain ⟨i, hi⟩ := List.mem_iff_getElem?.1 hp
      exact ⟨i, p, hi, hle⟩), l, V.room - V.used, _, hlp, hls, hgp, by omega, rfl, rfl, rfl, rfl⟩), fun w' hx' => ?_⟩
    refine (takeB_pack hx' hm (fun p hp hle => hex (by
      obtain ⟨i, hi⟩ := List.mem_iff_getElem?.1 hp
      exact ⟨i, p, hi, hle⟩)) (by omega) (by omega) hr6 (by omega) (fun l2 hp2 hs2 => by
        obtain rfl := sorted_one hv hp2 hs2 hlp hls
        exact ⟨ok, by rw [hend]; omega⟩) (fun l2 hp2 hs2 => by
        obtain rfl := sorted_one hv hp2 hs2 hlp hls
        exact ⟨V.used, V.room - V.used, hgp, by omega, by omega, by rw [h8]; omega⟩)).mono ?_
    rintro e w1 ⟨l2, ga, gm, hp2, hs2, hg2, hkm, he, vB, vG, hv1, hs1⟩
    obtain rfl := sorted_one hv hp2 hs2 hlp hls
    rw [hgp] at hg2
    injection hg2 with e1 _
    injection e1 with e2 e3
    obtain rfl : V.used = ga := by omega
    obtain rfl : V.room - V.used = gm := by omega
    exact ⟨he, _, hv1, hs1⟩
theorem num_okX (lo b : Nat) {V1 : Vl} {ga m : Nat} (t : TakeR V V1 ga m) (tx : TakeX V V1 ga m) {ys : List Int} (hy : ys.length = m) (h0 : m = 0 → ga = 0) (hk : V.bk.length ≤ 90000) :
    ∃ num : Nat, ∀ w2 h2, VAt w2 lo b h2 { V1 with bs := over V1.bs ga ys, used := V1.used + m } → Calls Try.prog 23 #[.pointer (some ⟨b, 0, none⟩)] w2 fun e w3 => e = .returned (.int .i64 (num : Int)) ∧ ∃ h3 V3, (num < V3.bk.length ∧ V3.bk.length ≤ 1000000 ∧ PutR V { V3 with bk := V3.bk.set num ((num : Int), (ga : Int), (m : Int)) } num m ys ∧ PutX V { V3 with bk := V3.bk.set num ((num : Int), (ga : Int), (m : Int)) } num m ys) ∧ VAt w3 lo b h3 V3 ∧ Stp b h2 h3 w2 w3 := by
  obtain ⟨d, n, hf, hp⟩ := t.vm.heap
  have hkl := t.kl
  cases n with
  | zero =>
    have hf0 : V1.fr = [] := hf
    refine ⟨V1.bk.length, fun w2 h2 hx2 => ?_⟩
    refine (takeN_new hx2 hf0 (by show V1.bk.length ≤ _; omega)).mono ?_
    rintro e w3 ⟨he, v, hv, hs⟩
    obtain ⟨q1, q2, q3, q4⟩ := num_new V1.bk ga m
    refine ⟨he, _, _, ⟨?_, ?_, ?_, ?_⟩, hv, hs⟩
    · show V1.bk.length < (V1.bk ++ [(0, 0, 0)]).length
      simp
    · show (V1.bk ++ [(0, 0, 0)]).length ≤ 1000000
      simp; omega
    · exact PutR.of t hy h0 q1 q2 q3 q4 (by rw [hf0]; exact ⟨d, 0, rfl, hp⟩) (fun i => by rw [hf0]; simp) (by rw [hf0]; exact List.nodup_nil) (by simp)
    · exact ⟨V1, ga, t, tx, t.vm.num_len hf0, alive_new V1.bk _ (by show ((V1.bk.length : Nat) : Int) ≠ -1; omega), rfl, rfl, rfl⟩
  | succ n =>
    have hd0 : d 0 ∈ V1.fr := by
      rw [hf]
      exact List.mem_iff_getElem?.2 ⟨0, by simp [vals]⟩
    obtain ⟨num, t0, e0, g0, g1⟩ := (t.vm.fr (d 0)).1 hd0
    have hlen := t.vm.fr_len
    have hvl : V1.fr.length = n + 1 := by rw [hf]; simp [vals]
    refine ⟨num, fun w2 h2 hx2 => ?_⟩
    refine (takeN_free (d := d) (n := n) ⟨hx2, hf⟩ hp (by omega)).mono ?_
    rintro e w3 ⟨he, v, d', hv, hs, hh, hperm⟩
    rw [← hf, e0] at hperm
    obtain ⟨q1, q2, q3, q4, q5, q6⟩ := t.vm.num_free hperm ga m
    refine ⟨by rw [he, e0], _, _, ⟨?_, ?_, ?_, ?_⟩, hv, hs⟩
    · exact (List.getElem?_eq_some_iff.1 g0).1
    · show V1.bk.length ≤ 1000000
      omega
    · exact PutR.of t hy h0 q1 q2 q3 q4 ⟨d', n, rfl, hh⟩ q5 q6 (by rw [List.length_set]; exact Nat.le_succ _)
    · exact ⟨V1, ga, t, tx, t.vm.num_heap hf hp e0 g0 g1, alive_in g0 g1 (by show ((num : Nat) : Int) ≠ -1; omega), rfl, rfl, rfl⟩
theorem put_okX (x : VAt w lo b h V) (hv : VM V 0 0) {q o m c : Nat} {ys : List Int} (hm : 0 < m) (hy : ys.length = m) (hsrc : ∀ j u, (rvals benc ys)[j]? = some u → w.cell? ⟨q, o + j, none⟩ = some u) (hq : ¬ own b h q) (hql : q < w.heap.size)
    (hroom : V.used + m ≤ V.room) (hk : V.bk.length ≤ 90000) (hmv : V.moved ≤ 900000000000) (hpk : V.packs ≤ 900000000000) :
    Calls Try.prog 9 #[.pointer (some ⟨b, 0, none⟩), .slice (some ⟨q, o, none⟩) m c] w (PutOkX w lo b h V m ys) := by
  obtain ⟨V1, ga, t, tx, hT⟩ := take_okX lo b h hv hm hroom hk hmv hpk
  obtain ⟨num, hN⟩ := num_okX lo b t tx hy (fun e => by omega) hk
  refine (put_at x hm hy hsrc hq hql hroom hv.room hT t.len (by have := t.vm.bsl; have := t.vm.room; omega) t.used hN (fun V3 hV3 => ⟨hV3.1, hV3.2.1⟩)).mono ?_
  rintro e w' ⟨he, h3, V3, hP, hx3, hs3⟩
  exact ⟨num, h3, _, he, hx3, hs3, hP.2.2.1, hP.2.2.2⟩
set_option maxHeartbeats 1000000 in
theorem put_zeroX (x : VAt w lo b h V) (hv : VM V 0 0) (A : Option Addr) (c : Nat) (hk : V.bk.length ≤ 90000) :
    Calls Try.prog 9 #[.pointer (some ⟨b, 0, none⟩), .slice A 0 c] w (PutOkX w lo b h V 0 []) := by
  obtain ⟨num, hN⟩ := num_okX lo b (TakeR.zero hv) (.inl ⟨rfl, rfl, rfl⟩) (ys := []) rfl (fun _ => rfl) hk
  rw [over_nil, Nat.add_zero] at hN
  have HX := Lib.hid x
  have c0 := x.c0
  have c5 := x.c5
  have HNN := Lib.hid hN
  obtain ⟨us, HUS⟩ : ∃ us, Hid (V.used = us) := ⟨_, Lib.hid rfl⟩
  obtain ⟨rm, HRM⟩ : ∃ rm, Hid (V.room = rm) := ⟨_, Lib.hid rfl⟩
  have hur := hv.ur
  have hr6 := hv.room
  rw [HUS.out] at c5 hur
  rw [HRM.out] at c0 hur hr6
  have k0 : ¬ ((rm : Int) - (us : Int) < 0) := by omega
  have HV := Lib.hid hv
  clear x hN hv
  go_enter Try.func9, Try.ntmps9
  go_wp2_with fail
  go_quiet (fail)
  have HG0 := Lib.hid (grown_drewN w nq none)
  clear c0 c5
  generalize w.drewN nq = w0 at *
  have HX0 := Lib.hid (HX.out.kept HG0.out)
  have HT0 := Lib.hid (takeB_zero HX0.out)
  go_wp2_with fail
  refine HT0.out.mono ?_
  rintro e w1 ⟨rfl, hg1⟩
  have hx1 := HX0.out.kept hg1
  have HG1 := Lib.hid (grown_trans HG0.out hg1)
  have c5 := hx1.c5
  have f5 := hx1.free 5
  have d1 := hx1.c1
  rw [HUS.out] at c5
  obtain ⟨hv3, hs3⟩ := hx1.used' V.used
  rw [HUS.out] at hv3 hs3
  have e0 : ({ V with used := us } : Vl) = V := by rw [← HUS.out]
  rw [e0] at hv3
  have HV3 := Lib.hid hv3
  have HS3 := Lib.hid ((Stp.of_new HG1.out).trans hs3)
  obtain ⟨D, kD, eD, hsl⟩ := slice_zero hx1.rB
  obtain ⟨nB, HNB⟩ : ∃ nB, Hid (V.bs.length = nB) := ⟨_, Lib.hid rfl⟩
  rw [eD] at d1
  rw [HNB.out] at d1 hsl
  have hcp := copy_zero D nB kD A c
  clear hv3 hs3 hg1 HT0 e0 eD hx1
  go_wp2_with fail
  clear hsl hcp c5 f5 d1
  generalize w1.setCell ⟨b, 5, none⟩ (.int .i64 (us : Int)) = w3 at *
  refine (HNN.out w3 h HV3.out).mono ?_
  rintro e w4 ⟨rfl, h4, V4, hP, hx4, hs4⟩
  obtain ⟨hnl, hn6, hPR, hPX⟩ := hP
  obtain ⟨gk, ck, ek⟩ := owns_some hx4.rK (by omega)
  have hrk := hx4.rK
  rw [ek] at hrk
  have c2 := hx4.c2
  rw [ek] at c2
  obtain ⟨s1, g1⟩ := hrk.stored (num * 3) (.int .i64 (num : Int))
  obtain ⟨s2, g2⟩ := s1.stored (num * 3 + 1) (.int .i64 0)
  obtain ⟨s3, g3⟩ := s2.stored (num * 3 + 2) (.int .i64 0)
  rw [kset_all hnl] at s3
  obtain ⟨hv5, hs5⟩ := hx4.inK (w1 := ((w4.setCell ⟨gk, num * 3, none⟩ (.int .i64 (num : Int))).setCell ⟨gk, num * 3 + 1, none⟩ (.int .i64 0)).setCell ⟨gk, num * 3 + 2, none⟩ (.int .i64 0)) (by rw [ek]; exact grown_trans (grown_trans g1 g2) g3) (l := V4.bk.set num ((num : Int), 0, 0)) (by rw [List.length_set]) (by rw [List.length_set, ek]; exact s3)
  have HFin : Hid (PutOkX w lo b h V 0 [] (.returned (.tuple #[.int .i64 (num : Int), .int .i64 0])) (((w4.setCell ⟨gk, num * 3, none⟩ (.int .i64 (num : Int))).setCell ⟨gk, num * 3 + 1, none⟩ (.int .i64 0)).setCell ⟨gk, num * 3 + 2, none⟩ (.int .i64 0))) := Lib.hid ⟨num, h4, _, rfl, hv5, (HS3.out.trans hs4).trans hs5, hPR, hPX⟩
  obtain ⟨nk, HNK⟩ : ∃ nk, Hid (V4.bk.length = nk) := ⟨_, Lib.hid rfl⟩
  obtain ⟨q0, q1, q2⟩ : w4.cell? ⟨gk, num * 3, none⟩ = some (.int .i64 V4.bk[num].1) ∧ w4.cell? ⟨gk, num * 3 + 1, none⟩ = some (.int .i64 V4.bk[num].2.1) ∧ w4.cell? ⟨gk, num * 3 + 2, none⟩ = some (.int .i64 V4.bk[num].2.2) := by
    have kc := fun j (hj : j < 3) => (hrk.cellAt (num * 3 + j) (by omega)).trans (rvals_get kenc_len (List.getElem?_eq_getElem hnl) hj)
    exact ⟨kc 0 (by omega), kc 1 (by omega), kc 2 (by omega)⟩
  have f0 := hrk.frozenAt (num * 3)
  have f1 := hrk.frozenAt (num * 3 + 1)
  have f2 := hrk.frozenAt (num * 3 + 2)
  rw [HNK.out] at c2 hn6
  have hnl2 : num < nk := by rw [← HNK.out]; exact hnl
  have hix := ix49 gk num nk ck hnl2
  clear hx4 hs4 hrk ek s1 g1 s2 g2 s3 g3 hv5 hs5 hPR hPX
  generalize V4.bk[num].1 = x1 at q0
  generalize V4.bk[num].2.1 = x2 at q1
  generalize V4.bk[num].2.2 = x3 at q2
  clear hnl
  go_wp2
  go_ret2
  exact HFin.out
theorem drop_okX (x : VAt w lo b h V) (hv : VM V 0 0) (hk : V.bk.length ≤ 90000) {i a m : Nat} (hi : Blk V i a m) :
    Calls Try.prog 12 #[.pointer (some ⟨b, 0, none⟩), .int .i64 (i : Int)] w (DropOkX w lo b h V i a m) := by
  obtain ⟨d, n, hf, hp⟩ := hv.heap
  have hfl := hv.fr_len
  have hnl : V.fr.length = n := by rw [hf, vals_len]
  have hr6 := hv.room
  have hur := hv.ur
  have hbl := hv.bsl
  have hal := hv.blk_len hi
  have hu := hv.used
  have hil : i < V.bk.length := (List.getElem?_eq_some_iff.1 hi).1
  by_cases hm : m = 0
  · subst hm
    have hi0 : V.bk[i]? = some ((i : Int), (a : Int), 0) := hi
    refine (drop_zero ⟨x, hf⟩ hp (by omega) hi0 (by omega) (by omega)).mono ?_
    rintro e w' ⟨he, h', d', hh, hperm, hx', hs'⟩
    rw [← hf] at hperm
    obtain ⟨hl, hlu⟩ := hv.leave hi ⟨d', n + 1, rfl, hh⟩ hperm
    refine ⟨he, h', _, hx', hs', rfl, rfl, hl.none, rfl, fun a2 n2 hb => ?_, ⟨_, set_get hi _, rfl⟩, fun k a2 n2 hki hb => ⟨?_, rfl⟩, by rw [List.length_set], rfl, rfl⟩
    · have := (hi.eq hb).2
      show V.used + n2 = V.used
      omega
    · unfold Blk at hb ⊢
      rw [List.getElem?_set_ne (Ne.symm hki)]
      exact hb
  · have hlu : m ≤ V.used := by
      have := sum_set hi (-1, (a : Int), (m : Int))
      rw [wt_dead, wt_blk] at this
      omega
    refine (drop_at ⟨x, hf⟩ hp (by omega) hi (by omega) (by omega) (by omega) hlu (by omega) hv.gb6 hv.g.rises (by have := hv.gp_len; omega)).mono ?_
    rintro e w' ⟨he, h', d', gi, hsp, hh, hperm, hx', hs'⟩
    rw [← hf] at hperm
    obtain ⟨hl, _⟩ := hv.leave hi ⟨d', n + 1, rfl, hh⟩ hperm
    refine ⟨he, h', _, hx', hs', rfl, rfl, hl.addGap (by omega) hsp, rfl, fun a2 n2 hb => ?_, ⟨_, set_get hi _, rfl⟩, fun k a2 n2 hki hb => ⟨?_, rfl⟩, by rw [List.length_set], rfl, rfl⟩
    · have := (hi.eq hb).2
      show V.used - m + n2 = V.used
      omega
    · unfold Blk at hb ⊢
      show (V.bk.set i _)[k]? = _
      rw [List.getElem?_set_ne (Ne.symm hki)]
      exact hb
/-- Put of any value -/
theorem put_anyX (x : VAt w lo b h V) (hv : VM V 0 0) {A : Option Addr} {n c : Nat} {ys : List Int} (hs : Src w A n ys) (hq : n ≠ 0 → ∀ q o, A = some ⟨q, o, none⟩ → ¬ own b h q) (hk : V.bk.length ≤ 90000) (hmv : V.moved ≤ 900000000000) (hpk : V.packs ≤ 900000000000) :
    Calls Try.prog 9 #[.pointer (some ⟨b, 0, none⟩), .slice A n c] w fun e w' => (V.room < V.used + n ∧ e = .returned (.tuple #[.int .i64 0, .int .i64 3]) ∧ w.grownBy w' none) ∨ (V.used + n ≤ V.room ∧ PutOkX w lo b h V n ys e w') := by
  by_cases hf : V.room < V.used + n
  · exact (put_full x A n c hv.room (by have := hv.ur; omega) hf).mono fun e w' ⟨h1, h2⟩ => .inl ⟨hf, h1, h2⟩
  · obtain ⟨h1, h2, h3⟩ := hs
    by_cases h0 : n = 0
    · subst h0
      obtain rfl := List.length_eq_zero_iff.1 h1
      exact (put_zeroX x hv A c hk).mono fun e w' hp => .inr ⟨by omega, hp⟩
    · rcases h2 with h2 | ⟨q, o, rfl, hql, hc⟩
      · exact absurd h2 h0
      · exact (put_okX x hv (by omega) h1 hc (hq h0 q o rfl) hql (by omega) hk hmv hpk).mono fun e w' hp => .inr ⟨by omega, hp⟩
/-- Drop of any number -/
theorem drop_anyX (x : VAt w lo b h V) (hv : VM V 0 0) (hk : V.bk.length ≤ 90000) (i : Int) :
    Calls Try.prog 12 #[.pointer (some ⟨b, 0, none⟩), .int .i64 i] w fun e w' => (e = .returned (.bool false) ∧ w.grownBy w' none ∧ ∀ (k a m : Nat), i = (k : Int) → ¬ Blk V k a m) ∨ ∃ (k a m : Nat), i = (k : Int) ∧ Blk V k a m ∧ DropOkX w lo b h V k a m e w' := by
  have hno : (i < 0 ∨ (V.bk.length : Int) ≤ i ∨ ∃ (k : Nat) (p : Int × Int × Int), i = (k : Int) ∧ V.bk[k]? = some p ∧ p.1 = -1) ∨ ∃ (k a m : Nat), i = (k : Int) ∧ Blk V k a m := by
    by_cases h1 : i < 0
    · exact .inl (.inl h1)
    · by_cases h2 : (V.bk.length : Int) ≤ i
      · exact .inl (.inr (.inl h2))
      · obtain ⟨k, rfl⟩ : ∃ k : Nat, i = k := ⟨i.toNat, by omega⟩
        have hkl : k < V.bk.length := by omega
        have hg := List.getElem?_eq_getElem hkl
        rcases hv.kin k _ hg with h3 | ⟨a, m, he, _⟩
        · exact .inl (.inr (.inr ⟨k, _, rfl, hg, h3⟩))
        · exact .inr ⟨k, a, m, rfl, by unfold Blk; rw [hg, he]⟩
  rcases hno with hno | ⟨k, a, m, rfl, hb⟩
  · refine (drop_no x (by omega) i hno).mono fun e w' ⟨h1, h2⟩ => .inl ⟨h1, h2, fun k a m hi hb => ?_⟩
    have hkl : k < V.bk.length := (List.getElem?_eq_some_iff.1 hb).1
    rcases hno with h3 | h3 | ⟨k2, p, e2, h4, h5⟩
    · omega
    · omega
    · obtain rfl : k = k2 := by omega
      unfold Blk at hb
      rw [hb] at h4
      injection h4 with h4
      subst h4
      have : (k : Int) = -1 := h5
      omega
  · exact (drop_okX x hv hk hb).mono fun e w' hd => .inr ⟨k, a, m, rfl, hb, hd⟩
end
end Go.Proofs.Ythpcjgfbngemiaa
