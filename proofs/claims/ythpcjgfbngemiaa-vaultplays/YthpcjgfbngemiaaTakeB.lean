/-
  Bytes for a new block: takeBytes.
-/
import Derived.Test.YthpcjgfbngemiaaPack
namespace Go.Proofs.Ythpcjgfbngemiaa
open Go.ChangeShapes Go.WideShapes Go.ChangeAt Go.RowKit
set_option linter.unusedVariables false
set_option maxRecDepth 100000
theorem gset_both {l : List (Int × Int)} {i : Nat} {p : Int × Int} {a v : Int} (h : l[i]? = some p) : ((rvals genc l).set (i * 2) (.int .i64 a)).set (i * 2 + 1) (.int .i64 v) = rvals genc (l.set i (a, v)) := by
  have hi := (List.getElem?_eq_some_iff.1 h).1
  refine List.ext_getElem? fun j => ?_
  rw [List.getElem?_set, List.getElem?_set, List.length_set]
  have hl := rvals_len genc_len l
  by_cases hj : j < l.length * 2
  · obtain ⟨k, t, hk, rfl⟩ : ∃ k t, t < 2 ∧ j = k * 2 + t := ⟨j / 2, j % 2, by omega, by omega⟩
    have hkl : k < l.length := by omega
    by_cases hki : k = i
    · subst hki
      have h2 : (l.set k (a, v))[k]? = some (a, v) := by rw [List.getElem?_set_self hkl]
      rw [rvals_get genc_len h2 hk]
      obtain rfl | rfl : t = 0 ∨ t = 1 := by omega
      · rw [if_neg (by omega), if_pos (by omega), if_pos (by omega)]; rfl
      · rw [if_pos rfl, if_pos (by omega)]; rfl
    · have h2 : (l.set i (a, v))[k]? = l[k]? := by rw [List.getElem?_set_ne (fun e => hki e.symm)]
      have h3 : l[k]? = some l[k] := List.getElem?_eq_getElem hkl
      rw [if_neg (by omega), if_neg (by omega), rvals_get genc_len h3 hk, rvals_get genc_len (h2.trans h3) hk]
  · rw [if_neg (by omega), if_neg (by omega), List.getElem?_eq_none (by omega), List.getElem?_eq_none (by rw [rvals_len genc_len, List.length_set]; omega)]
/-- a gap gives bytes -/
def takeG (l : List (Int × Int)) (i ga gm k : Nat) : List (Int × Int) := if gm = k then (l.set i ((ga : Int) + (k : Int), (gm : Int) - (k : Int))).eraseIdx i else l.set i ((ga : Int) + (k : Int), (gm : Int) - (k : Int))
section
variable {w : World} {lo b : Nat} {h : Hd} {V : Vl}
/-- bytes are taken from the gap at i of V -/
def BytesPost (w : World) (lo b : Nat) (h : Hd) (V : Vl) (i ga gm k : Nat) (e : Ending) (w' : World) : Prop :=
  e = .returned (.int .i64 (ga : Int)) ∧ ∃ vB vG, VAt w' lo b { h with vB := vB, vG := vG } { V with gp := takeG V.gp i ga gm k, bs := V.bs ++ List.replicate (ga + k - V.bs.length) 0 } ∧ Stp b h { h with vB := vB, vG := vG } w w'
theorem takeB_zero (x : VAt w lo b h V) : Calls Try.prog 22 #[.pointer (some ⟨b, 0, none⟩), .int .i64 0] w fun e w' => e = .returned (.int .i64 0) ∧ w.grownBy w' none := by
  clear x
  go_enter Try.func22, Try.ntmps22
  go_wp2
  go_ret
  exact ⟨rfl, World.grownBy_alloc w _ none⟩
set_option maxHeartbeats 1000000 in
theorem takeB_gap (x : VAt w lo b h V) {i ga gm k : Nat} (hk : 0 < k) (hgi : V.gp[i]? = some ((ga : Int), (gm : Int))) (hkm : k ≤ gm) (hfirst : ∀ j p, j < i → V.gp[j]? = some p → ¬ (k : Int) ≤ p.2) (hgl : V.gp.length ≤ 1000000) (hend : ga + gm ≤ 1048576) (hbs : V.bs.length ≤ 1048576) :
    Calls Try.prog 22 #[.pointer (some ⟨b, 0, none⟩), .int .i64 (k : Int)] w (BytesPost w lo b h V i ga gm k) := by
  have hga := World.grownBy_alloc w (.cells #[.int .i64 (k : Int)] 3) none
  have hb := heap_alloc_new w (.cells #[.int .i64 (k : Int)] 3)
  have HX1 := Lib.hid (x.kept hga)
  have HS1 : Hid (Stp b h h w (w.alloc (.cells #[.int .i64 (k : Int)] 3))) := Lib.hid (Stp.of_new hga)
  have HB1 := Lib.hid hb
  have HGI := Lib.hid hgi
  have HGL := Lib.hid hgl
  have HFS := Lib.hid hfirst
  have HCBw : Hid (¬ own b h w.heap.size) := Lib.hid fun ho => by have := (x.own_lo ho).2; omega
  obtain ⟨A, c0, e0⟩ := owns_slice x.rG
  have c4 := HX1.out.c4
  rw [e0] at c4
  have hrow := HX1.out.rG
  rw [e0] at hrow
  have hidx := index_at (cb := w.heap.size) hrow (k : Int) (cell_of_head hb 0) hgl
  have HIX := Lib.hid hidx
  have z0 := cell_of_head hb 0
  have hkb : ((k : Int) == 0) = false := beq_eq_false_iff_ne.2 (by omega)
  clear x hga hb hgi hgl hfirst hrow hidx e0
  go_enter Try.func22, Try.ntmps22
  go_wp2_with fail
  obtain ⟨cb, HCBe⟩ : ∃ cb, Hid (w.heap.size = cb) := ⟨_, Lib.hid rfl⟩
  rw [HCBe.out] at HB1 HIX HCBw z0 ⊢
  generalize w.alloc (.cells #[.int .i64 (k : Int)] 3) = w1 at *
  refine HIX.out.mono ?_
  rintro e w0 ⟨r, rfl, hfi, hg0⟩
  obtain rfl : r = (i : Int) := by
    rcases hfi with ⟨j, rfl, ⟨p, hp, hkp⟩, hj⟩ | ⟨_, hno⟩
    · by_cases h1 : j < i
      · have := HFS.out j p h1 hp; omega
      · by_cases h2 : i < j
        · have := hj i _ h2 HGI.out; dsimp only at this; omega
        · congr 1; omega
    · have := hno _ (List.mem_of_getElem? HGI.out); dsimp only at this; omega
  have HV := Lib.hid (HX1.out.kept hg0)
  have HS := Lib.hid (HS1.out.trans (Stp.of_new (h := h) (b := b) hg0))
  have HBX := Lib.hid (kept2 HB1.out hg0)
  have HCB := HCBw
  clear hfi hg0 c4 z0 HIX HX1 HS1 HB1
  have hi0 : ¬ ((i : Int) < 0) := by omega
  -- gap: from here on a gap is taken
  obtain ⟨g, c, eg, p0, p1, f0, f1, hc⟩ := HV.out.gcells HGI.out
  have HEG := Lib.hid eg
  obtain ⟨n, HN⟩ : ∃ n, Hid ((V).gp.length = n) := ⟨_, Lib.hid rfl⟩
  have hin : i < n := by rw [← HN.out]; exact (List.getElem?_eq_some_iff.1 HGI.out).1
  have hn6 : n ≤ 1000000 := by rw [← HN.out]; exact HGL.out
  have c4 := HV.out.c4
  rw [eg, HN.out] at c4
  have z0 := cell_of_head HBX.out 0
  have hix := ix54 g i n c hin
  clear eg
  go_wp2_with fail
  clear p0 p1 f0 f1 c4 z0
  refine region_tail 20 (by kernel_rfl) (by kernel_rfl) ?_
  intro w2 hw2
  have HG2 : Hid ((w0).grownBy w2 none) := Lib.hid (by rw [hw2]; exact grown_drewN _ 1 none)
  have HX2 := Lib.hid (HV.out.kept HG2.out)
  have HB2 := Lib.hid (kept2 HBX.out HG2.out)
  clear hw2
  obtain ⟨g', c', eg', p0, p1, f0, f1, _⟩ := HX2.out.gcells HGI.out
  rw [HEG.out] at eg'
  injection eg' with e1 e2 e3
  injection e1 with e1
  injection e1 with e1
  subst e1 e3
  clear e2
  have c4 := HX2.out.c4
  rw [HEG.out, HN.out] at c4
  have z0 := cell_of_head HB2.out 0
  have hrow := HX2.out.rG
  rw [HEG.out] at hrow
  obtain ⟨s1, g1⟩ := hrow.stored (i * 2) (.int .i64 ((ga : Int) + (k : Int)))
  obtain ⟨s2, g2⟩ := s1.stored (i * 2 + 1) (.int .i64 ((gm : Int) - (k : Int)))
  rw [gset_both HGI.out] at s2
  obtain ⟨hv3, hs3⟩ := HX2.out.inG (w1 := (w2.setCell ⟨g, i * 2, none⟩ (.int .i64 ((ga : Int) + (k : Int)))).setCell ⟨g, i * 2 + 1, none⟩ (.int .i64 ((gm : Int) - (k : Int)))) (by rw [HEG.out]; exact grown_trans g1 g2) (l := (V).gp.set i ((ga : Int) + (k : Int), (gm : Int) - (k : Int))) (by rw [List.length_set]) (by rw [List.length_set, HEG.out]; exact s2)
  have HV3 := Lib.hid hv3
  have HS3 := Lib.hid ((HS.out.trans (Stp.of_new HG2.out)).trans hs3)
  have hcg : cb ≠ g := fun e2 => HCB.out (e2 ▸ (.inr (.inr (.inr (.inr (by rw [HEG.out]; rfl))))))
  have HB3 : Hid (((w2.setCell ⟨g, i * 2, none⟩ (.int .i64 ((ga : Int) + (k : Int)))).setCell ⟨g, i * 2 + 1, none⟩ (.int .i64 ((gm : Int) - (k : Int)))).heap[cb]? = some (.cells #[.int .i64 (k : Int)] 3 (0, 0))) := Lib.hid ((heap_setCell_other _ _ _ _ hcg).trans ((heap_setCell_other _ _ _ _ hcg).trans HB2.out))
  have k1 : IntKind.i64.wrap ((ga : Int) + (k : Int)) = (ga : Int) + (k : Int) := by rw [IntKind.wrap_i64]; omega
  have k2 : IntKind.i64.wrap ((gm : Int) - (k : Int)) = (gm : Int) - (k : Int) := by rw [IntKind.wrap_i64]; omega
  clear s1 g1 s2 g2 hrow hv3 hs3
  simp only [List.take_succ_cons, List.take_zero, List.drop_succ_cons, List.drop_zero]
  repeat still_step
  refine wpStill_nil ?_
  have hbg : ¬ b = g := fun e2 => HX2.out.neG (by rw [HEG.out]; exact congrArg some e2.symm) rfl
  have HLS : Hid (((V).gp.set i ((ga : Int) + (k : Int), (gm : Int) - (k : Int))).length = n) := Lib.hid (by rw [List.length_set]; exact HN.out)
  by_cases hgk : gm = k
  · have hz : ((gm : Int) - (k : Int) == 0) = true := by simp; omega
    have hrow3 := HV3.out.rG
    dsimp only at hrow3
    rw [HEG.out] at hrow3
    have HD : Hid (Calls Try.prog 42 #[.slice (some ⟨g, 0, none⟩) n c, .int .i64 ((i : Nat) : Int), .int .i64 (((i : Nat) : Int) + 1)] ((w2.setCell ⟨g, i * 2, none⟩ (.int .i64 ((ga : Int) + (k : Int)))).setCell ⟨g, i * 2 + 1, none⟩ (.int .i64 ((gm : Int) - (k : Int)))) (DelPost ((w2.setCell ⟨g, i * 2, none⟩ (.int .i64 ((ga : Int) + (k : Int)))).setCell ⟨g, i * 2 + 1, none⟩ (.int .i64 ((gm : Int) - (k : Int)))) lo g (n - 1) c (((V).gp.set i ((ga : Int) + (k : Int), (gm : Int) - (k : Int))).eraseIdx i))) := Lib.hid (by
      have hd := delete_at (w := (w2.setCell ⟨g, i * 2, none⟩ (.int .i64 ((ga : Int) + (k : Int)))).setCell ⟨g, i * 2 + 1, none⟩ (.int .i64 ((gm : Int) - (k : Int)))) (lo := lo) (g := g) (c := c) (l := (V).gp.set i ((ga : Int) + (k : Int), (gm : Int) - (k : Int))) (by rw [HLS.out] at hrow3 ⊢; rw [HN.out] at hrow3; unfold GRow; rw [HLS.out]; exact hrow3) i (by rw [HLS.out]; exact hin) (by rw [HLS.out]; exact hn6)
      rw [HLS.out] at hd
      exact hd)
    have hz0 : (gm : Int) - (k : Int) = 0 := by omega
    rw [hz0] at HD HV3 HS3 HB3 HLS
    have HZ0 := Lib.hid hz0
    clear hrow3 hz0
    go_wp2_with fail
    refine HD.out.mono ?_
    rintro e4 w4 ⟨rfl, hgr, hgw⟩
    generalize hW3 : (w2.setCell ⟨g, i * 2, none⟩ (.int .i64 ((ga : Int) + (k : Int)))).setCell ⟨g, i * 2 + 1, none⟩ (.int .i64 0) = w3 at *
    clear hW3
    have HLE : Hid ((((V).gp.set i ((ga : Int) + (k : Int), 0)).eraseIdx i).length = n - 1) := Lib.hid (by rw [List.length_eraseIdx, HLS.out, if_pos hin])
    obtain ⟨hv5, hs5⟩ := HV3.out.setG (w1 := w4) (l := ((V).gp.set i ((ga : Int) + (k : Int), 0)).eraseIdx i) (v := .slice (some ⟨g, 0, none⟩) (n - 1) c) (by rw [HEG.out]; exact hgw) hgr (.inl (by rw [HEG.out]; rfl))
    have hb4 : w4.heap[b]? = w3.heap[b]? := hgw.block b HV3.out.blt (by simp [hbg])
    have c4' := HV3.out.c4
    try dsimp only at c4'
    rw [HEG.out, HN.out] at c4'
    have d4 := (World.cell?_of_block (a := ⟨b, 4, none⟩) hb4).trans c4'
    have f4 := (World.frozen?_of_block (a := ⟨b, 4, none⟩) hb4).trans (HV3.out.free 4)
    have HV5 := Lib.hid hv5
    have HS5 := Lib.hid (HS3.out.trans hs5)
    have hcb4 : w4.heap[cb]? = some (.cells #[.int .i64 (k : Int)] 3 (0, 0)) := (hgw.block cb (Array.getElem?_eq_some_iff.1 HB3.out).1 (by simp [hcg])).trans HB3.out
    have HB5 : Hid ((w4.setCell ⟨b, 4, none⟩ (.slice (some ⟨g, 0, none⟩) (n - 1) c)).heap[cb]? = some (.cells #[.int .i64 (k : Int)] 3 (0, 0))) := Lib.hid ((heap_setCell_other _ _ _ _ (fun e5 => HCB.out (.inl e5))).trans hcb4)
    have y0 := cell_of_head hcb4 0
    have hcbb : ¬ cb = b := fun e5 => HCB.out (.inl e5)
    clear hgr hgw hv5 hs5 hb4 c4' hcb4 HD
    go_wp2_with fail
    generalize w4.setCell ⟨b, 4, none⟩ (.slice (some ⟨g, 0, none⟩) (n - 1) c) = w5 at *
    have hrch := reach_at HV5.out (ga + k) (by omega) hbs
    rw [show ((ga + k : Nat) : Int) = (ga : Int) + (k : Int) by omega] at hrch
    refine hrch.mono ?_
    rintro e6 w6 ⟨rfl, v6, hv6, hs6⟩
    have HFin : Hid (BytesPost w lo b h V i ga gm k (.returned (.int .i64 (ga : Int))) w6) := Lib.hid (by
      refine ⟨rfl, v6, .slice (some ⟨g, 0, none⟩) (n - 1) c, ?_, HS5.out.trans hs6⟩
      unfold takeG
      rw [if_pos hgk, HZ0.out]
      exact hv6)
    clear hv6 hs6 hrch
    go_wp2
    go_ret
    exact HFin.out
  · have hz : ((gm : Int) - (k : Int) == 0) = false := beq_eq_false_iff_ne.2 (by omega)
    have hcbb : ¬ cb = b := fun e5 => HCB.out (.inl e5)
    have y0 := cell_of_head HB2.out 0
    go_wp2_with fail
    generalize hW3 : (w2.setCell ⟨g, i * 2, none⟩ (.int .i64 ((ga : Int) + (k : Int)))).setCell ⟨g, i * 2 + 1, none⟩ (.int .i64 ((gm : Int) - (k : Int))) = w3 at *
    clear hW3
    have hrch := reach_at HV3.out (ga + k) (by omega) hbs
    rw [show ((ga + k : Nat) : Int) = (ga : Int) + (k : Int) by omega] at hrch
    refine hrch.mono ?_
    rintro e6 w6 ⟨rfl, v6, hv6, hs6⟩
    have HFin : Hid (BytesPost w lo b h V i ga gm k (.returned (.int .i64 (ga : Int))) w6) := Lib.hid (by
      refine ⟨rfl, v6, h.vG, ?_, HS3.out.trans hs6⟩
      unfold takeG
      rw [if_neg hgk]
      exact hv6)
    clear hv6 hs6 hrch
    go_wp2
    go_ret
    exact HFin.out
def PBytesPost (w : World) (lo b : Nat) (h : Hd) (V : Vl) (k : Nat) (e : Ending) (w' : World) : Prop :=
  ∃ l ga gm, l.Perm (alive V.bk) ∧ l.Pairwise (fun a b => ¬ ltB b a) ∧ (packF l V).gp = [(((ga : Nat) : Int), ((gm : Nat) : Int))] ∧ k ≤ gm ∧ BytesPost w lo b h (packF l V) 0 ga gm k e w'
set_option maxHeartbeats 1000000 in
theorem takeB_pack (x : VAt w lo b h V) {k : Nat} (hk : 0 < k) (hno : ∀ p ∈ V.gp, ¬ (k : Int) ≤ p.2) (hgl : V.gp.length ≤ 1000000) (hn : V.bk.length ≤ 100000) (hroom : V.room ≤ 1048576) (hpk : V.packs ≤ 1000000000000)
    (hok : ∀ l : List (Int × Int × Int), l.Perm (alive V.bk) → l.Pairwise (fun a b => ¬ ltB b a) → PkOk l 0 V ∧ (pkF l 0 V).2 ≤ V.room)
    (hfit : ∀ l : List (Int × Int × Int), l.Perm (alive V.bk) → l.Pairwise (fun a b => ¬ ltB b a) → ∃ ga gm : Nat, (packF l V).gp = [((ga : Int), (gm : Int))] ∧ k ≤ gm ∧ ga + gm ≤ 1048576 ∧ (packF l V).bs.length ≤ 1048576) :
    Calls Try.prog 22 #[.pointer (some ⟨b, 0, none⟩), .int .i64 (k : Int)] w (PBytesPost w lo b h V k) := by
  have hga := World.grownBy_alloc w (.cells #[.int .i64 (k : Int)] 3) none
  have hb := heap_alloc_new w (.cells #[.int .i64 (k : Int)] 3)
  have HX1 := Lib.hid (x.kept hga)
  have HS1 : Hid (Stp b h h w (w.alloc (.cells #[.int .i64 (k : Int)] 3))) := Lib.hid (Stp.of_new hga)
  have HB1 := Lib.hid hb
  have HNO := Lib.hid hno
  have HOK := Lib.hid hok
  have HFIT := Lib.hid hfit
  have HCBw : Hid (¬ own b h w.heap.size) := Lib.hid fun ho => by have := (x.own_lo ho).2; omega
  obtain ⟨A, c0, e0⟩ := owns_slice x.rG
  have c4 := HX1.out.c4
  rw [e0] at c4
  have hrow := HX1.out.rG
  rw [e0] at hrow
  have hidx := index_at (cb := w.heap.size) hrow (k : Int) (cell_of_head hb 0) hgl
  have HIX := Lib.hid hidx
  have z0 := cell_of_head hb 0
  have hkb : ((k : Int) == 0) = false := beq_eq_false_iff_ne.2 (by omega)
  clear x hga hb hno hok hfit hrow hidx e0
  go_enter Try.func22, Try.ntmps22
  go_wp2_with fail
  obtain ⟨cb, HCBe⟩ : ∃ cb, Hid (w.heap.size = cb) := ⟨_, Lib.hid rfl⟩
  rw [HCBe.out] at HB1 HIX HCBw z0 ⊢
  generalize w.alloc (.cells #[.int .i64 (k : Int)] 3) = w1 at *
  refine HIX.out.mono ?_
  rintro e wi ⟨r, rfl, hfi, hg0⟩
  obtain rfl : r = -1 := by
    rcases hfi with ⟨j, rfl, ⟨p, hp, hkp⟩, hj⟩ | ⟨hr, _⟩
    · exact absurd hkp (by have := HNO.out p (List.mem_of_getElem? hp); omega)
    · exact hr
  have HVi := Lib.hid (HX1.out.kept hg0)
  have HSi := Lib.hid (HS1.out.trans (Stp.of_new (h := h) (b := b) hg0))
  have HBi := Lib.hid (kept2 HB1.out hg0)
  clear hfi hg0 c4 z0 HIX HX1 HS1 HB1
  have HPA := Lib.hid (pack_at HVi.out hn hroom hpk HOK.out)
  go_wp2_with fail
  refine HPA.out.mono ?_
  rintro e w0 ⟨rfl, l, vp, hperm, hsrt, hvp, hsp⟩
  obtain ⟨ga, gm, hgp, hkm, hend, hbs⟩ := HFIT.out l hperm hsrt
  have HV := Lib.hid hvp
  have HS := Lib.hid (HSi.out.trans hsp)
  have HBX : Hid (w0.heap[cb]? = some (.cells #[.int .i64 (k : Int)] 3 (0, 0))) := Lib.hid ((hsp.but.block cb (Array.getElem?_eq_some_iff.1 HBi.out).1 HCBw.out).trans HBi.out)
  have HCB : Hid (¬ own b { h with vG := vp } cb) := Lib.hid fun ho => (hsp.new cb ho).elim HCBw.out (fun h2 => by have := (Array.getElem?_eq_some_iff.1 HBi.out).1; omega)
  have HGI : Hid ((packF l V).gp[0]? = some ((ga : Int), (gm : Int))) := Lib.hid (by rw [hgp]; rfl)
  have HGL : Hid ((packF l V).gp.length ≤ 1000000) := Lib.hid (by rw [hgp]; simp)
  have HPS := Lib.hid (⟨hperm, hsrt, hgp⟩ : _ ∧ _ ∧ _)
  clear hperm hsrt hvp hsp hgp HPA HVi HSi HBi
  -- pack: from here on a gap is taken
  obtain ⟨g, c, eg, p0, p1, f0, f1, hc⟩ := HV.out.gcells HGI.out
  have HEG := Lib.hid eg
  obtain ⟨n, HN⟩ : ∃ n, Hid ((packF l V).gp.length = n) := ⟨_, Lib.hid rfl⟩
  have hin : 0 < n := by rw [← HN.out]; exact (List.getElem?_eq_some_iff.1 HGI.out).1
  have hn6 : n ≤ 1000000 := by rw [← HN.out]; exact HGL.out
  have c4 := HV.out.c4
  rw [eg, HN.out] at c4
  have z0 := cell_of_head HBX.out 0
  have hix := ix54 g 0 n c hin
  clear eg
  have p0 : w0.cell? ⟨g, 0, none⟩ = some (.int .i64 (ga : Int)) := p0
  have hix : ∀ w, (Instr.indexAt 54 (Value.slice (some { block := g, off := 0 }) n c) (Value.int .i64 0)).run Try.prog w = .ok (.pointer (some ⟨g, 0, none⟩)) w := hix
  go_wp2_with fail
  clear p0 p1 f0 f1 c4 z0
  refine region_tail 20 (by kernel_rfl) (by kernel_rfl) ?_
  intro w2 hw2
  have HG2 : Hid ((w0).grownBy w2 none) := Lib.hid (by rw [hw2]; exact grown_drewN _ 1 none)
  have HX2 := Lib.hid (HV.out.kept HG2.out)
  have HB2 := Lib.hid (kept2 HBX.out HG2.out)
  clear hw2
  obtain ⟨g', c', eg', p0, p1, f0, f1, _⟩ := HX2.out.gcells HGI.out
  rw [HEG.out] at eg'
  injection eg' with e1 e2 e3
  injection e1 with e1
  injection e1 with e1
  subst e1 e3
  clear e2
  have c4 := HX2.out.c4
  rw [HEG.out, HN.out] at c4
  have z0 := cell_of_head HB2.out 0
  have hrow := HX2.out.rG
  rw [HEG.out] at hrow
  obtain ⟨s1, g1⟩ := hrow.stored (0) (.int .i64 ((ga : Int) + (k : Int)))
  obtain ⟨s2, g2⟩ := s1.stored (1) (.int .i64 ((gm : Int) - (k : Int)))
  rw [gset_both HGI.out] at s2
  obtain ⟨hv3, hs3⟩ := HX2.out.inG (w1 := (w2.setCell ⟨g, 0, none⟩ (.int .i64 ((ga : Int) + (k : Int)))).setCell ⟨g, 1, none⟩ (.int .i64 ((gm : Int) - (k : Int)))) (by rw [HEG.out]; exact grown_trans g1 g2) (l := (packF l V).gp.set 0 ((ga : Int) + (k : Int), (gm : Int) - (k : Int))) (by rw [List.length_set]) (by rw [List.length_set, HEG.out]; exact s2)
  have HV3 := Lib.hid hv3
  have HS3 := Lib.hid ((HS.out.trans (Stp.of_new HG2.out)).trans hs3)
  have hcg : cb ≠ g := fun e2 => HCB.out (e2 ▸ (.inr (.inr (.inr (.inr (by rw [HEG.out]; rfl))))))
  have HB3 : Hid (((w2.setCell ⟨g, 0, none⟩ (.int .i64 ((ga : Int) + (k : Int)))).setCell ⟨g, 1, none⟩ (.int .i64 ((gm : Int) - (k : Int)))).heap[cb]? = some (.cells #[.int .i64 (k : Int)] 3 (0, 0))) := Lib.hid ((heap_setCell_other _ _ _ _ hcg).trans ((heap_setCell_other _ _ _ _ hcg).trans HB2.out))
  have k1 : IntKind.i64.wrap ((ga : Int) + (k : Int)) = (ga : Int) + (k : Int) := by rw [IntKind.wrap_i64]; omega
  have k2 : IntKind.i64.wrap ((gm : Int) - (k : Int)) = (gm : Int) - (k : Int) := by rw [IntKind.wrap_i64]; omega
  clear s1 g1 s2 g2 hrow hv3 hs3
  have q0 : w2.cell? ⟨g, 0, none⟩ = some (.int .i64 (ga : Int)) := p0
  have q1 : w2.cell? ⟨g, 1, none⟩ = some (.int .i64 (gm : Int)) := p1
  have q2 : w2.frozen? ⟨g, 0, none⟩ = false := f0
  have q3 : w2.frozen? ⟨g, 1, none⟩ = false := f1
  clear p0 p1 f0 f1
  simp only [List.take_succ_cons, List.take_zero, List.drop_succ_cons, List.drop_zero]
  repeat still_step
  refine wpStill_nil ?_
  have hbg : ¬ b = g := fun e2 => HX2.out.neG (by rw [HEG.out]; exact congrArg some e2.symm) rfl
  have HLS : Hid (((packF l V).gp.set 0 ((ga : Int) + (k : Int), (gm : Int) - (k : Int))).length = n) := Lib.hid (by rw [List.length_set]; exact HN.out)
  by_cases hgk : gm = k
  · have hz : ((gm : Int) - (k : Int) == 0) = true := by simp; omega
    have hrow3 := HV3.out.rG
    dsimp only at hrow3
    rw [HEG.out] at hrow3
    have HD : Hid (Calls Try.prog 42 #[.slice (some ⟨g, 0, none⟩) n c, .int .i64 0, .int .i64 1] ((w2.setCell ⟨g, 0, none⟩ (.int .i64 ((ga : Int) + (k : Int)))).setCell ⟨g, 1, none⟩ (.int .i64 ((gm : Int) - (k : Int)))) (DelPost ((w2.setCell ⟨g, 0, none⟩ (.int .i64 ((ga : Int) + (k : Int)))).setCell ⟨g, 1, none⟩ (.int .i64 ((gm : Int) - (k : Int)))) lo g (n - 1) c (((packF l V).gp.set 0 ((ga : Int) + (k : Int), (gm : Int) - (k : Int))).eraseIdx 0))) := Lib.hid (by
      have hd := delete_at (w := (w2.setCell ⟨g, 0, none⟩ (.int .i64 ((ga : Int) + (k : Int)))).setCell ⟨g, 1, none⟩ (.int .i64 ((gm : Int) - (k : Int)))) (lo := lo) (g := g) (c := c) (l := (packF l V).gp.set 0 ((ga : Int) + (k : Int), (gm : Int) - (k : Int))) (by rw [HLS.out] at hrow3 ⊢; rw [HN.out] at hrow3; unfold GRow; rw [HLS.out]; exact hrow3) 0 (by rw [HLS.out]; exact hin) (by rw [HLS.out]; exact hn6)
      rw [HLS.out] at hd
      exact hd)
    have hz0 : (gm : Int) - (k : Int) = 0 := by omega
    rw [hz0] at HD HV3 HS3 HB3 HLS
    have HZ0 := Lib.hid hz0
    clear hrow3 hz0
    go_wp2_with fail
    refine HD.out.mono ?_
    rintro e4 w4 ⟨rfl, hgr, hgw⟩
    generalize hW3 : (w2.setCell ⟨g, 0, none⟩ (.int .i64 ((ga : Int) + (k : Int)))).setCell ⟨g, 1, none⟩ (.int .i64 0) = w3 at *
    clear hW3
    have HLE : Hid ((((packF l V).gp.set 0 ((ga : Int) + (k : Int), 0)).eraseIdx 0).length = n - 1) := Lib.hid (by rw [List.length_eraseIdx, HLS.out, if_pos hin])
    obtain ⟨hv5, hs5⟩ := HV3.out.setG (w1 := w4) (l := ((packF l V).gp.set 0 ((ga : Int) + (k : Int), 0)).eraseIdx 0) (v := .slice (some ⟨g, 0, none⟩) (n - 1) c) (by rw [HEG.out]; exact hgw) hgr (.inl (by rw [HEG.out]; rfl))
    have hb4 : w4.heap[b]? = w3.heap[b]? := hgw.block b HV3.out.blt (by simp [hbg])
    have c4' := HV3.out.c4
    try dsimp only at c4'
    rw [HEG.out, HN.out] at c4'
    have d4 := (World.cell?_of_block (a := ⟨b, 4, none⟩) hb4).trans c4'
    have f4 := (World.frozen?_of_block (a := ⟨b, 4, none⟩) hb4).trans (HV3.out.free 4)
    have HV5 := Lib.hid hv5
    have HS5 := Lib.hid (HS3.out.trans hs5)
    have hcb4 : w4.heap[cb]? = some (.cells #[.int .i64 (k : Int)] 3 (0, 0)) := (hgw.block cb (Array.getElem?_eq_some_iff.1 HB3.out).1 (by simp [hcg])).trans HB3.out
    have HB5 : Hid ((w4.setCell ⟨b, 4, none⟩ (.slice (some ⟨g, 0, none⟩) (n - 1) c)).heap[cb]? = some (.cells #[.int .i64 (k : Int)] 3 (0, 0))) := Lib.hid ((heap_setCell_other _ _ _ _ (fun e5 => HCB.out (.inl e5))).trans hcb4)
    have y0 := cell_of_head hcb4 0
    have hcbb : ¬ cb = b := fun e5 => HCB.out (.inl e5)
    clear hgr hgw hv5 hs5 hb4 c4' hcb4 HD
    go_wp2_with fail
    generalize w4.setCell ⟨b, 4, none⟩ (.slice (some ⟨g, 0, none⟩) (n - 1) c) = w5 at *
    have hrch := reach_at HV5.out (ga + k) (by omega) hbs
    rw [show ((ga + k : Nat) : Int) = (ga : Int) + (k : Int) by omega] at hrch
    refine hrch.mono ?_
    rintro e6 w6 ⟨rfl, v6, hv6, hs6⟩
    have HFin : Hid (PBytesPost w lo b h V k (.returned (.int .i64 (ga : Int))) w6) := Lib.hid (by
      refine ⟨l, ga, gm, HPS.out.1, HPS.out.2.1, HPS.out.2.2, hkm, rfl, v6, .slice (some ⟨g, 0, none⟩) (n - 1) c, ?_, HS5.out.trans hs6⟩
      unfold takeG
      rw [if_pos hgk, HZ0.out]
      exact hv6)
    clear hv6 hs6 hrch
    go_wp2
    go_ret
    exact HFin.out
  · have hz : ((gm : Int) - (k : Int) == 0) = false := beq_eq_false_iff_ne.2 (by omega)
    have hcbb : ¬ cb = b := fun e5 => HCB.out (.inl e5)
    have y0 := cell_of_head HB2.out 0
    go_wp2_with fail
    generalize hW3 : (w2.setCell ⟨g, 0, none⟩ (.int .i64 ((ga : Int) + (k : Int)))).setCell ⟨g, 1, none⟩ (.int .i64 ((gm : Int) - (k : Int))) = w3 at *
    clear hW3
    have hrch := reach_at HV3.out (ga + k) (by omega) hbs
    rw [show ((ga + k : Nat) : Int) = (ga : Int) + (k : Int) by omega] at hrch
    refine hrch.mono ?_
    rintro e6 w6 ⟨rfl, v6, hv6, hs6⟩
    have HFin : Hid (PBytesPost w lo b h V k (.returned (.int .i64 (ga : Int))) w6) := Lib.hid (by
      refine ⟨l, ga, gm, HPS.out.1, HPS.out.2.1, HPS.out.2.2, hkm, rfl, v6, vp, ?_, HS3.out.trans hs6⟩
      unfold takeG
      rw [if_neg hgk]
      exact hv6)
    clear hv6 hs6 hrch
    go_wp2
    go_ret
    exact HFin.out
end
end Go.Proofs.Ythpcjgfbngemiaa
