/-
  A block is laid elsewhere: lay.
-/
import Derived.Test.YthpcjgfbngemiaaTakeN
namespace Go.Proofs.Ythpcjgfbngemiaa
open Go.ChangeShapes Go.WideShapes Go.ChangeAt Go.RowKit
set_option linter.unusedVariables false
set_option maxRecDepth 100000
theorem size5 : (Try.prog.info? 5).map (·.size) = some 1 := by kernel_rfl
/-- bytes are written over from a place on -/
def over (l : List Int) (t : Nat) (ys : List Int) : List Int := l.take t ++ ys ++ l.drop (t + ys.length)
theorem over_len {l : List Int} {t : Nat} {ys : List Int} (h : t + ys.length ≤ l.length) : (over l t ys).length = l.length := by
  unfold over
  rw [List.length_append, List.length_append, List.length_take, List.length_drop]; omega
section
variable {w : World} {lo b : Nat} {h : Hd} {V : Vl}
/-- copy into a row of bytes -/
theorem copy_bytes {g c n : Nat} {xs : List Int} (hr : w.ownsRow lo 5 1 (.slice (some ⟨g, 0, none⟩) n c) n (rvals benc xs)) (hx : xs.length = n) {t q o m : Nat} {ys : List Int} (hy : ys.length = m) (ht : t + m ≤ n) (hsrc : ∀ j u, (rvals benc ys)[j]? = some u → w.cell? ⟨q, o + j, none⟩ = some u) (ty : TypeId) :
    ∃ w', (∀ dl dc sc, m ≤ dl → (Builtin.copy_ #[31, 31] ty #[.slice (some ⟨g, t, none⟩) dl dc, .slice (some ⟨q, o, none⟩) m sc]).run Try.prog w = .ok (goInt (m : Int)) w') ∧ w'.ownsRow lo 5 1 (.slice (some ⟨g, 0, none⟩) n c) n (rvals benc (over xs t ys)) ∧ w.grownBy w' (some g) := by
  rcases hr.2 with ⟨e, _⟩ | ⟨g', cap', cur, e, hbg, hgb, hnc, hcm, hcs, htk⟩
  · simp at e
  · simp only [Value.slice.injEq, Option.some.injEq, Addr.mk.injEq, and_true, true_and] at e
    obtain ⟨rfl, rfl⟩ := e
    have hlen : (rvals benc ys).length = m := by rw [rvals_len benc_len, hy]; omega
    have hrun := fun dl dc sc (hdl : m ≤ dl) => run_copy_rowK (P := Try.prog) w 31 31 ty 5 1 g t dl dc ⟨q, o, none⟩ m sc cur 5 (rvals benc ys) m Try.underlying31 size5 hgb (by show _ = min _ _; omega) (by rw [hlen]; omega) (fun j u hu => by
      have := hsrc j u hu
      rw [← this]
      congr 1
      by_cases h0 : j = 0
      · subst h0; simp [Addr.add]
      · simp [Addr.add, h0]) (by rw [hlen, hcs]; omega) (rvals_one benc_one _)
    refine ⟨_, hrun, ⟨?_, .inr ⟨g, c, _, rfl, hbg, setRow_heap w g cur _ 5 _ hgb, hnc, hcm, ?_, ?_⟩⟩, grown_setRow _⟩
    · rw [rvals_len benc_len, over_len (by omega), hx]
    · simp only [List.size_toArray, List.length_append, List.length_take, List.length_drop, Array.length_toList, hlen]
      rw [hcs]; omega
    · show (cur.toList.take t ++ rvals benc ys ++ cur.toList.drop (t + (rvals benc ys).length)).take (n * 1) = _
      unfold over
      rw [rvals_append, rvals_append, rvals_take benc_len, rvals_drop benc_len, Nat.mul_one, Nat.mul_one, ← htk, Nat.mul_one, hlen, hy]
      rw [List.take_append, List.take_take, List.drop_take, Nat.min_eq_left (by omega), List.take_of_length_le (by rw [List.length_append, List.length_take, Array.length_toList, hlen]; omega), List.length_append, List.length_take, Array.length_toList, hlen]
      congr 2
      · omega
      · rw [Nat.mul_one]
def LayPost (w : World) (lo b : Nat) (h : Hd) (V V' : Vl) (e : Ending) (w' : World) : Prop := e = .returned (.tuple #[]) ∧ VAt w' lo b h V' ∧ Stp b h h w w'
theorem kset_at {l : List (Int × Int × Int)} {i : Nat} {p : Int × Int × Int} (hp : l[i]? = some p) (v : Int) : (rvals kenc l).set (i * 3 + 1) (.int .i64 v) = rvals kenc (l.set i (p.1, v, p.2.2)) := by
  have hi := (List.getElem?_eq_some_iff.1 hp).1
  refine List.ext_getElem? fun j => ?_
  rw [List.getElem?_set]
  have hl := rvals_len kenc_len l
  by_cases hj : j < l.length * 3
  · obtain ⟨k, t, hk, rfl⟩ : ∃ k t, t < 3 ∧ j = k * 3 + t := ⟨j / 3, j % 3, by omega, by omega⟩
    have hkl : k < l.length := by omega
    by_cases hki : k = i
    · subst hki
      have h2 : (l.set k (p.1, v, p.2.2))[k]? = some (p.1, v, p.2.2) := by rw [List.getElem?_set_self hkl]
      rw [rvals_get kenc_len h2 hk]
      obtain rfl | rfl | rfl : t = 0 ∨ t = 1 ∨ t = 2 := by omega
      · rw [if_neg (by omega), rvals_get kenc_len hp (j := 0) (by omega)]; rfl
      · rw [if_pos rfl, if_pos (by omega)]; rfl
      · rw [if_neg (by omega), rvals_get kenc_len hp (j := 2) (by omega)]; rfl
    · have h2 : (l.set i (p.1, v, p.2.2))[k]? = l[k]? := by rw [List.getElem?_set_ne (fun e => hki e.symm)]
      have h3 : l[k]? = some l[k] := List.getElem?_eq_getElem hkl
      rw [if_neg (by omega), rvals_get kenc_len h3 hk, rvals_get kenc_len (h2.trans h3) hk]
  · rw [if_neg (by omega), List.getElem?_eq_none (by omega), List.getElem?_eq_none (by rw [rvals_len kenc_len, List.length_set]; omega)]
set_option maxHeartbeats 400000 in
theorem lay_same (x : VAt w lo b h V) (p a m : Int) : Calls Try.prog 55 #[.pointer (some ⟨b, 0, none⟩), .agg #[.int .i64 p, .int .i64 a, .int .i64 m], .int .i64 a] w (LayPost w lo b h V V) := by
  have HFin : Hid (LayPost w lo b h V V (.returned (.tuple #[])) (w.alloc (.cells #[.int .i64 p, .int .i64 a, .int .i64 m] 59))) := Lib.hid ⟨rfl, x.kept (World.grownBy_alloc w _ none), Stp.of_new (World.grownBy_alloc w _ none)⟩
  clear x
  go_enter Try.func55, Try.ntmps55
  go_wp2
  refine bodyPost_ret (results_none rfl _ _ _) rfl ?_
  exact HFin.out
set_option maxHeartbeats 400000 in
theorem lay_else (x : VAt w lo b h V) {i a m t : Nat} (hi : V.bk[i]? = some ((i : Int), (a : Int), (m : Int))) (hn : V.bk.length ≤ 1000000) (hm : 0 < m) (ht : t < a) (ham : a + m ≤ V.bs.length) (hb6 : V.bs.length ≤ 1048576) (hmv : V.moved ≤ 1000000000000) :
    Calls Try.prog 55 #[.pointer (some ⟨b, 0, none⟩), .agg #[.int .i64 (i : Int), .int .i64 (a : Int), .int .i64 (m : Int)], .int .i64 (t : Int)] w (LayPost w lo b h V { V with bs := over V.bs t ((V.bs.drop a).take m), bk := V.bk.set i ((i : Int), (t : Int), (m : Int)), moved := V.moved + m }) := by
  obtain ⟨g, c, e⟩ := owns_some x.rB (by omega)
  have HE := Lib.hid e
  have HX := Lib.hid x
  have HI := Lib.hid hi
  have hil : i < V.bk.length := (List.getElem?_eq_some_iff.1 hi).1
  obtain ⟨n, HN⟩ : ∃ n, Hid (V.bs.length = n) := ⟨_, Lib.hid rfl⟩
  obtain ⟨nk, HNK⟩ : ∃ nk, Hid (V.bk.length = nk) := ⟨_, Lib.hid rfl⟩
  rw [HN.out] at ham hb6
  rw [HNK.out] at hn hil
  have hga := World.grownBy_alloc w (.cells #[.int .i64 (i : Int), .int .i64 (a : Int), .int .i64 (m : Int)] 59) none
  have hb := heap_alloc_new w (.cells #[.int .i64 (i : Int), .int .i64 (a : Int), .int .i64 (m : Int)] 59)
  have HX1 := Lib.hid (x.kept hga)
  have HG1 := Lib.hid hga
  have HB1 := Lib.hid hb
  have hne : ¬ ((a : Int) = (t : Int)) := by omega
  clear e x hga hb hi
  go_enter Try.func55, Try.ntmps55
  go_wp2_with fail
  generalize w.alloc (.cells #[.int .i64 (i : Int), .int .i64 (a : Int), .int .i64 (m : Int)] 59) = w1 at *
  refine region_tail 18 (by kernel_rfl) (by kernel_rfl) ?_
  intro w2 hw2
  have HG2 : Hid (w1.grownBy w2 none) := Lib.hid (by rw [hw2]; exact grown_drewN w1 1 none)
  have HX2 := Lib.hid (HX1.out.kept HG2.out)
  have HB2 := Lib.hid (kept2 HB1.out HG2.out)
  clear hw2
  have hr := HX2.out.rB
  rw [HE.out, HN.out] at hr
  have hcap := owns_cap hr
  have c1 := HX2.out.c1
  rw [HE.out, HN.out] at c1
  have z0 := cell_of_head HB2.out 0
  have z1 := cell_of_head HB2.out 1
  have z2 := cell_of_head HB2.out 2
  have hxl : ((V.bs.drop a).take m).length = m := by rw [List.length_take, List.length_drop, HN.out]; omega
  obtain ⟨w3, hr3, ho3, hg3⟩ := copy_bytes (t := t) (q := g) (o := a) (m := m) (ys := (V.bs.drop a).take m) hr HN.out hxl (by omega) (fun j u hu => by
    have hj : j < m := by have := (List.getElem?_eq_some_iff.1 hu).1; rw [rvals_len benc_len, hxl] at this; omega
    have hc := hr.cellAt (a + j) (by omega)
    rw [hc, ← hu, rvals_take benc_len, rvals_drop benc_len, List.getElem?_take, if_pos (by omega), List.getElem?_drop]
    congr 1; omega) 3
  obtain ⟨hv3, hs3⟩ := HX2.out.inB (w1 := w3) (by rw [HE.out]; exact hg3) (l := over V.bs t ((V.bs.drop a).take m)) (over_len (by rw [hxl, HN.out]; omega)) (by rw [over_len (by rw [hxl, HN.out]; omega), HE.out, HN.out]; exact ho3)
  have HR3 := Lib.hid hr3
  have HV3 := Lib.hid hv3
  have HS3 := Lib.hid ((Stp.of_new HG2.out).trans hs3)
  have HB3 : Hid (w3.heap[w.heap.size]? = some (.cells #[.int .i64 (i : Int), .int .i64 (a : Int), .int .i64 (m : Int)] 59 (0, 0))) := Lib.hid ((hg3.block w.heap.size (Array.getElem?_eq_some_iff.1 HB2.out).1 (fun e2 => by
    injection e2 with e2
    obtain ⟨_, cur, h2⟩ := owns_type hr (k := g) rfl
    rw [← e2] at h2
    exact absurd (type_eq h2 HB2.out) (by decide))).trans HB2.out)
  have k0 : (0 : Int) ≤ (a : Int) := by omega
  have k1 : (a : Int) ≤ (a : Int) + (m : Int) := by omega
  have k2 : (a : Int) + (m : Int) ≤ (c : Int) := by omega
  have k3 : IntKind.i64.wrap ((a : Int) + (m : Int)) = (a : Int) + (m : Int) := by rw [IntKind.wrap_i64]; omega
  have k4 : (a : Int) ≤ (c : Int) := by omega
  have k5 : (0 : Int) ≤ (a : Int) + (m : Int) := by omega
  have k6 : ¬ (c : Int) = (a : Int) := by omega
  have k7 : (0 : Int) ≤ (t : Int) := by omega
  have k8 : (t : Int) ≤ (n : Int) := by omega
  have k9 : (t : Int) ≤ (c : Int) := by omega
  have k10 : ¬ (c : Int) = (t : Int) := by omega
  have e9 : a + m - a = m := by omega
  have e10 : ((a : Int) + (m : Int)).toNat - a = m := by omega
  have k11 : ¬ c = t := by omega
  have k12 : ¬ c = a := by omega
  have hr4 := fun dc sc => hr3 (n - t) dc sc (by omega)
  clear hr hv3 hs3 hxl ho3 hg3 hr3 HR3
  simp only [List.take_succ_cons, List.take_zero, List.drop_succ_cons, List.drop_zero]
  repeat still_step
  refine wpStill_nil ?_
  go_wp2_with fail
  clear hr4 c1 z0 z1 z2 k0 k1 k2 k3 k4 k5 k6 k7 k8 k9 k10 k11 k12 e9 e10
  -- the block's place
  refine region_tail 9 (by kernel_rfl) (by kernel_rfl) ?_
  intro w4 hw4
  have HG4 : Hid (w3.grownBy w4 none) := Lib.hid (by rw [hw4]; exact grown_drewN w3 1 none)
  have HX4 := Lib.hid (HV3.out.kept HG4.out)
  have HB4 := Lib.hid (kept2 HB3.out HG4.out)
  clear hw4
  obtain ⟨gk, ck, ek, p0, p1, p2⟩ := HX4.out.kcells HI.out
  have c2 := HX4.out.c2
  have z0 := cell_of_head HB4.out 0
  have hrk := HX4.out.rK
  dsimp only at ek c2 hrk
  rw [ek] at hrk
  rw [ek, HNK.out] at c2
  have f1 := hrk.frozenAt (i * 3 + 1)
  obtain ⟨hst, hsg⟩ := hrk.stored (i * 3 + 1) (.int .i64 (t : Int))
  rw [kset_at HI.out (t : Int)] at hst
  obtain ⟨hv5, hs5⟩ := HX4.out.inK (w1 := w4.setCell ⟨gk, i * 3 + 1, none⟩ (.int .i64 (t : Int))) (by rw [ek]; exact hsg) (l := V.bk.set i ((i : Int), (t : Int), (m : Int))) (by rw [List.length_set]) (by rw [List.length_set, ek]; exact hst)
  have HV5 := Lib.hid hv5
  have HS5 := Lib.hid ((HS3.out.trans (Stp.of_new HG4.out)).trans hs5)
  have HNG : Hid (w.heap.size ≠ gk) := Lib.hid fun e2 => by
    have := (HX.out.rK.lt gk (by rw [ek]; rfl)).2
    omega
  have HB5 : Hid ((w4.setCell ⟨gk, i * 3 + 1, none⟩ (.int .i64 (t : Int))).heap[w.heap.size]? = some (.cells #[.int .i64 (i : Int), .int .i64 (a : Int), .int .i64 (m : Int)] 59 (0, 0))) := Lib.hid ((heap_setCell_other _ _ _ _ HNG.out).trans HB4.out)
  have hix := ix49 gk i nk ck hil
  clear hst hsg hv5 hs5 hrk ek
  simp only [List.take_succ_cons, List.take_zero, List.drop_succ_cons, List.drop_zero]
  repeat still_step
  refine wpStill_nil ?_
  go_wp2_with fail
  clear p0 p1 p2 c2 z0 f1 hix
  generalize w4.setCell ⟨gk, i * 3 + 1, none⟩ (.int .i64 (t : Int)) = w5 at *
  -- how many bytes were moved
  refine region_tail 9 (by kernel_rfl) (by kernel_rfl) ?_
  intro w6 hw6
  have HG6 : Hid (w5.grownBy w6 none) := Lib.hid (by rw [hw6]; exact grown_drewN w5 1 none)
  have HX6 := Lib.hid (HV5.out.kept HG6.out)
  have HB6 := Lib.hid (kept2 HB5.out HG6.out)
  clear hw6
  have c7 := HX6.out.c7
  dsimp only at c7
  have f7 := HX6.out.free 7
  have z2 := cell_of_head HB6.out 2
  obtain ⟨mv, HMV⟩ : ∃ mv, Hid (V.moved = mv) := ⟨_, Lib.hid rfl⟩
  obtain ⟨hv7, hs7⟩ := HX6.out.moved' (V.moved + m)
  have HFin : Hid (LayPost w lo b h V { V with bs := over V.bs t ((V.bs.drop a).take m), bk := V.bk.set i ((i : Int), (t : Int), (m : Int)), moved := V.moved + m } (.returned (.tuple #[])) (w6.setCell ⟨b, 7, none⟩ (.int .i64 ((V.moved + m : Nat) : Int)))) := Lib.hid ⟨rfl, hv7, ((((Stp.of_new HG1.out).trans HS5.out).trans (Stp.of_new HG6.out)).trans hs7)⟩
  clear hv7 hs7
  rw [HMV.out] at c7 hmv
  have k3 : IntKind.i64.wrap ((mv : Int) + (m : Int)) = (mv : Int) + (m : Int) := by rw [IntKind.wrap_i64]; omega
  have HQ : Hid (((V.moved + m : Nat) : Int) = (mv : Int) + (m : Int)) := Lib.hid (by rw [HMV.out]; omega)
  rw [HQ.out] at HFin
  simp only [List.take_succ_cons, List.take_zero, List.drop_succ_cons, List.drop_zero]
  repeat still_step
  refine wpStill_nil ?_
  go_wp2
  go_end0
  exact HFin.out
end
end Go.Proofs.Ythpcjgfbngemiaa
