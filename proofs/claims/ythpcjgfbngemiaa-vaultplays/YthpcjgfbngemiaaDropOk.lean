/-
  Drop of an empty value; Drop: what stays true.
-/
import Derived.Test.YthpcjgfbngemiaaPutZero
namespace Go.Proofs.Ythpcjgfbngemiaa
open Go.ChangeShapes Go.WideShapes Go.ChangeAt Go.RowKit
set_option linter.unusedVariables false
set_option maxRecDepth 100000
section
variable {w : World} {lo b n : Nat} {h : Hd} {V : Vl} {d : Nat → Int}
def DropZPost (w : World) (lo b : Nat) (h : Hd) (V : Vl) (i a n : Nat) (d : Nat → Int) (e : Ending) (w' : World) : Prop :=
  e = .returned (.bool true) ∧ ∃ h' d', Heap (n + 1) d' ∧ (vals d' (n + 1)).Perm ((i : Int) :: vals d n) ∧
    VAt w' lo b h' { V with bk := V.bk.set i (-1, (a : Int), 0), fr := vals d' (n + 1) } ∧ Stp b h h' w w'
set_option maxHeartbeats 1000000 in
theorem drop_zero (x : FAt w lo b h V d n) (hp : Heap n d) (hn : n ≤ 999999) {i a : Nat} (hi : V.bk[i]? = some ((i : Int), (a : Int), 0)) (hk : V.bk.length ≤ 1000000) (hu6 : V.used ≤ 1048576) :
    Calls Try.prog 12 #[.pointer (some ⟨b, 0, none⟩), .int .i64 (i : Int)] w (DropZPost w lo b h V i a n d) := by
  have HF := Lib.hid (find_yes x.1 hk hi (by show (i : Int) ≠ -1; omega))
  unfold blkV at HF
  dsimp only at HF
  have HX := Lib.hid x
  have HI := Lib.hid hi
  have HP := Lib.hid hp
  have hil : i < V.bk.length := (List.getElem?_eq_some_iff.1 hi).1
  obtain ⟨nk, HNK⟩ : ∃ nk, Hid (V.bk.length = nk) := ⟨_, Lib.hid rfl⟩
  rw [HNK.out] at hil hk
  clear x hi hp
  go_enter Try.func12, Try.ntmps12
  go_wp2_with fail
  refine HF.out.mono ?_
  rintro e w1 ⟨rfl, hg1⟩
  have hga := World.grownBy_alloc w1 (.cells #[.int .i64 (i : Int), .int .i64 (a : Int), .int .i64 0] 59) none
  have hb := heap_alloc_new w1 (.cells #[.int .i64 (i : Int), .int .i64 (a : Int), .int .i64 0] 59)
  have HX2 := Lib.hid (HX.out.kept (grown_trans hg1 hga))
  have HB2 := Lib.hid hb
  have HS2 : Hid (Stp b h h w (w1.alloc (.cells #[.int .i64 (i : Int), .int .i64 (a : Int), .int .i64 0] 59))) := Lib.hid ((Stp.of_new hg1).trans (Stp.of_new hga))
  have HBn : Hid (¬ own b h w1.heap.size) := Lib.hid fun ho => by have := (HX.out.1.own_lo ho).2; have := hg1.size; omega
  obtain ⟨gk, ck, ek, p0, p1, p2⟩ := HX2.out.1.kcells HI.out
  have c2 := HX2.out.1.c2
  rw [ek, HNK.out] at c2
  have hrk := HX2.out.1.rK
  rw [ek] at hrk
  have f0 := hrk.frozenAt (i * 3)
  obtain ⟨s1, g1⟩ := hrk.stored (i * 3) (.int .i64 (-1))
  rw [kset_num HI.out] at s1
  obtain ⟨hv3, hs3⟩ := HX2.out.1.inK (w1 := (w1.alloc (.cells #[.int .i64 (i : Int), .int .i64 (a : Int), .int .i64 0] 59)).setCell ⟨gk, i * 3, none⟩ (.int .i64 (-1))) (by rw [ek]; exact g1) (l := V.bk.set i (-1, (a : Int), 0)) (by rw [List.length_set]) (by rw [List.length_set, ek]; exact s1)
  have hgk : gk < w1.heap.size := by have := (HX.out.1.rK.lt gk (by rw [ek]; rfl)).2; have := hg1.size; omega
  have HB3 : Hid (((w1.alloc (.cells #[.int .i64 (i : Int), .int .i64 (a : Int), .int .i64 0] 59)).setCell ⟨gk, i * 3, none⟩ (.int .i64 (-1))).heap[w1.heap.size]? = some (.cells #[.int .i64 (i : Int), .int .i64 (a : Int), .int .i64 0] 59 (0, 0))) := Lib.hid ((heap_setCell_other _ _ _ _ (by simp only; omega)).trans HB2.out)
  have HX3 : Hid (FAt ((w1.alloc (.cells #[.int .i64 (i : Int), .int .i64 (a : Int), .int .i64 0] 59)).setCell ⟨gk, i * 3, none⟩ (.int .i64 (-1))) lo b h { V with bk := V.bk.set i (-1, (a : Int), 0) } d n) := Lib.hid ⟨hv3, HX.out.2⟩
  have HS3 := Lib.hid (HS2.out.trans hs3)
  have hix := ix49 gk i nk ck hil
  clear hg1 hga hb ek hrk s1 g1 hv3 hs3 HF
  have hcm := World.setCell_alloc_past (w := w1) (.cells #[.int .i64 (i : Int), .int .i64 (a : Int), .int .i64 0] 59) gk (i * 3) (.int .i64 (-1)) hgk
  rw [hcm] at HB3 HX3 HS3
  clear hcm
  go_wp2_with fail
  clear p0 p1 p2 c2 f0 hix
  obtain ⟨Bx, HBx⟩ : ∃ Bx, Hid (w1.heap.size = Bx) := ⟨_, Lib.hid rfl⟩
  rw [HBx.out] at HB3 HBn ⊢
  generalize (w1.setCell ⟨gk, i * 3, none⟩ (.int .i64 (-1))).alloc (.cells #[.int .i64 (i : Int), .int .i64 (a : Int), .int .i64 0] 59) = w3 at *
  have hpu := hpush_at HX3.out HP.out hn (i : Int)
  unfold nums at hpu
  refine hpu.mono ?_
  rintro e w4 ⟨rfl, v4, d4, hv4, hs4, hh4, hp4⟩
  have HB4 : Hid (w4.heap[Bx]? = some (.cells #[.int .i64 (i : Int), .int .i64 (a : Int), .int .i64 0] 59 (0, 0))) := Lib.hid ((hs4.but.block Bx (Array.getElem?_eq_some_iff.1 HB3.out).1 HBn.out).trans HB3.out)
  have HBn4 : Hid (¬ own b { h with vF := v4 } Bx) := Lib.hid fun ho => (hs4.new Bx ho).elim HBn.out (fun h2 => by have := (Array.getElem?_eq_some_iff.1 HB3.out).1; omega)
  have HV4 := Lib.hid hv4
  have HS4 := Lib.hid (HS3.out.trans hs4)
  have HH4 := Lib.hid (⟨hh4, hp4⟩ : Heap (n + 1) d4 ∧ (vals d4 (n + 1)).Perm ((i : Int) :: vals d n))
  clear hpu hv4 hs4 hh4 hp4 HX3 HS3 HB3
  go_wp2_with fail
  refine region_tail 9 (by kernel_rfl) (by kernel_rfl) ?_
  intro w5 hw5
  have HG5 : Hid (w4.grownBy w5 none) := Lib.hid (by rw [hw5]; exact grown_drewN w4 1 none)
  have HX5 := Lib.hid (HV4.out.kept HG5.out)
  have HB5 := Lib.hid (kept2 HB4.out HG5.out)
  clear hw5
  have c5 := HX5.out.c5
  dsimp only at c5
  have f5 := HX5.out.free 5
  have z1 := cell_of_head HB5.out 1
  have z2 := cell_of_head HB5.out 2
  obtain ⟨us, HUS⟩ : ∃ us, Hid (V.used = us) := ⟨_, Lib.hid rfl⟩
  rw [HUS.out] at c5 hu6
  obtain ⟨hv6, hs6⟩ := HX5.out.used' V.used
  rw [HUS.out] at hs6
  have e6 : (((V.used : Nat) : Int)) = (us : Int) := by rw [HUS.out]
  rw [e6] at hv6
  clear e6
  have HV6 := Lib.hid hv6
  have HS6 := Lib.hid ((HS4.out.trans (Stp.of_new HG5.out)).trans hs6)
  have hbx : ¬ Bx = b := fun e5 => HBn4.out (.inl e5)
  have HB6 : Hid ((w5.setCell ⟨b, 5, none⟩ (.int .i64 (us : Int))).heap[Bx]? = some (.cells #[.int .i64 (i : Int), .int .i64 (a : Int), .int .i64 0] 59 (0, 0))) := Lib.hid ((heap_setCell_other _ _ _ _ hbx).trans HB5.out)
  have k3 : IntKind.i64.wrap (us : Int) = (us : Int) := by rw [IntKind.wrap_i64]; omega
  clear hv6 hs6
  simp only [List.take_succ_cons, List.take_zero, List.drop_succ_cons, List.drop_zero]
  repeat still_step
  refine wpStill_nil ?_
  go_wp2_with fail
  clear c5 f5 z1 z2 k3
  generalize w5.setCell ⟨b, 5, none⟩ (.int .i64 (us : Int)) = w6 at *
  refine (addGap_zero (a : Int) _).mono ?_
  rintro e w7 ⟨rfl, rfl⟩
  have HFin : Hid (DropZPost w lo b h V i a n d (.returned (.bool true)) w6) := Lib.hid ⟨rfl, _, d4, HH4.out.1, HH4.out.2, HV6.out, HS6.out⟩
  go_wp2
  go_ret
  exact HFin.out
/-- block i is let go: V became V' -/
structure DropR (V V' : Vl) (i : Nat) : Prop where
  vm : VM V' 0 0
  room : V'.room = V.room
  used : ∀ a n, Blk V i a n → V'.used + n = V.used
  gone : ∃ p, V'.bk[i]? = some p ∧ p.1 = -1
  old : ∀ k a n, k ≠ i → Blk V k a n → Blk V' k a n ∧ val V' a n = val V a n
  kl : V'.bk.length = V.bk.length
  moved : V'.moved = V.moved
  packs : V'.packs = V.packs
def DropOk (w : World) (lo b : Nat) (h : Hd) (V : Vl) (i : Nat) (e : Ending) (w' : World) : Prop :=
  e = .returned (.bool true) ∧ ∃ h' V', VAt w' lo b h' V' ∧ Stp b h h' w w' ∧ DropR V V' i
theorem VM.gb6 {V : Vl} (hv : VM V 0 0) : GB V.gp := fun p hp => by
  have h1 := hv.g.pos p hp
  have h2 := hv.gend p hp
  have := hv.room
  exact ⟨h1.1, by omega, by omega⟩
theorem drop_ok (x : VAt w lo b h V) (hv : VM V 0 0) (hk : V.bk.length ≤ 90000) {i a m : Nat} (hi : Blk V i a m) :
    Calls Try.prog 12 #[.pointer (some ⟨b, 0, none⟩), .int .i64 (i : Int)] w (DropOk w lo b h V i) := by
  obtain ⟨d, n, hf, hp⟩ := hv.heap
  have hfl := hv.fr_len
  have hnl : V.fr.length = n := by rw [hf, vals_len]
  have hr6 := hv.room
  have hur := hv.ur
  have hbl := hv.bsl
  have hal := hv.blk_len hi
  have hu := hv.used
  have hil : i < V.bk.length := (List.getElem?_eq_some_iff.1 hi).1
  by_cases hm : m = 0
  · subst hm
    have hi0 : V.bk[i]? = some ((i : Int), (a : Int), 0) := hi
    refine (drop_zero ⟨x, hf⟩ hp (by omega) hi0 (by omega) (by omega)).mono ?_
    rintro e w' ⟨he, h', d', hh, hperm, hx', hs'⟩
    rw [← hf] at hperm
    obtain ⟨hl, hlu⟩ := hv.leave hi ⟨d', n + 1, rfl, hh⟩ hperm
    refine ⟨he, h', _, hx', hs', hl.none, rfl, fun a2 n2 hb => ?_, ⟨_, set_get hi _, rfl⟩, fun k a2 n2 hki hb => ⟨?_, rfl⟩, by rw [List.length_set], rfl, rfl⟩
    · have := (hi.eq hb).2
      show V.used + n2 = V.used
      omega
    · unfold Blk at hb ⊢
      rw [List.getElem?_set_ne (Ne.symm hki)]
      exact hb
  · have hlu : m ≤ V.used := by
      have := sum_set hi (-1, (a : Int), (m : Int))
      rw [wt_dead, wt_blk] at this
      omega
    refine (drop_at ⟨x, hf⟩ hp (by omega) hi (by omega) (by omega) (by omega) hlu (by omega) hv.gb6 hv.g.rises (by have := hv.gp_len; omega)).mono ?_
    rintro e w' ⟨he, h', d', gi, hsp, hh, hperm, hx', hs'⟩
    rw [← hf] at hperm
    obtain ⟨hl, _⟩ := hv.leave hi ⟨d', n + 1, rfl, hh⟩ hperm
    refine ⟨he, h', _, hx', hs', hl.addGap (by omega) hsp, rfl, fun a2 n2 hb => ?_, ⟨_, set_get hi _, rfl⟩, fun k a2 n2 hki hb => ⟨?_, rfl⟩, by rw [List.length_set], rfl, rfl⟩
    · have := (hi.eq hb).2
      show V.used - m + n2 = V.used
      omega
    · unfold Blk at hb ⊢
      show (V.bk.set i _)[k]? = _
      rw [List.getElem?_set_ne (Ne.symm hki)]
      exact hb
end
end Go.Proofs.Ythpcjgfbngemiaa
