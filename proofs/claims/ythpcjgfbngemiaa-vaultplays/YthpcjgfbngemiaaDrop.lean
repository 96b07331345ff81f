/-
  A value goes: Drop. A vault is made: New.
-/
import Derived.Test.YthpcjgfbngemiaaPut
namespace Go.Proofs.Ythpcjgfbngemiaa
open Go.ChangeShapes Go.WideShapes Go.ChangeAt Go.RowKit
set_option linter.unusedVariables false
set_option maxRecDepth 100000
theorem kset_num {l : List (Int × Int × Int)} {i : Nat} {p : Int × Int × Int} (hp : l[i]? = some p) (v : Int) : (rvals kenc l).set (i * 3) (.int .i64 v) = rvals kenc (l.set i (v, p.2.1, p.2.2)) := by
  have hi := (List.getElem?_eq_some_iff.1 hp).1
  have := kset_all hi v p.2.1 p.2.2
  rw [← this]
  have e1 : ((rvals kenc l).set (i * 3) (.int .i64 v))[i * 3 + 1]? = some (.int .i64 p.2.1) := by
    rw [List.getElem?_set_ne (by omega), rvals_get kenc_len hp (j := 1) (by omega)]; rfl
  have e2 : ((rvals kenc l).set (i * 3) (.int .i64 v))[i * 3 + 2]? = some (.int .i64 p.2.2) := by
    rw [List.getElem?_set_ne (by omega), rvals_get kenc_len hp (j := 2) (by omega)]; rfl
  have s1 : ((rvals kenc l).set (i * 3) (.int .i64 v)).set (i * 3 + 1) (.int .i64 p.2.1) = (rvals kenc l).set (i * 3) (.int .i64 v) := by
    obtain ⟨h1, h2⟩ := List.getElem?_eq_some_iff.1 e1
    rw [← h2]; exact List.set_getElem_self _
  rw [s1]
  obtain ⟨h1, h2⟩ := List.getElem?_eq_some_iff.1 e2
  rw [← h2]; exact (List.set_getElem_self _).symm
section
variable {w : World} {lo b n : Nat} {h : Hd} {V : Vl} {d : Nat → Int}
def DropPost (w : World) (lo b : Nat) (h : Hd) (V : Vl) (i a m n : Nat) (d : Nat → Int) (e : Ending) (w' : World) : Prop :=
  e = .returned (.bool true) ∧ ∃ h' d' gi, SP V.gp (a : Int) gi ∧ Heap (n + 1) d' ∧ (vals d' (n + 1)).Perm ((i : Int) :: vals d n) ∧
    VAt w' lo b h' { V with bk := V.bk.set i (-1, (a : Int), (m : Int)), fr := vals d' (n + 1), used := V.used - m, gp := jn (jn (ins V.gp gi ((a : Int), (m : Int))) (gi : Int)) ((gi : Int) - 1) } ∧ Stp b h h' w w'
set_option maxHeartbeats 1000000 in
theorem drop_at (x : FAt w lo b h V d n) (hp : Heap n d) (hn : n ≤ 999999) {i a m : Nat} (hi : V.bk[i]? = some ((i : Int), (a : Int), (m : Int))) (hk : V.bk.length ≤ 1000000) (hm : 0 < m) (ham : a + m ≤ 1048576) (hu : m ≤ V.used) (hu6 : V.used ≤ 1048576) (hB : GB V.gp) (hr : V.gp.Pairwise fun a b => a.1 < b.1) (hgl : V.gp.length ≤ 999999) :
    Calls Try.prog 12 #[.pointer (some ⟨b, 0, none⟩), .int .i64 (i : Int)] w (DropPost w lo b h V i a m n d) := by
  have HF := Lib.hid (find_yes x.1 hk hi (by show (i : Int) ≠ -1; omega))
  unfold blkV at HF
  dsimp only at HF
  have HX := Lib.hid x
  have HI := Lib.hid hi
  have HP := Lib.hid hp
  have HG := Lib.hid (⟨hB, hr, hgl⟩ : GB V.gp ∧ V.gp.Pairwise (fun a b => a.1 < b.1) ∧ V.gp.length ≤ 999999)
  have hil : i < V.bk.length := (List.getElem?_eq_some_iff.1 hi).1
  obtain ⟨nk, HNK⟩ : ∃ nk, Hid (V.bk.length = nk) := ⟨_, Lib.hid rfl⟩
  rw [HNK.out] at hil hk
  clear x hi hp hB hr hgl
  go_enter Try.func12, Try.ntmps12
  go_wp2_with fail
  refine HF.out.mono ?_
  rintro e w1 ⟨rfl, hg1⟩
  have hga := World.grownBy_alloc w1 (.cells #[.int .i64 (i : Int), .int .i64 (a : Int), .int .i64 (m : Int)] 59) none
  have hb := heap_alloc_new w1 (.cells #[.int .i64 (i : Int), .int .i64 (a : Int), .int .i64 (m : Int)] 59)
  have HX2 := Lib.hid (HX.out.kept (grown_trans hg1 hga))
  have HB2 := Lib.hid hb
  have HS2 : Hid (Stp b h h w (w1.alloc (.cells #[.int .i64 (i : Int), .int .i64 (a : Int), .int .i64 (m : Int)] 59))) := Lib.hid ((Stp.of_new hg1).trans (Stp.of_new hga))
  have HBn : Hid (¬ own b h w1.heap.size) := Lib.hid fun ho => by have := (HX.out.1.own_lo ho).2; have := hg1.size; omega
  obtain ⟨gk, ck, ek, p0, p1, p2⟩ := HX2.out.1.kcells HI.out
  have c2 := HX2.out.1.c2
  rw [ek, HNK.out] at c2
  have hrk := HX2.out.1.rK
  rw [ek] at hrk
  have f0 := hrk.frozenAt (i * 3)
  obtain ⟨s1, g1⟩ := hrk.stored (i * 3) (.int .i64 (-1))
  rw [kset_num HI.out] at s1
  obtain ⟨hv3, hs3⟩ := HX2.out.1.inK (w1 := (w1.alloc (.cells #[.int .i64 (i : Int), .int .i64 (a : Int), .int .i64 (m : Int)] 59)).setCell ⟨gk, i * 3, none⟩ (.int .i64 (-1))) (by rw [ek]; exact g1) (l := V.bk.set i (-1, (a : Int), (m : Int))) (by rw [List.length_set]) (by rw [List.length_set, ek]; exact s1)
  have hgk : gk < w1.heap.size := by have := (HX.out.1.rK.lt gk (by rw [ek]; rfl)).2; have := hg1.size; omega
  have HB3 : Hid (((w1.alloc (.cells #[.int .i64 (i : Int), .int .i64 (a : Int), .int .i64 (m : Int)] 59)).setCell ⟨gk, i * 3, none⟩ (.int .i64 (-1))).heap[w1.heap.size]? = some (.cells #[.int .i64 (i : Int), .int .i64 (a : Int), .int .i64 (m : Int)] 59 (0, 0))) := Lib.hid ((heap_setCell_other _ _ _ _ (by simp only; omega)).trans HB2.out)
  have HX3 : Hid (FAt ((w1.alloc (.cells #[.int .i64 (i : Int), .int .i64 (a : Int), .int .i64 (m : Int)] 59)).setCell ⟨gk, i * 3, none⟩ (.int .i64 (-1))) lo b h { V with bk := V.bk.set i (-1, (a : Int), (m : Int)) } d n) := Lib.hid ⟨hv3, HX.out.2⟩
  have HS3 := Lib.hid (HS2.out.trans hs3)
  have hix := ix49 gk i nk ck hil
  clear hg1 hga hb ek hrk s1 g1 hv3 hs3 HF
  have hcm := World.setCell_alloc_past (w := w1) (.cells #[.int .i64 (i : Int), .int .i64 (a : Int), .int .i64 (m : Int)] 59) gk (i * 3) (.int .i64 (-1)) hgk
  rw [hcm] at HB3 HX3 HS3
  clear hcm
  go_wp2_with fail
  clear p0 p1 p2 c2 f0 hix
  obtain ⟨Bx, HBx⟩ : ∃ Bx, Hid (w1.heap.size = Bx) := ⟨_, Lib.hid rfl⟩
  rw [HBx.out] at HB3 HBn ⊢
  generalize (w1.setCell ⟨gk, i * 3, none⟩ (.int .i64 (-1))).alloc (.cells #[.int .i64 (i : Int), .int .i64 (a : Int), .int .i64 (m : Int)] 59) = w3 at *
  have hpu := hpush_at HX3.out HP.out hn (i : Int)
  unfold nums at hpu
  refine hpu.mono ?_
  rintro e w4 ⟨rfl, v4, d4, hv4, hs4, hh4, hp4⟩
  have HB4 : Hid (w4.heap[Bx]? = some (.cells #[.int .i64 (i : Int), .int .i64 (a : Int), .int .i64 (m : Int)] 59 (0, 0))) := Lib.hid ((hs4.but.block Bx (Array.getElem?_eq_some_iff.1 HB3.out).1 HBn.out).trans HB3.out)
  have HBn4 : Hid (¬ own b { h with vF := v4 } Bx) := Lib.hid fun ho => (hs4.new Bx ho).elim HBn.out (fun h2 => by have := (Array.getElem?_eq_some_iff.1 HB3.out).1; omega)
  have HV4 := Lib.hid hv4
  have HS4 := Lib.hid (HS3.out.trans hs4)
  have HH4 := Lib.hid (⟨hh4, hp4⟩ : Heap (n + 1) d4 ∧ (vals d4 (n + 1)).Perm ((i : Int) :: vals d n))
  clear hpu hv4 hs4 hh4 hp4 HX3 HS3 HB3
  go_wp2_with fail
  refine region_tail 9 (by kernel_rfl) (by kernel_rfl) ?_
  intro w5 hw5
  have HG5 : Hid (w4.grownBy w5 none) := Lib.hid (by rw [hw5]; exact grown_drewN w4 1 none)
  have HX5 := Lib.hid (HV4.out.kept HG5.out)
  have HB5 := Lib.hid (kept2 HB4.out HG5.out)
  clear hw5
  have c5 := HX5.out.c5
  dsimp only at c5
  have f5 := HX5.out.free 5
  have z1 := cell_of_head HB5.out 1
  have z2 := cell_of_head HB5.out 2
  obtain ⟨us, HUS⟩ : ∃ us, Hid (V.used = us) := ⟨_, Lib.hid rfl⟩
  rw [HUS.out] at c5 hu hu6
  obtain ⟨hv6, hs6⟩ := HX5.out.used' (V.used - m)
  have HW6 : Hid (((V.used - m : Nat) : Int) = (us : Int) - (m : Int)) := Lib.hid (by rw [HUS.out]; omega)
  rw [HW6.out] at hv6 hs6
  have HV6 := Lib.hid hv6
  have HS6 := Lib.hid ((HS4.out.trans (Stp.of_new HG5.out)).trans hs6)
  have hbx : ¬ Bx = b := fun e5 => HBn4.out (.inl e5)
  have HB6 : Hid ((w5.setCell ⟨b, 5, none⟩ (.int .i64 ((us : Int) - (m : Int)))).heap[Bx]? = some (.cells #[.int .i64 (i : Int), .int .i64 (a : Int), .int .i64 (m : Int)] 59 (0, 0))) := Lib.hid ((heap_setCell_other _ _ _ _ hbx).trans HB5.out)
  have k3 : IntKind.i64.wrap ((us : Int) - (m : Int)) = (us : Int) - (m : Int) := by rw [IntKind.wrap_i64]; omega
  clear hv6 hs6
  simp only [List.take_succ_cons, List.take_zero, List.drop_succ_cons, List.drop_zero]
  repeat still_step
  refine wpStill_nil ?_
  go_wp2_with fail
  clear c5 f5 z1 z2 k3
  generalize w5.setCell ⟨b, 5, none⟩ (.int .i64 ((us : Int) - (m : Int))) = w6 at *
  refine (addGap_at HV6.out HG.out.1 HG.out.2.1 HG.out.2.2 (a : Int) (m : Int) (by omega)).mono ?_
  rintro e w7 ⟨gi, hsp, rfl, v7, hv7, hs7⟩
  have HFin : Hid (DropPost w lo b h V i a m n d (.returned (.bool true)) w7) := Lib.hid ⟨rfl, _, d4, gi, hsp, HH4.out.1, HH4.out.2, hv7, HS6.out.trans hs7⟩
  clear hsp hv7 hs7
  go_wp2
  go_ret
  exact HFin.out
/-- a vault without blocks -/
def NewPost (w : World) (r : Nat) (e : Ending) (w' : World) : Prop :=
  e = .returned (.tuple #[.pointer (some ⟨w.heap.size, 0, none⟩), .int .i64 0]) ∧ ∃ v, VAt w' w.heap.size w.heap.size ⟨.slice none 0 0, .slice none 0 0, .slice none 0 0, v⟩ ⟨r, [], [], [], if r = 0 then [] else [(0, (r : Int))], 0, 0, 0⟩ ∧ w.grownBy w' none
set_option maxHeartbeats 400000 in
theorem new_at (w : World) (r : Nat) (hr : r ≤ 1048576) (h0 : 0 < r) : Calls Try.prog 7 #[.int .i64 (r : Int)] w (NewPost w r) := by
  have hga := World.grownBy_alloc w (.cells #[.int .i64 (r : Int), .slice none 0 0, .slice none 0 0, .slice none 0 0, .slice none 0 0, .int .i64 0, .int .i64 0, .int .i64 0] 56) none
  have hx : VAt (w.alloc (.cells #[.int .i64 (r : Int), .slice none 0 0, .slice none 0 0, .slice none 0 0, .slice none 0 0, .int .i64 0, .int .i64 0, .int .i64 0] 56)) w.heap.size w.heap.size ⟨.slice none 0 0, .slice none 0 0, .slice none 0 0, .slice none 0 0⟩ ⟨r, [], [], [], [], 0, 0, 0⟩ :=
    ⟨Nat.le_refl _, heap_alloc_new w _, World.ownsRow_nil _ _ _ _, World.ownsRow_nil _ _ _ _, World.ownsRow_nil _ _ _ _, World.ownsRow_nil _ _ _ _⟩
  have HA := Lib.hid (addGap_at hx (by intro p hp; simp at hp) List.Pairwise.nil (by simp) 0 (r : Int) (by omega))
  have HG := Lib.hid hga
  clear hx hga
  have k1 : ¬ ((1048576 : Int) < (r : Int)) := by omega
  go_enter Try.func7, Try.ntmps7
  go_wp2_with fail
  refine HA.out.mono ?_
  rintro e w1 ⟨gi, hsp, rfl, v, hv, hs⟩
  obtain rfl : gi = 0 := by have := hsp.le; simpa using this
  have hgp : jn (jn (ins ([] : List (Int × Int)) 0 ((0 : Int), (r : Int))) ((0 : Nat) : Int)) (((0 : Nat) : Int) - 1) = [(0, (r : Int))] := by simp [ins, jn]
  dsimp only at hv
  rw [hgp] at hv
  have HFin : Hid (NewPost w r (.returned (.tuple #[.pointer (some ⟨w.heap.size, 0, none⟩), .int .i64 0])) w1) := Lib.hid ⟨rfl, v, by rw [if_neg (by omega)]; exact hv, Stp.grown (lo := 0) hs HG.out (fun k hk => by
    rcases hk with hk | hk | hk | hk | hk
    · omega
    · cases hk
    · cases hk
    · cases hk
    · cases hk)⟩
  clear hsp hv hs hgp HA
  go_wp2
  go_ret2
  exact HFin.out
end
end Go.Proofs.Ythpcjgfbngemiaa
