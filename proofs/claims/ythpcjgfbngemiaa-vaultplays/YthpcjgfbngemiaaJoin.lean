/-
  Two gaps side by side are made one: joinNext.
-/
import Derived.Test.YthpcjgfbngemiaaMem
import Derived.Deep.RegionHeld3
import Derived.BigRegion
import Derived.Deep.CutRange
namespace Go.Proofs.Ythpcjgfbngemiaa
open Go.ChangeShapes Go.WideShapes Go.ChangeAt Go.RowKit
set_option linter.unusedVariables false
set_option maxRecDepth 100000
/-- places and lengths are small -/
def GB (l : List (Int × Int)) : Prop := ∀ p ∈ l, 0 ≤ p.1 ∧ 0 ≤ p.2 ∧ p.1 + p.2 ≤ 1048576
theorem GB.get {l : List (Int × Int)} (h : GB l) {i : Nat} {p : Int × Int} (hp : l[i]? = some p) : 0 ≤ p.1 ∧ 0 ≤ p.2 ∧ p.1 + p.2 ≤ 1048576 := h p (List.mem_of_getElem? hp)
/-- only the gaps turn -/
def GapPost (w : World) (lo b : Nat) (h : Hd) (V : Vl) (l : List (Int × Int)) (e : Ending) (w' : World) : Prop := e = .returned (.tuple #[]) ∧ ∃ v, VAt w' lo b { h with vG := v } { V with gp := l } ∧ Stp b h { h with vG := v } w w'
theorem grown_alloc2 (w : World) (o1 o2 : Obj) : w.grownBy ((w.alloc o1).alloc o2).drew none := grown_trans (grown_trans (World.grownBy_alloc w o1 none) (World.grownBy_alloc _ o2 none)) ⟨rfl, rfl, rfl, Nat.le_refl _, fun _ _ _ => rfl⟩
theorem alloc2_fst (w : World) (o1 o2 : Obj) : ((w.alloc o1).alloc o2).drew.heap[w.heap.size]? = some o1 := (Below.heap_alloc (w.alloc o1) o2 w.heap.size (by simp)).trans (heap_alloc_new w o1)
theorem alloc2_snd (w : World) (o1 o2 : Obj) : ((w.alloc o1).alloc o2).drew.heap[w.heap.size + 1]? = some o2 := by
  have := heap_alloc_new (w.alloc o1) o2
  rwa [World.size_alloc] at this
theorem gset_snd {l : List (Int × Int)} {i : Nat} {a m v : Int} (h : l[i]? = some (a, m)) : (rvals genc l).set (i * 2 + 1) (.int .i64 v) = gvals (l.set i (a, v)) := by
  have hi := (List.getElem?_eq_some_iff.1 h).1
  show _ = rvals genc _
  refine List.ext_getElem? fun j => ?_
  rw [List.getElem?_set]
  have hl := rvals_len genc_len l
  by_cases hj : j < l.length * 2
  · obtain ⟨k, t, hk, rfl⟩ : ∃ k t, t < 2 ∧ j = k * 2 + t := ⟨j / 2, j % 2, by omega, by omega⟩
    have hkl : k < l.length := by omega
    by_cases hki : k = i
    · subst hki
      have h2 : (l.set k (a, v))[k]? = some (a, v) := by rw [List.getElem?_set_self hkl]
      rw [rvals_get genc_len h2 hk]
      obtain rfl | rfl : t = 0 ∨ t = 1 := by omega
      · rw [if_neg (by omega), rvals_get genc_len h (j := 0) (by omega)]; rfl
      · rw [if_pos rfl, if_pos (by omega)]; rfl
    · have h2 : (l.set i (a, v))[k]? = l[k]? := by rw [List.getElem?_set_ne (fun e => hki e.symm)]
      have h3 : l[k]? = some l[k] := List.getElem?_eq_getElem hkl
      rw [if_neg (by omega), rvals_get genc_len h3 hk, rvals_get genc_len (h2.trans h3) hk]
  · rw [if_neg (by omega), List.getElem?_eq_none (by omega), List.getElem?_eq_none (by rw [rvals_len genc_len, List.length_set]; omega)]
section
variable {w : World} {lo b : Nat} {h : Hd} {V : Vl}
theorem VAt.gcells (x : VAt w lo b h V) {i : Nat} {p : Int × Int} (hi : V.gp[i]? = some p) : ∃ g c, h.vG = .slice (some ⟨g, 0, none⟩) V.gp.length c ∧ w.cell? ⟨g, i * 2, none⟩ = some (.int .i64 p.1) ∧ w.cell? ⟨g, i * 2 + 1, none⟩ = some (.int .i64 p.2) ∧ w.frozen? ⟨g, i * 2, none⟩ = false ∧ w.frozen? ⟨g, i * 2 + 1, none⟩ = false ∧ V.gp.length ≤ c := by
  have hl : i < V.gp.length := (List.getElem?_eq_some_iff.1 hi).1
  obtain ⟨g, c, e⟩ := owns_some x.rG (by omega)
  have hr := x.rG
  rw [e] at hr
  obtain ⟨h1, h2⟩ := GRow.cells hr hi
  exact ⟨g, c, e, h1, h2, hr.frozenAt _, hr.frozenAt _, owns_cap hr⟩
set_option maxHeartbeats 400000 in
/-- there are no two -/
theorem join_none (x : VAt w lo b h V) (i : Int) (hi : i < 0 ∨ (V.gp.length : Int) ≤ i + 1) (h2 : -5 ≤ i ∧ i ≤ 2000000) :
    Calls Try.prog 38 #[.pointer (some ⟨b, 0, none⟩), .int .i64 i] w (GapPost w lo b h V V.gp) := by
  have HX : Hid (GapPost w lo b h V V.gp (.returned (.tuple #[])) w) := Lib.hid ⟨rfl, h.vG, x, Stp.refl _ _ _⟩
  obtain ⟨A, c, e⟩ := owns_slice x.rG
  have c4 := x.c4
  rw [e] at c4
  obtain ⟨n, hn⟩ : ∃ n, V.gp.length = n := ⟨_, rfl⟩
  rw [hn] at c4 hi
  clear e x hn
  by_cases h0 : i < 0
  · go_enter Try.func38, Try.ntmps38
    go_wp2
    go_end0
    exact HX.out
  · have h1 : (n : Int) ≤ i + 1 := by omega
    clear hi
    go_enter Try.func38, Try.ntmps38
    go_wp2
    go_end0
    exact HX.out
set_option maxHeartbeats 400000 in
/-- the two do not touch -/
theorem join_apart (x : VAt w lo b h V) (hB : GB V.gp) (hn : V.gp.length ≤ 1000000) {i : Nat} {p q : Int × Int} (hp : V.gp[i]? = some p) (hq : V.gp[i + 1]? = some q) (hne : p.1 + p.2 ≠ q.1) :
    Calls Try.prog 38 #[.pointer (some ⟨b, 0, none⟩), .int .i64 (i : Int)] w (GapPost w lo b h V V.gp) := by
  have HX := Lib.hid x
  obtain ⟨g, c, e, p0, p1, f0, f1, hc⟩ := x.gcells hp
  obtain ⟨g', c', e', q0, q1, f2, f3, _⟩ := x.gcells hq
  rw [e] at e'
  injection e' with e1 _ e3
  injection e1 with e1
  injection e1 with e1
  subst e1 e3
  obtain ⟨hp1, hp2, hp3⟩ := hB.get hp
  obtain ⟨hq1, hq2, hq3⟩ := hB.get hq
  have hil : i + 1 < V.gp.length := (List.getElem?_eq_some_iff.1 hq).1
  have c4 := x.c4
  rw [e] at c4
  obtain ⟨n, hnn⟩ : ∃ n, V.gp.length = n := ⟨_, rfl⟩
  rw [hnn] at c4 hil hn hc
  obtain ⟨pa, pm⟩ := p
  obtain ⟨qa, qm⟩ := q
  dsimp only at *
  have hd : (pa + pm == qa) = false := beq_eq_false_iff_ne.2 hne
  have hx1 := ix54 g i n c (by omega)
  have hx2 := ix54 g (i + 1) n c (by omega)
  rw [show ((i + 1 : Nat) : Int) = (i : Int) + 1 by omega] at hx2
  have hl1 := ld76 p0 p1
  have hl2 := ld76 q0 q1
  clear e hnn hp hq x hB hc f0 f1 f2 f3 hne
  have k1 : ¬ (n : Int) ≤ (i : Int) + 1 := by omega
  have k2 : IntKind.i64.wrap ((i : Int) + 1) = (i : Int) + 1 := by rw [IntKind.wrap_i64]; omega
  go_enter Try.func38, Try.ntmps38
  go_wp2_with fail
  go_region_held3 (fun w' => w'.cell? ⟨b, 4, none⟩ = some (.slice (some ⟨g, 0, none⟩) n c) ∧ w'.cell? ⟨g, i * 2, none⟩ = some (.int .i64 pa) ∧ w'.cell? ⟨g, i * 2 + 1, none⟩ = some (.int .i64 pm) ∧ w'.cell? ⟨g, (i + 1) * 2, none⟩ = some (.int .i64 qa) ∧ w'.cell? ⟨g, (i + 1) * 2 + 1, none⟩ = some (.int .i64 qm)) (first | exact ⟨c4, p0, p1, q0, q1⟩ | go_keep) (first | fail)
  all_goals go_wp2
  all_goals go_end0
  all_goals exact ⟨rfl, h.vG, HX.out.kept (grown_alloc2 _ _ _), Stp.of_new (grown_alloc2 _ _ _)⟩
set_option maxHeartbeats 400000 in
/-- the two touch: they are made one -/
theorem join_one (x : VAt w lo b h V) (hB : GB V.gp) (hn : V.gp.length ≤ 1000000) {i : Nat} {p q : Int × Int} (hp : V.gp[i]? = some p) (hq : V.gp[i + 1]? = some q) (hne : p.1 + p.2 = q.1) :
    Calls Try.prog 38 #[.pointer (some ⟨b, 0, none⟩), .int .i64 (i : Int)] w (GapPost w lo b h V ((V.gp.set i (p.1, p.2 + q.2)).eraseIdx (i + 1))) := by
  have HX := Lib.hid x
  obtain ⟨g, c, e, p0, p1, f0, f1, hc⟩ := x.gcells hp
  obtain ⟨g', c', e', q0, q1, f2, f3, _⟩ := x.gcells hq
  rw [e] at e'
  injection e' with e1 _ e3
  injection e1 with e1
  injection e1 with e1
  subst e1 e3
  obtain ⟨hp1, hp2, hp3⟩ := hB.get hp
  obtain ⟨hq1, hq2, hq3⟩ := hB.get hq
  have hil : i + 1 < V.gp.length := (List.getElem?_eq_some_iff.1 hq).1
  have c4 := x.c4
  rw [e] at c4
  obtain ⟨n, hnn⟩ : ∃ n, V.gp.length = n := ⟨_, rfl⟩
  rw [hnn] at c4 hil hn hc
  obtain ⟨pa, pm⟩ := p
  obtain ⟨qa, qm⟩ := q
  dsimp only at *
  have hd : (pa + pm == qa) = true := beq_iff_eq.2 hne
  have hx1 := ix54 g i n c (by omega)
  have hx2 := ix54 g (i + 1) n c (by omega)
  rw [show ((i + 1 : Nat) : Int) = (i : Int) + 1 by omega] at hx2
  have hl1 := ld76 p0 p1
  have hl2 := ld76 q0 q1
  have HE := Lib.hid e
  have HNN := Lib.hid hnn
  have HPP := Lib.hid hp
  have HNE : Hid (g ≠ b) := Lib.hid (x.neG (by rw [e]; rfl))
  clear e hnn hp hq x hB hc f0 f1 f2 f3 hne
  have k1 : ¬ (n : Int) ≤ (i : Int) + 1 := by omega
  have k2 : IntKind.i64.wrap ((i : Int) + 1) = (i : Int) + 1 := by rw [IntKind.wrap_i64]; omega
  go_enter Try.func38, Try.ntmps38
  go_wp2_with fail
  go_cut [4, 5] from 4 to 32 (fun u v wc => ∃ B4 B5, u = .pointer (some ⟨B4, 0, none⟩) ∧ v = .pointer (some ⟨B5, 0, none⟩) ∧ Hid (w.grownBy wc none ∧ wc.heap[B4]? = some (.cells #[.int .i64 pa, .int .i64 pm] 76 (0, 0)) ∧ wc.heap[B5]? = some (.cells #[.int .i64 qa, .int .i64 qm] 76 (0, 0)) ∧ w.heap.size ≤ B4 ∧ w.heap.size ≤ B5))
  case first =>
    go_region_held3 (fun w' => w'.cell? ⟨b, 4, none⟩ = some (.slice (some ⟨g, 0, none⟩) n c) ∧ w'.cell? ⟨g, i * 2, none⟩ = some (.int .i64 pa) ∧ w'.cell? ⟨g, i * 2 + 1, none⟩ = some (.int .i64 pm) ∧ w'.cell? ⟨g, (i + 1) * 2, none⟩ = some (.int .i64 qa) ∧ w'.cell? ⟨g, (i + 1) * 2 + 1, none⟩ = some (.int .i64 qm)) (first | exact ⟨c4, p0, p1, q0, q1⟩ | go_keep) (first | fail)
    all_goals go_wp2
    all_goals go_meet
    all_goals first
      | exact ⟨_, _, rfl, rfl, Lib.hid ⟨grown_alloc2 _ _ _, alloc2_snd _ _ _, alloc2_fst _ _ _, by omega, by omega⟩⟩
      | exact ⟨_, _, rfl, rfl, Lib.hid ⟨grown_alloc2 _ _ _, alloc2_fst _ _ _, alloc2_snd _ _ _, by omega, by omega⟩⟩
  case rest =>
    obtain ⟨B4, B5, rfl, rfl, HC⟩ := hcut
    have HX1 := Lib.hid (HX.out.kept HC.out.1)
    have r0 := cell_of_head HC.out.2.1 0
    have r1 := cell_of_head HC.out.2.1 1
    have s0 := cell_of_head HC.out.2.2.1 0
    have s1 := cell_of_head HC.out.2.2.1 1
    clear p0 p1 q0 q1 c4 hl1 hl2 hx2
    go_wp2_with fail
    clear r0 r1 s0 s1
    refine region_tail 13 (by kernel_rfl) (by kernel_rfl) ?_
    intro w3 hw3
    have HG3 : Hid (wc.grownBy w3 none) := Lib.hid (by rw [hw3]; exact grown_drewN wc 1 none)
    have HX3 := Lib.hid (HX1.out.kept HG3.out)
    clear hw3
    obtain ⟨g', c', e', p0, p1, f0, f1, hcc⟩ := HX3.out.gcells HPP.out
    rw [HE.out] at e'
    injection e' with e1 _ e3
    injection e1 with e1
    injection e1 with e1
    subst e1 e3
    have c4 := HX3.out.c4
    rw [HE.out, HNN.out] at c4
    have s0 := cell_of_head (kept2 HC.out.2.2.1 HG3.out) 0
    have s1 := cell_of_head (kept2 HC.out.2.2.1 HG3.out) 1
    have hrow := HX3.out.rG
    rw [HE.out] at hrow
    obtain ⟨hst, hsg⟩ := hrow.stored (i * 2 + 1) (.int .i64 (pm + qm))
    have HG4 : Hid (GRow (w3.setCell ⟨g, i * 2 + 1, none⟩ (.int .i64 (pm + qm))) lo (.slice (some ⟨g, 0, none⟩) n c) (V.gp.set i (pa, pm + qm))) := Lib.hid (by
      unfold GRow
      rw [gset_snd HPP.out, HNN.out] at hst
      rw [List.length_set, HNN.out]
      exact hst)
    have HGG4 := Lib.hid hsg
    have k3 : IntKind.i64.wrap (pm + qm) = pm + qm := by rw [IntKind.wrap_i64]; omega
    have HD : Hid (Calls Try.prog 42 #[.slice (some ⟨g, 0, none⟩) n c, .int .i64 ((i : Int) + 1), .int .i64 ((i : Int) + 2)] (w3.setCell ⟨g, i * 2 + 1, none⟩ (.int .i64 (pm + qm))) (DelPost (w3.setCell ⟨g, i * 2 + 1, none⟩ (.int .i64 (pm + qm))) lo g (n - 1) c ((V.gp.set i (pa, pm + qm)).eraseIdx (i + 1)))) := Lib.hid (by
      have hd := delete_at (l := V.gp.set i (pa, pm + qm)) (w := w3.setCell ⟨g, i * 2 + 1, none⟩ (.int .i64 (pm + qm))) (lo := lo) (g := g) (c := c) (by rw [List.length_set, HNN.out]; exact HG4.out) (i + 1) (by rw [List.length_set, HNN.out]; exact hil) (by rw [List.length_set, HNN.out]; exact hn)
      rw [List.length_set, HNN.out] at hd
      rw [show ((i + 1 : Nat) : Int) + 1 = (i : Int) + 2 by omega, show ((i + 1 : Nat) : Int) = (i : Int) + 1 by omega] at hd
      exact hd)
    clear hst hsg hrow HG4
    simp only [List.take_succ_cons, List.take_zero, List.drop_succ_cons, List.drop_zero]
    repeat still_step
    refine wpStill_nil ?_
    have hne1 : b ≠ g := HNE.out.symm
    go_wp2_with fail
    refine HD.out.mono ?_
    rintro e w5 ⟨rfl, hgr, hgw⟩
    have hgG : w3.grownBy w5 (some g) := grown_trans HGG4.out hgw
    have hb5 : w5.heap[b]? = w3.heap[b]? := hgG.block b HX3.out.blt (by simp [hne1])
    have d4 : w5.cell? ⟨b, 4, none⟩ = some (.slice (some ⟨g, 0, none⟩) n c) := (World.cell?_of_block hb5).trans c4
    have f4 : w5.frozen? ⟨b, 4, none⟩ = false := (World.frozen?_of_block hb5).trans (HX3.out.free 4)
    have HLe : Hid (((V.gp.set i (pa, pm + qm)).eraseIdx (i + 1)).length = n - 1) := Lib.hid (by rw [List.length_eraseIdx, List.length_set, HNN.out, if_pos hil])
    have HFin := Lib.hid (HX3.out.setG (w1 := w5) (l := (V.gp.set i (pa, pm + qm)).eraseIdx (i + 1)) (v := .slice (some ⟨g, 0, none⟩) (n - 1) c) (by rw [HE.out]; exact hgG) hgr (.inl (by rw [HE.out]; rfl)))
    have HS : Hid (Stp b h h w w3) := Lib.hid ((Stp.of_new HC.out.1).trans (Stp.of_new HG3.out))
    clear hgr hgw hgG hb5 c4 p0 p1 f0 f1 s0 s1 HD HGG4
    go_wp2
    go_end0
    exact ⟨rfl, _, HFin.out.1, HS.out.trans HFin.out.2⟩
end
end Go.Proofs.Ythpcjgfbngemiaa
