/-
  The free numbers: heap.Push, heap.Pop.
-/
import Derived.Test.YthpcjgfbngemiaaHeap
namespace Go.Proofs.Ythpcjgfbngemiaa
open Go.ChangeShapes Go.WideShapes Go.ChangeAt Go.RowKit
set_option linter.unusedVariables false
set_option maxRecDepth 100000
theorem info3 : (Try.prog.info? 3).map (fun i => (i.zero, i.size, i.bytes)) = some (some (.int .i64 0), 1, 8) := by kernel_rfl
theorem assert3 (y : Int) (w : World) : (Instr.typeAssert (.iface 3 (.int .i64 y)) 20 3 false).run Try.prog w = .ok (.int .i64 y) w := by kernel_rfl
/-- only the free numbers turn -/
def FreePost (w : World) (lo b : Nat) (h : Hd) (V : Vl) (l : List Int) (w' : World) : Prop := ∃ v, VAt w' lo b { h with vF := v } { V with fr := l } ∧ Stp b h { h with vF := v } w w'
section
variable {w : World} {lo b n : Nat} {h : Hd} {V : Vl} {d : Nat → Int}
set_option maxHeartbeats 400000 in
theorem npush_at (x : VAt w lo b h V) (hn : V.fr.length ≤ 1000000) (y : Int) : Calls Try.prog 95 #[.pointer (some ⟨b, 3, none⟩), .iface 3 (.int .i64 y)] w fun e w' => e = .returned (.tuple #[]) ∧ FreePost w lo b h V (V.fr ++ [y]) w' := by
  obtain ⟨A, c, e⟩ := owns_slice x.rF
  obtain ⟨i0, hi0, hz0, hz1, hz2⟩ := info_parts info3
  have hga : w.grownBy (w.alloc (.cells #[.int .i64 y] 3)).drew none := grown_trans (World.grownBy_alloc w _ none) ⟨rfl, rfl, rfl, Nat.le_refl _, fun _ _ _ => rfl⟩
  have hx := x.kept hga
  obtain ⟨g', cap', w5, hrun, ho, hgr, hft⟩ := run_append_foot (P := Try.prog) ((w.alloc (.cells #[.int .i64 y] 3)).drew) lo 53 53 3 i0 (.int .i64 0) 1 8 Try.underlying53 hi0 hz0 hz1 hz2 rfl (by decide) h.vF V.fr.length (rvals ienc V.fr) hx.rF ⟨w.heap.size, 0, none⟩ 1 [.int .i64 y] rfl
    (fun j u hu => by
      have hj : j < 1 := (List.getElem?_eq_some_iff.1 hu).1
      obtain rfl : j = 0 := by omega
      simp at hu; subst hu
      exact cell_of_head (heap_alloc_new w (.cells #[.int .i64 y] 3)) 0) (fun u hu => by simp at hu; subst hu; rfl) (by unfold maxLen; omega) (by omega) (by have := hx.own_lo (.inl rfl); omega)
  obtain ⟨hv, hs⟩ := hx.setF (w1 := w5) (l := V.fr ++ [y]) (v := .slice (some ⟨g', 0, none⟩) (V.fr.length + 1) cap') hgr (by rw [rvals_append, List.length_append]; exact ho) (by
    rcases hft with hft | hft
    · exact .inl hft
    · exact .inr (fun k hk => by injection hk with hk; have hk : g' = k := hk; omega))
  have HFin : Hid (FreePost w lo b h V (V.fr ++ [y]) (w5.setCell ⟨b, 3, none⟩ (.slice (some ⟨g', 0, none⟩) (V.fr.length + 1) cap'))) := Lib.hid ⟨_, hv, (Stp.of_new hga).trans hs⟩
  have hb5 : w5.heap[b]? = w.heap[b]? := (hgr.block b hx.blt (fun e => x.neF e.symm rfl)).trans (hga.block b x.blt (by simp))
  have c3 := x.c3
  have f3 := x.free 3
  have d3 := (World.cell?_of_block (a := ⟨b, 3, none⟩) hb5).trans c3
  have g3 := (World.frozen?_of_block (a := ⟨b, 3, none⟩) hb5).trans f3
  have hblt := x.blt
  rw [e] at c3 d3 hrun
  obtain ⟨n, HN⟩ : ∃ n, Hid (V.fr.length = n) := ⟨_, Lib.hid rfl⟩
  rw [HN.out] at c3 d3 hrun HFin
  have HR := Lib.hid hrun
  clear x e hx hga hrun ho hgr hft hv hs hb5 hi0 hz0 hz1 hz2 hn
  have hta := assert3 y
  go_enter Try.func95, Try.ntmps95
  go_wp2_with fail
  go_region_law ((refine step_append_run rfl (.tmp 7) (.tmp 10) 53 rfl rfl rfl HR.out ?_))
  all_goals go_wp2
  all_goals go_end0
  all_goals exact ⟨rfl, HFin.out⟩
set_option maxHeartbeats 400000 in
theorem npop_at (x : FAt w lo b h V d (n + 1)) (hn : n ≤ 1000000) : Calls Try.prog 94 #[.pointer (some ⟨b, 3, none⟩)] w fun e w' => e = .returned (.iface 3 (.int .i64 (d n))) ∧ FreePost w lo b h V (vals d n) w' := by
  obtain ⟨g, c, e⟩ := owns_some x.row (by omega)
  have hr := x.row
  rw [e] at hr
  have hcut := owns_cut hr (m := n) (by omega)
  rw [← rvals_take ienc_len, vals_succ, List.take_append_of_le_length (by rw [vals_len]; exact Nat.le_refl _), List.take_of_length_le (by rw [vals_len]; exact Nat.le_refl _)] at hcut
  obtain ⟨hv, hs⟩ := x.1.setF (w1 := w) (l := vals d n) (v := .slice (some ⟨g, 0, none⟩) n c) ⟨rfl, rfl, rfl, Nat.le_refl _, fun _ _ _ => rfl⟩ (by rw [vals_len]; exact hcut) (.inl (by rw [e]; rfl))
  have HFin : Hid (FreePost w lo b h V (vals d n) (w.setCell ⟨b, 3, none⟩ (.slice (some ⟨g, 0, none⟩) n c))) := Lib.hid ⟨_, hv, hs⟩
  have c3 := x.1.c3
  have f3 := x.1.free 3
  rw [e] at c3
  have cn := x.cell e (i := n) (by omega)
  have hix := ix53 g n (n + 1) c (by omega)
  have hcap := owns_cap hr
  clear x e hr hcut hv hs
  have k1 : (0 : Int) ≤ (n : Int) := by omega
  have k2 : (n : Int) ≤ (c : Int) := by omega
  go_enter Try.func94, Try.ntmps94
  go_wp2
  go_ret
  exact ⟨rfl, HFin.out⟩
/-- a heap of numbers goes on as a heap -/
def HPost (w : World) (lo b : Nat) (h : Hd) (V : Vl) (m : Nat) (R : List Int → Prop) (w' : World) : Prop := ∃ v d', VAt w' lo b { h with vF := v } { V with fr := vals d' m } ∧ Stp b h { h with vF := v } w w' ∧ Heap m d' ∧ R (vals d' m)
set_option maxHeartbeats 400000 in
theorem hpush_at (x : FAt w lo b h V d n) (hp : Heap n d) (hn : n ≤ 999999) (y : Int) : Calls Try.prog 30 #[nums b, .iface 3 (.int .i64 y)] w fun e w' => e = .returned (.tuple #[]) ∧ HPost w lo b h V (n + 1) (fun l => l.Perm (y :: vals d n)) w' := by
  unfold nums
  have HPU := Lib.hid (npush_at x.1 (by rw [x.2, vals_len]; omega) y)
  have mp := mpush b
  have HX2 := Lib.hid x.2
  have HP := Lib.hid hp
  clear x hp
  go_enter Try.func30, Try.ntmps30
  go_wp2_with fail
  refine HPU.out.mono ?_
  rintro e w1 ⟨rfl, v1, hv1, hs1⟩
  let d1 : Nat → Int := fun i => if i = n then y else d i
  have hfr : V.fr ++ [y] = vals d1 (n + 1) := by
    rw [HX2.out, vals_succ]
    congr 1
    · unfold vals
      refine List.map_congr_left fun i hi => ?_
      have := List.mem_range.1 hi
      show d i = if i = n then y else d i
      rw [if_neg (by omega)]
    · show [y] = [if n = n then y else d n]; rw [if_pos rfl]
  have hx1 : FAt w1 lo b { h with vF := v1 } { V with fr := V.fr ++ [y] } d1 (n + 1) := ⟨hv1, hfr⟩
  have hh1 : Heap n d1 := fun i h1 h2 => by
    show (if (i - 1) / 2 = n then y else d ((i - 1) / 2)) ≤ if i = n then y else d i
    rw [if_neg (by omega), if_neg (by omega)]
    exact HP.out i h1 h2
  obtain ⟨g, c, e⟩ := owns_some hx1.row (by omega)
  have c3 := hv1.c3
  have e' : v1 = .slice (some ⟨g, 0, none⟩) (n + 1) c := e
  have mn := mlen (n := n + 1) (c := c) (by rw [← e']; exact c3)
  have hup := up_at hx1 n (by omega) (by omega) (HUp.start hh1)
  unfold nums at hup
  have HUP := Lib.hid hup
  have HS1 := Lib.hid hs1
  have HPerm : Hid (∀ d', PR 0 (n + 1) d1 d' → (vals d' (n + 1)).Perm (y :: vals d n)) := Lib.hid fun d' hpr => by
    refine hpr.perm.trans ?_
    rw [← hfr, HX2.out]
    exact List.perm_append_singleton y (vals d n)
  clear hv1 hs1 hfr hx1 hh1 e c3 hup HPU e'
  have k1 : ((n + 1 : Nat) : Int) - 1 = (n : Int) := by omega
  go_wp2_with (go_at_call 91; refine (len_at _ _ _ _).mono ?_; rintro e w' ⟨rfl, rfl⟩)
  refine HUP.out.mono ?_
  rintro e w2 ⟨rfl, d2, hf2, hs2, hh2, hpr⟩
  have HF2 := Lib.hid hf2
  have HS2 := Lib.hid (HS1.out.trans hs2)
  have HH2 := Lib.hid hh2
  have HR2 := Lib.hid (HPerm.out d2 hpr)
  clear hf2 hs2 hh2 hpr
  go_wp2
  go_end0
  exact ⟨rfl, v1, d2, HF2.out.1, HS2.out, HH2.out, HR2.out⟩
set_option maxHeartbeats 400000 in
theorem hpop_at (x : FAt w lo b h V d (n + 1)) (hp : Heap (n + 1) d) (hn : n ≤ 999999) : Calls Try.prog 44 #[nums b] w fun e w' => e = .returned (.iface 3 (.int .i64 (d 0))) ∧ HPost w lo b h V n (fun l => (vals d (n + 1)).Perm (d 0 :: l)) w' := by
  unfold nums
  obtain ⟨g, c, e⟩ := owns_some x.row (by omega)
  have HE := Lib.hid e
  have c3 := x.1.c3
  rw [e] at c3
  have mn := mlen c3
  have ms := mswap c3
  have HSW := Lib.hid (swap_at x e (i := 0) (j := n) (by omega) (by omega))
  have HP := Lib.hid hp
  clear x e hp
  have k1 : ((n + 1 : Nat) : Int) - 1 = (n : Int) := by omega
  go_enter Try.func44, Try.ntmps44
  go_wp2_with (go_at_call 91; refine (len_at _ _ _ _).mono ?_; rintro e w' ⟨rfl, rfl⟩)
  refine HSW.out.mono ?_
  rintro e w1 ⟨rfl, hf1, hs1⟩
  have hdn := down_at hf1 n (by omega) (by omega) (HDn.start HP.out)
  unfold nums at hdn
  have HDN := Lib.hid hdn
  have HS1 := Lib.hid hs1
  clear hf1 hs1 hdn HSW c3 mn ms
  go_wp2_with fail
  refine HDN.out.mono ?_
  rintro e w2 ⟨⟨bb, rfl⟩, d2, hf2, hs2, hh2, hpr⟩
  have hd0 : d2 n = d 0 := by
    rw [hpr.out (k := n) (by omega)]
    simp [sw]
  have hpo := npop_at hf2 (by omega)
  rw [hd0] at hpo
  have HPO := Lib.hid hpo
  have mp := mpop b
  have HS2 := Lib.hid (HS1.out.trans hs2)
  have HH2 := Lib.hid hh2
  have HR2 : Hid ((vals d (n + 1)).Perm (d 0 :: vals d2 n)) := Lib.hid (by
    have h1 : (vals d2 (n + 1)).Perm (vals d (n + 1)) := ((PR.one (a := 0) (b := n + 1) (d := d) (i := 0) (j := n) (by omega) (by omega) (by omega) (by omega)).trans (hpr.wide (Nat.le_refl _) (by omega))).perm
    rw [vals_succ d2, hd0] at h1
    exact h1.symm.trans (List.perm_append_singleton _ _))
  clear hf2 hs2 hh2 hpr hpo hd0 HDN
  go_wp2_with fail
  refine HPO.out.mono ?_
  rintro e w3 ⟨rfl, v3, hv3, hs3⟩
  have HV3 := Lib.hid hv3
  have HS3 := Lib.hid (HS2.out.trans hs3)
  clear hv3 hs3 HPO
  go_wp2
  go_ret
  exact ⟨rfl, v3, d2, HV3.out, HS3.out, HH2.out, HR2.out⟩
end
end Go.Proofs.Ythpcjgfbngemiaa
