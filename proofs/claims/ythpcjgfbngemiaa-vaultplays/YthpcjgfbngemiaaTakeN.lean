/-
  A number for a new block: takeNumber. A block is laid elsewhere: lay.
-/
import Derived.Test.YthpcjgfbngemiaaBlocks
namespace Go.Proofs.Ythpcjgfbngemiaa
open Go.ChangeShapes Go.WideShapes Go.ChangeAt Go.RowKit
set_option linter.unusedVariables false
set_option maxRecDepth 100000
section
variable {w : World} {lo b n : Nat} {h : Hd} {V : Vl} {d : Nat → Int}
/-- the least free number -/
def PopPost (w : World) (lo b : Nat) (h : Hd) (V : Vl) (m : Nat) (d : Nat → Int) (e : Ending) (w' : World) : Prop := e = .returned (.int .i64 (d 0)) ∧ HPost w lo b h V m (fun l => (vals d (m + 1)).Perm (d 0 :: l)) w'
set_option maxHeartbeats 400000 in
theorem takeN_free (x : FAt w lo b h V d (n + 1)) (hp : Heap (n + 1) d) (hn : n ≤ 999999) : Calls Try.prog 23 #[.pointer (some ⟨b, 0, none⟩)] w (PopPost w lo b h V n d) := by
  have hpop := hpop_at x hp hn
  unfold nums at hpop
  have HP := Lib.hid hpop
  obtain ⟨g, c, e⟩ := owns_some x.row (by omega)
  have c3 := x.1.c3
  rw [e] at c3
  have hta := assert3 (d 0)
  clear x hp e hpop
  have k1 : (0 : Int) < ((n + 1 : Nat) : Int) := by omega
  go_enter Try.func23, Try.ntmps23
  go_wp2_with fail
  refine HP.out.mono ?_
  rintro e w1 ⟨rfl, hpost⟩
  have HPo := Lib.hid hpost
  clear hpost HP
  go_wp2
  go_ret
  exact ⟨rfl, HPo.out⟩
/-- one more number -/
def NewNPost (w : World) (lo b : Nat) (h : Hd) (V : Vl) (e : Ending) (w' : World) : Prop := e = .returned (.int .i64 (V.bk.length : Int)) ∧ ∃ v, VAt w' lo b { h with vK := v } { V with bk := V.bk ++ [(0, 0, 0)] } ∧ Stp b h { h with vK := v } w w'
set_option maxHeartbeats 400000 in
theorem takeN_new (x : VAt w lo b h V) (hf : V.fr = []) (hn : V.bk.length ≤ 999999) : Calls Try.prog 23 #[.pointer (some ⟨b, 0, none⟩)] w (NewNPost w lo b h V) := by
  have c3 := x.c3
  obtain ⟨AF, cF, eF⟩ := owns_slice x.rF
  rw [hf] at eF
  rw [eF] at c3
  obtain ⟨A, c, e⟩ := owns_slice x.rK
  have c2 := x.c2
  rw [e] at c2
  have hr := x.rK
  rw [e] at hr
  obtain ⟨g', cap', w1, hrun, ho1, _, hgr, hft⟩ := app59 hr (by omega) (by have := x.own_lo (.inl rfl); omega) (0, 0, 0)
  have hga := World.grownBy_alloc w (.cells #[.int .i64 0, .int .i64 0, .int .i64 0] 59) none
  have hxa := x.kept hga
  obtain ⟨hv, hs⟩ := hxa.setK (w1 := w1) (l := V.bk ++ [(0, 0, 0)]) (v := .slice (some ⟨g', 0, none⟩) (V.bk.length + 1) cap') (by rw [e]; exact hgr) (by rw [List.length_append]; exact ho1) (by
    rcases hft with hft | hft
    · exact .inl (by rw [e]; exact hft)
    · exact .inr (fun k hk => by injection hk with hk; have hk : g' = k := hk; simp; omega))
  have HFin : Hid (NewNPost w lo b h V (.returned (.int .i64 (V.bk.length : Int))) (w1.setCell ⟨b, 2, none⟩ (.slice (some ⟨g', 0, none⟩) (V.bk.length + 1) cap'))) := Lib.hid ⟨rfl, _, hv, (Stp.of_new hga).trans hs⟩
  have d2 := hv.c2
  have hb1 : w1.heap[b]? = w.heap[b]? := (hgr.block b hxa.blt (fun e2 => x.neK (by rw [e]; exact e2.symm) rfl)).trans (hga.block b x.blt (by simp))
  have e2 := (World.cell?_of_block (a := ⟨b, 2, none⟩) hb1).trans c2
  have f2 := (World.frozen?_of_block (a := ⟨b, 2, none⟩) hb1).trans (x.free 2)
  dsimp only at d2
  obtain ⟨n, HN⟩ : ∃ n, Hid (V.bk.length = n) := ⟨_, Lib.hid rfl⟩
  rw [HN.out] at hrun HFin c2 e2 d2 hn
  have HR := Lib.hid hrun
  clear x eF e hf hr hrun ho1 hgr hft hga hxa hv hs hb1
  go_enter Try.func23, Try.ntmps23
  go_wp2_with (at_builtin; refine append_run rfl (.tmp 19) (.tmp 21) 49 rfl rfl rfl HR.out ?_)
  go_ret
  exact HFin.out
end
end Go.Proofs.Ythpcjgfbngemiaa
