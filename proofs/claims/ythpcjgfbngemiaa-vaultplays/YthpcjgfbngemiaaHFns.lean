/-
  The free numbers as a heap: Len, Less, Swap, Push, Pop.
-/
import Derived.Test.YthpcjgfbngemiaaHMem
namespace Go.Proofs.Ythpcjgfbngemiaa
open Go.ChangeShapes Go.WideShapes Go.ChangeAt Go.RowKit
set_option linter.unusedVariables false
set_option maxRecDepth 100000
theorem ix53 (g p n c : Nat) (hp : p < n) (w : World) : (Instr.indexAt 53 (Value.slice (some { block := g, off := 0 }) n c) (Value.int .i64 p)).run Try.prog w = .ok (.pointer (some ⟨g, p, none⟩)) w := by
  simp [go_sem, hp]
theorem ivals_get {d : Nat → Int} {n i : Nat} (h : i < n) : (rvals ienc (vals d n))[i]? = some (.int .i64 (d i)) := by
  have := rvals_get ienc_len (vals_get d h) (j := 0) (by omega)
  rw [Nat.mul_one, Nat.add_zero] at this
  rw [this]; rfl
theorem ivals_set (d : Nat → Int) (n i : Nat) (x : Int) : (rvals ienc (vals d n)).set i (.int .i64 x) = rvals ienc (vals (fun k => if k = i then x else d k) n) := by
  refine List.ext_getElem? fun j => ?_
  have hl : ∀ d : Nat → Int, (rvals ienc (vals d n)).length = n := fun d => by rw [rvals_len ienc_len, vals_len]; omega
  rw [List.getElem?_set]
  by_cases hj : j < n
  · rw [ivals_get hj]
    by_cases hij : i = j
    · subst hij; rw [if_pos rfl, if_pos (by rw [hl]; exact hj), ivals_get hj, if_pos rfl]
    · rw [if_neg hij, ivals_get hj, if_neg (fun e => hij e.symm)]
  · rw [List.getElem?_eq_none (by rw [hl]; omega), List.getElem?_eq_none (by rw [hl]; omega)]
    split
    · split
      · rename_i h1 h2; rw [hl] at h2; omega
      · rfl
    · rfl
theorem wrapchk (xt : TypeId) (a : Addr) (s1 s2 : String) : Builtin.ssaWrapNilChk_ #[xt] xt #[.pointer (some a), strVal s1, strVal s2] = pure (.pointer (some a)) := rfl
theorem method_val {name : String} {f : FuncId} (hm : ((Try.prog.info? 69).bind fun i => i.methods.find? (·.name == name)).map (fun m => (m.path, m.func)) = some (#[], some (f, false)))
    {b n c : Nat} {A : Option Addr} {w : World} (h : w.cell? ⟨b, 3, none⟩ = some (.slice A n c)) : (method 238 69 (.pointer (some ⟨b, 3, none⟩)) name).run Try.prog w = .ok (f, .slice A n c) w := by
  cases hq : Try.prog.info? 69 with
  | none => rw [hq] at hm; cases hm
  | some i =>
    rw [hq] at hm
    simp only [Option.bind_some] at hm
    cases hf : i.methods.find? (·.name == name) with
    | none => rw [hf] at hm; cases hm
    | some m =>
      rw [hf] at hm
      simp only [Option.map_some, Option.some.injEq, Prod.mk.injEq] at hm
      unfold method
      simp [typeInfo, hq, hf, hm.1, hm.2, follow, receiverAt, run_underlying Try.underlying69, Place.get, wrapchk, asAddr, go_sem, h]
theorem mless {b n c : Nat} {A : Option Addr} {w : World} (h : w.cell? ⟨b, 3, none⟩ = some (.slice A n c)) : (method 238 69 (.pointer (some ⟨b, 3, none⟩)) "Less").run Try.prog w = .ok (92, .slice A n c) w := method_val (by kernel_rfl) h
theorem mswap {b n c : Nat} {A : Option Addr} {w : World} (h : w.cell? ⟨b, 3, none⟩ = some (.slice A n c)) : (method 238 69 (.pointer (some ⟨b, 3, none⟩)) "Swap").run Try.prog w = .ok (93, .slice A n c) w := method_val (by kernel_rfl) h
theorem mlen {b n c : Nat} {A : Option Addr} {w : World} (h : w.cell? ⟨b, 3, none⟩ = some (.slice A n c)) : (method 238 69 (.pointer (some ⟨b, 3, none⟩)) "Len").run Try.prog w = .ok (91, .slice A n c) w := method_val (by kernel_rfl) h
theorem mpush (b : Nat) (w : World) : (method 238 69 (.pointer (some ⟨b, 3, none⟩)) "Push").run Try.prog w = .ok (95, .pointer (some ⟨b, 3, none⟩)) w := by kernel_rfl
theorem mpop (b : Nat) (w : World) : (method 238 69 (.pointer (some ⟨b, 3, none⟩)) "Pop").run Try.prog w = .ok (94, .pointer (some ⟨b, 3, none⟩)) w := by kernel_rfl
/-- the free numbers, written out -/
def FAt (w : World) (lo b : Nat) (h : Hd) (V : Vl) (d : Nat → Int) (n : Nat) : Prop := VAt w lo b h V ∧ V.fr = vals d n
section
variable {w : World} {lo b n : Nat} {h : Hd} {V : Vl} {d : Nat → Int}
theorem FAt.row (x : FAt w lo b h V d n) : w.ownsRow lo 3 1 h.vF n (rvals ienc (vals d n)) := by
  have := x.1.rF
  rw [x.2, vals_len] at this
  exact this
theorem FAt.cell {g c : Nat} (x : FAt w lo b h V d n) (e : h.vF = .slice (some ⟨g, 0, none⟩) n c) {i : Nat} (hi : i < n) : w.cell? ⟨g, i, none⟩ = some (.int .i64 (d i)) := by
  have hr := x.row
  rw [e] at hr
  exact (hr.cellAt i (by omega)).trans (ivals_get hi)
theorem len_at (A : Option Addr) (n c : Nat) (w : World) : Calls Try.prog 91 #[.slice A n c] w fun e w' => e = .returned (.int .i64 (n : Int)) ∧ w = w' := by
  go_enter Try.func91, Try.ntmps91
  go_wp2
  go_ret
  exact ⟨rfl, rfl⟩
set_option maxHeartbeats 400000 in
theorem less_at {g c : Nat} (x : FAt w lo b h V d n) (e : h.vF = .slice (some ⟨g, 0, none⟩) n c) {i j : Nat} (hi : i < n) (hj : j < n) :
    Calls Try.prog 92 #[.slice (some ⟨g, 0, none⟩) n c, .int .i64 (i : Int), .int .i64 (j : Int)] w fun e w' => e = .returned (.bool (decide (d i < d j))) ∧ w.grownBy w' none := by
  have c1 := x.cell e hi
  have c2 := x.cell e hj
  have h1 := ix53 g i n c hi
  have h2 := ix53 g j n c hj
  clear x e
  go_enter Try.func92, Try.ntmps92
  go_wp2_with fail
  go_quiet (fail)
  go_wp2
  go_ret
  exact ⟨rfl, grown_drewN w _ none⟩
set_option maxHeartbeats 400000 in
theorem swap_at {g c : Nat} (x : FAt w lo b h V d n) (e : h.vF = .slice (some ⟨g, 0, none⟩) n c) {i j : Nat} (hi : i < n) (hj : j < n) :
    Calls Try.prog 93 #[.slice (some ⟨g, 0, none⟩) n c, .int .i64 (i : Int), .int .i64 (j : Int)] w fun r w' => r = .returned (.tuple #[]) ∧ FAt w' lo b h { V with fr := vals (sw d i j) n } (sw d i j) n ∧ Stp b h h w w' := by
  have c1 := x.cell e hi
  have c2 := x.cell e hj
  have h1 := ix53 g i n c hi
  have h2 := ix53 g j n c hj
  have hr := x.row
  rw [e] at hr
  have f1 := hr.frozenAt i
  have f2 := hr.frozenAt j
  have HF : Hid (∀ w1, w1 = ((w.setCell ⟨g, i, none⟩ (.int .i64 (d j))).setCell ⟨g, j, none⟩ (.int .i64 (d i))).drew → FAt w1 lo b h { V with fr := vals (sw d i j) n } (sw d i j) n ∧ Stp b h h w w1) := Lib.hid fun w1 hw1 => by
    obtain ⟨s1, g1⟩ := hr.stored i (.int .i64 (d j))
    obtain ⟨s2, g2⟩ := s1.stored j (.int .i64 (d i))
    rw [ivals_set, ivals_set] at s2
    have hg : w.grownBy w1 (some g) := by rw [hw1]; exact ⟨(grown_trans g1 g2).os, (grown_trans g1 g2).tape, (grown_trans g1 g2).output, (grown_trans g1 g2).size, (grown_trans g1 g2).block⟩
    have hrow : w1.ownsRow lo 3 1 h.vF (vals (sw d i j) n).length (rvals ienc (vals (sw d i j) n)) := by rw [vals_len, e, hw1]; exact s2
    obtain ⟨hv, hs⟩ := x.1.inF (w1 := w1) (by rw [e]; exact hg) (l := vals (sw d i j) n) (by rw [x.2, vals_len, vals_len]) hrow
    exact ⟨⟨hv, rfl⟩, hs⟩
  clear x e hr
  go_enter Try.func93, Try.ntmps93
  go_wp2_with fail
  by_cases hij : i = j
  · subst hij
    go_region
    go_wp2
    go_end0
    exact ⟨rfl, HF.out _ rfl⟩
  · have hji : ¬ j = i := fun e => hij e.symm
    go_region
    go_wp2
    go_end0
    exact ⟨rfl, HF.out _ rfl⟩
/-- the vault's numbers as the heap has them -/
def nums (b : Nat) : Value := .iface 69 (.pointer (some ⟨b, 3, none⟩))
theorem FAt.kept (x : FAt w lo b h V d n) {w' : World} (hg : w.grownBy w' none) : FAt w' lo b h V d n := ⟨x.1.kept hg, x.2⟩
/-- what up and down leave -/
def HeapPost (w : World) (lo b n : Nat) (h : Hd) (V : Vl) (d : Nat → Int) (m : Nat) (w' : World) : Prop := ∃ d', FAt w' lo b h { V with fr := vals d' n } d' n ∧ Stp b h h w w' ∧ Heap m d' ∧ PR 0 m d d'
set_option maxHeartbeats 400000 in
theorem up_at (x : FAt w lo b h V d n) (j : Nat) (hj : j < n) (hn : n ≤ 1000000) (hu : HUp n j d) : Calls Try.prog 48 #[nums b, .int .i64 (j : Int)] w fun e w' => e = .returned (.tuple #[]) ∧ HeapPost w lo b n h V d n w' := by
  unfold nums
  obtain ⟨g, c, e⟩ := owns_some x.row (by omega)
  have HE := Lib.hid e
  have HX0 : Hid (FAt w lo b h { V with fr := vals d n } d n) := Lib.hid (by have := x; obtain ⟨h1, h2⟩ := x; rw [← h2]; exact ⟨h1, h2⟩)
  have HU := Lib.hid hu
  clear e x hu
  go_enter Try.func48, Try.ntmps48
  go_wp2_with fail
  go_loopg [1] j (fun m v wr => ∃ (i : Nat) (d' : Nat → Int), v = .int .i64 (i : Int) ∧ i < n ∧ Hid (m = i) ∧ Hid (FAt wr lo b h { V with fr := vals d' n } d' n ∧ Stp b h h w wr ∧ HUp n i d' ∧ PR 0 n d d'))
  case atStart => exact ⟨j, d, rfl, hj, Lib.hid rfl, Lib.hid ⟨HX0.out, Stp.refl _ _ _, HU.out, PR.refl⟩⟩
  case round =>
    obtain ⟨i, d', rfl, hi, HM, HI⟩ := hrel
    by_cases h0 : i = 0
    · subst h0
      have HD := Lib.hid (HI.out.2.2.1.done (.inl rfl))
      go_wp2
      go_end0
      exact ⟨rfl, d', HI.out.1, HI.out.2.1, HD.out, HI.out.2.2.2⟩
    · obtain ⟨k, HK⟩ : ∃ k : Nat, Hid (((i : Int) - 1) / 2 = (k : Int) ∧ k = (i - 1) / 2 ∧ k < i) := ⟨(i - 1) / 2, Lib.hid ⟨by omega, rfl, by omega⟩⟩
      have hk := HK.out.1
      have hki := HK.out.2.2
      have hne : ¬ ((k : Int) = (i : Int)) := by omega
      have c3 := HI.out.1.1.c3
      rw [HE.out] at c3
      have ml := mless c3
      have HL := less_at HI.out.1 HE.out (i := i) (j := k) hi (by omega)
      by_cases hlt : d' i < d' k
      · rw [decide_eq_true hlt] at HL
        have HLL := Lib.hid HL
        have HS : Hid (HUp n k (sw d' k i)) := Lib.hid (by have := HI.out.2.2.1.step (by omega) hi (by rw [← HK.out.2.1]; exact hlt); rw [← HK.out.2.1] at this; exact this)
        clear HL hlt
        go_wp2_with fail
        refine HLL.out.mono ?_
        rintro e w1 ⟨rfl, hg1⟩
        have HF1 := Lib.hid (HI.out.1.kept hg1)
        have HG1 := Lib.hid hg1
        have d3 := HF1.out.1.c3
        rw [HE.out] at d3
        have ms := mswap d3
        have HSW := Lib.hid (swap_at HF1.out HE.out (i := k) (j := i) (by omega) hi)
        clear hg1 c3 ml HLL
        go_wp2_with fail
        refine HSW.out.mono ?_
        rintro e w2 ⟨rfl, hf2, hs2⟩
        have HF2 := Lib.hid hf2
        have HS2 := Lib.hid ((HI.out.2.1.trans (Stp.of_new HG1.out)).trans hs2)
        clear hf2 hs2 d3 ms HSW
        go_wp2_with fail
        go_roundg k
        case measure => have := HM.out; omega
        case rel => exact ⟨k, sw d' k i, rfl, by omega, Lib.hid rfl, Lib.hid ⟨HF2.out, HS2.out, HS.out, HI.out.2.2.2.step (Nat.zero_le _) (by omega) (Nat.zero_le _) hi⟩⟩
      · rw [decide_eq_false hlt] at HL
        have HLL := Lib.hid HL
        have HD := Lib.hid (HI.out.2.2.1.done (.inr (by rw [← HK.out.2.1]; omega)))
        clear HL hlt
        go_wp2_with fail
        refine HLL.out.mono ?_
        rintro e w1 ⟨rfl, hg1⟩
        have HF1 := Lib.hid (HI.out.1.kept hg1)
        have HG1 := Lib.hid hg1
        clear hg1 c3 ml HLL
        go_wp2
        go_end0
        exact ⟨rfl, d', HF1.out, HI.out.2.1.trans (Stp.of_new HG1.out), HD.out, HI.out.2.2.2⟩
end
end Go.Proofs.Ythpcjgfbngemiaa
