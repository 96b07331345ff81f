/-
  Alloc and Get of a slab of structs.
-/
import Derived.Test.YtoopfoapkbjdkaaTakeT
import Derived.Test.YtoopfoapkbjdkaaAlloc
namespace Go.Proofs.Ytoopfoapkbjdkaa
open Go.ChangeShapes Go.WideShapes Go.ChangeAt Go.RowKit
set_option linter.unusedVariables false
set_option maxRecDepth 100000

section
variable {K : Kd} {w w' : World} {lo b most c : Nat} {Lc : List (List Value)} {fr : List Nat} {d cp : Nat → Nat} {vC vF : Value}
theorem set_same {α : Type} {l : List α} {p : Nat} {z : α} (h : p < l.length) : l.set p (l.getD p z) = l := by
  rw [List.getD_eq_getElem?_getD, List.getElem?_eq_getElem h]; simp
theorem Mem.storeRow {p : Nat} {row : List Value} (h : Mem K w lo b most c (Lc.set p row) fr d cp vC vF) (hK : K.Ok) {t : Nat} (hp : p < Lc.length) (ht : t < K.k) (v : Value) (hv : v.oneCell' = true) :
    Mem K (w.setCell ⟨d (p / c), p % c * K.k + t, none⟩ v) lo b most c (Lc.set p (row.set t v)) fr d cp vC vF ∧ Keep K lo w (w.setCell ⟨d (p / c), p % c * K.k + t, none⟩ v) := by
  have hp' : p < (Lc.set p row).length := by simpa using hp
  have hs := h.store hK hp' ht v hv
  have g : (Lc.set p row).getD p [] = row := by
    rw [List.getD_eq_getElem?_getD, List.getElem?_set, if_pos rfl, if_pos hp]; rfl
  rw [g, List.set_set] at hs
  exact hs
end
set_option maxHeartbeats 1000000 in
theorem alloc_rawT (lo b most c p t room : Nat) (s0 : Bool) (a0 a : Int) (f0 f : Bool) (w : World) (Lc : List (List Value)) (fr : List Nat) (vF : Value) (hp : p < Lc.length) (hx : Lc.getD p [] = [.int .u32 (t : Int), .bool s0, .int .i32 a0, .bool f0]) (ht : t + 1 < 4294967296) (hroom : ¬ room = 0)
    (hlo : lo ≤ w.heap.size) (hr : ∀ w', w.grownBy w' none → Calls Try.prog 42 #[.pointer (some ⟨b, 0, none⟩)] w' fun e w'' => e = .returned (.int .i64 (room : Int)) ∧ ∃ q, w'' = w'.drewN q)
    (hT : ∀ w', w.grownBy w' none → Calls Try.prog 43 #[.pointer (some ⟨b, 0, none⟩)] w' fun e w'' => e = .returned (.int .i32 (p : Int)) ∧ ∃ d cp vC, Mem Kt w'' lo b most c Lc fr d cp vC vF ∧ Keep Kt lo w' w'') :
    Calls Try.prog 21 #[.pointer (some ⟨b, 0, none⟩), .agg #[.int .i32 a, .bool f]] w fun e w' => e = .returned (.tuple #[hdl p ((t + 1 : Nat) : Int), .int .i64 0]) ∧ ∃ d cp vC, Mem Kt w' lo b most c (Lc.set p [.int .u32 ((t + 1 : Nat) : Int), .bool true, .int .i32 a, .bool f]) fr d cp vC vF ∧ Keep Kt lo w w' := by
  have Hr := Lib.hid hr
  have HT := Lib.hid hT
  clear hr hT
  have hb : ((room : Int) == 0) = false := beq_eq_false_iff_ne.2 (by omega)
  have HG0 : Hid (∀ o1 o2 : Obj, w.grownBy ((w.alloc o1).alloc o2) none) := Lib.hid fun o1 o2 => grown_trans (World.grownBy_alloc _ _ none) (World.grownBy_alloc _ _ none)
  go_enter Try.func21, Try.ntmps21
  go_wp2_with (go_at_call 42; refine (Hr.out _ (HG0.out _ _)).mono ?_; rintro e w' ⟨rfl, q, rfl⟩)
  refine (HT.out _ (grown_trans (HG0.out _ _) (grown_drewN _ q none))).mono ?_
  rintro e w2 ⟨rfl, d, cp, vC, hM, hK⟩
  have hz1 : (w.alloc (.cells #[.int .i32 a, .bool f] 60)).heap.size = w.heap.size + 1 := by simp
  have hbox : w2.heap[w.heap.size + 1]? = some (.cells #[.int .i32 0, .int .u32 0] 35 (0, 0)) := hK.other (by have := heap_alloc_new (w.alloc (.cells #[.int .i32 a, .bool f] 60)) (.cells #[.int .i32 0, .int .u32 0] 35); rw [hz1] at this; exact this) (by decide)
  have hvox : w2.heap[w.heap.size]? = some (.cells #[.int .i32 a, .bool f] 60 (0, 0)) := hK.other (heap_alloc2_old w _ _) (by decide)
  have hc0 := hM.spotCell (t := 0) hp (by decide)
  have hc1 := hM.spotCell (t := 1) hp (by decide)
  have hc2 := hM.spotCell (t := 2) hp (by decide)
  have hc3 := hM.spotCell (t := 3) hp (by decide)
  rw [hx] at hc0 hc1 hc2 hc3
  have hf := hM.spotFree hp
  obtain ⟨dj, Hdj⟩ : ∃ dj, Hid (d (p / c) = dj) := ⟨_, Lib.hid rfl⟩
  obtain ⟨o, Ho⟩ : ∃ o, Hid (p % c * 4 = o) := ⟨_, Lib.hid rfl⟩
  have hspot := spot_atT hM hp
  rw [show Kt.k = 4 from rfl, Hdj.out, Ho.out] at hc0 hc1 hc2 hc3
  rw [Hdj.out, Ho.out] at hspot
  rw [Hdj.out] at hf
  have hdlt := block_lt_of_cell hc0
  have hne : ¬ dj = w.heap.size + 1 := by
    intro e
    obtain ⟨_, cur, k2, _⟩ := hM.chunk (p / c) (nch_div hM.c1 hp)
    rw [Hdj.out, e] at k2
    exact absurd (type_eq hbox k2) (by decide)
  have hnv : ¬ dj = w.heap.size := by
    intro e
    obtain ⟨_, cur, k2, _⟩ := hM.chunk (p / c) (nch_div hM.c1 hp)
    rw [Hdj.out, e] at k2
    exact absurd (type_eq hvox k2) (by decide)
  have hne' : ¬ w.heap.size + 1 = dj := fun e => hne e.symm
  have hnv' : ¬ w.heap.size = dj := fun e => hnv e.symm
  have hM0 := hM
  rw [← set_same (z := []) hp, hx] at hM0
  have hm1 := hM0.storeRow Kt_ok hp (t := 0) (by decide) (.int .u32 ((t + 1 : Nat) : Int)) rfl
  have hm2 := hm1.1.storeRow Kt_ok hp (t := 1) (by decide) (.bool true) rfl
  have hm3 := hm2.1.storeRow Kt_ok hp (t := 2) (by decide) (.int .i32 a) rfl
  have hm4 := hm3.1.storeRow Kt_ok hp (t := 3) (by decide) (.bool f) rfl
  have hk4 := ((hm1.2.trans hm2.2).trans hm3.2).trans hm4.2
  have hm4 := hm4.1
  simp only [show Kt.k = 4 from rfl, Hdj.out, Ho.out, Nat.add_zero, List.set_cons_zero, List.set_cons_succ] at hm4 hk4
  have hz2 := hK.size
  have HK := Lib.hid hK
  have HM4 := Lib.hid hm4
  have HK4 := Lib.hid hk4
  have Hbox := Lib.hid hbox
  have Hspot := Lib.hid hspot
  have hf0 := hf o
  have hf1 := hf (o + 1)
  have hf2 := hf (o + 2)
  have hf3 := hf (o + 3)
  have hb0 := cell_of_head hbox 0
  have hb1 := cell_of_head hbox 1
  have hbf0 := frozen_of_head hbox 0
  have hbf1 := frozen_of_head hbox 1
  have hv0 := cell_of_head hvox 0
  have hv1 := cell_of_head hvox 1
  have hbz : w.heap.size + 1 < w2.heap.size := (Array.getElem?_eq_some_iff.1 hbox).1
  have hwr : IntKind.u32.wrap ((t : Int) + 1) = ((t + 1 : Nat) : Int) := by rw [IntKind.wrap_u32]; omega
  clear hK hm1 hm2 hm3 hm4 hk4 hbox hspot hf hM hM0 hx hvox
  simp only [List.getElem?_toArray, List.getElem?_cons_zero, List.getElem?_cons_succ, Nat.add_zero] at hc0 hc1 hc2 hc3 hb0 hb1 hv0 hv1
  go_wp2_with (go_at_call 44; refine Hspot.out.mono ?_; rintro e w' ⟨rfl, q2, rfl⟩)
  have hb3 : (((((w2.drewN q2).setCell ⟨dj, o, none⟩ (.int .u32 ((t : Int) + 1))).setCell ⟨dj, o + 1, none⟩ (.bool true)).setCell ⟨dj, o + 2, none⟩ (.int .i32 a)).setCell ⟨dj, o + 3, none⟩ (.bool f)).heap[w.heap.size + 1]? = some (.cells #[.int .i32 0, .int .u32 0] 35 (0, 0)) :=
    (heap_setCell_other _ _ _ _ hne').trans ((heap_setCell_other _ _ _ _ hne').trans ((heap_setCell_other _ _ _ _ hne').trans ((heap_setCell_other _ _ _ _ hne').trans Hbox.out)))
  have hb4 := head_set (head_set hb3 0 (.int .i32 (p : Int))) 1 (.int .u32 ((t : Int) + 1))
  refine bodyPost_ret (results_handle rfl _ _ _ _ _ _ _ rfl hb4) rfl ?_
  have hMd := HM4.out.drewN q2
  have hMb := (hMd.setBox (B := w.heap.size + 1) hb3 (by decide) 0 (.int .i32 (p : Int))).setBox (head_set hb3 0 _) (by decide) 1 (.int .u32 ((t : Int) + 1))
  have hKd : Keep Kt lo w (((((w2.drewN q2).setCell ⟨dj, o, none⟩ (.int .u32 ((t : Int) + 1))).setCell ⟨dj, o + 1, none⟩ (.bool true)).setCell ⟨dj, o + 2, none⟩ (.int .i32 a)).setCell ⟨dj, o + 3, none⟩ (.bool f)) :=
    ((Keep.of_new (grown_trans (HG0.out _ _) (grown_drewN _ q none))).trans HK.out).trans (HK4.out.trans (Keep.of_new (grown_drewN _ q2 none)))
  exact ⟨rfl, d, cp, vC, hMb, (hKd.setNew (Nat.le_succ _) 0 _).setNew (Nat.le_succ _) 1 _⟩
theorem results_two {fn : Func} {p u : Tmp} (h : fn.results = #[.cell p 60, .tmp u]) (tmps : Array Value) (w : World) (g : Nat) (t : TypeId) (fr : Nat × Nat) (x y : Value)
    (hp : tmps.getD p undef = .pointer (some ⟨g, 0, none⟩)) (hg : w.heap[g]? = some (.cells #[x, y] t fr)) : (results fn tmps).run Try.prog w = .ok (.tuple #[.agg #[x, y], tmps.getD u undef]) w := by
  rw [results_cell_tmp h, hp]
  simp [asAddr, run_loadVar_row w g t 60 #[x, y] fr _ hg Try.underlying60 rfl (by kernel_rfl), Result.andThen]
set_option maxHeartbeats 1000000 in
theorem get_yesT (A : Option Addr) (dj o : Nat) (p t a : Int) (f : Bool) (w : World) (hf : ∀ w', w.grownBy w' none → Calls Try.prog 46 #[.pointer A, hdl p t] w' fun e w'' => e = .returned (.tuple #[.pointer (some ⟨dj, o, none⟩), .int .i64 0]) ∧ w'.grownBy w'' none)
    (h2 : w.cell? ⟨dj, o + 2, none⟩ = some (.int .i32 a)) (h3 : w.cell? ⟨dj, o + 3, none⟩ = some (.bool f)) :
    Calls Try.prog 23 #[.pointer A, hdl p t] w fun e w' => e = .returned (.tuple #[.agg #[.int .i32 a, .bool f], .int .i64 0]) ∧ w.grownBy w' none := by
  have Hs := Lib.hid hf
  clear hf
  unfold hdl
  have hdlt := block_lt_of_cell h2
  have HG0 : Hid (∀ o1 o2 : Obj, w.grownBy ((w.alloc o1).alloc o2) none) := Lib.hid fun o1 o2 => grown_trans (World.grownBy_alloc _ _ none) (World.grownBy_alloc _ _ none)
  go_enter Try.func23, Try.ntmps23
  go_wp2_with fail
  refine (Hs.out _ (HG0.out _ _)).mono ?_
  rintro e w' ⟨rfl, hg⟩
  have hz1 : (w.alloc (.cells #[.int .i32 p, .int .u32 t] 35)).heap.size = w.heap.size + 1 := by simp
  have hbox : w'.heap[w.heap.size + 1]? = some (.cells #[.int .i32 0, .bool false] 60 (0, 0)) := (hg.block _ (by simp) (by simp)).trans (by have := heap_alloc_new (w.alloc (.cells #[.int .i32 p, .int .u32 t] 35)) (.cells #[.int .i32 0, .bool false] 60); rw [hz1] at this; exact this)
  have hg2 := grown_trans (HG0.out _ _) hg
  have hc2 := hg2.cell h2 (by simp)
  have hc3 := hg2.cell h3 (by simp)
  have hb0 := cell_of_head hbox 0
  have hb1 := cell_of_head hbox 1
  have hbf0 := frozen_of_head hbox 0
  have hbf1 := frozen_of_head hbox 1
  have hbz : w.heap.size + 1 < w'.heap.size := (Array.getElem?_eq_some_iff.1 hbox).1
  have HG := Lib.hid hg2
  have Hbox := Lib.hid hbox
  simp only [List.getElem?_toArray, List.getElem?_cons_zero, List.getElem?_cons_succ] at hb0 hb1
  clear hg hg2 hbox
  go_wp2
  refine bodyPost_ret (results_two rfl _ _ _ _ _ _ _ rfl (head_set (head_set Hbox.out 0 (.int .i32 a)) 1 (.bool f))) rfl ?_
  exact ⟨rfl, grown_new (grown_new HG.out (grown_setCell _ _ 0 _) (Nat.le_succ _)) (grown_setCell _ _ 1 _) (Nat.le_succ _)⟩
end Go.Proofs.Ytoopfoapkbjdkaa
