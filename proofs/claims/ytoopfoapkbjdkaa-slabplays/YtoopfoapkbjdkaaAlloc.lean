/-
  Alloc of a slab of numbers.
-/
import Derived.Test.YtoopfoapkbjdkaaTake
namespace Go.Proofs.Ytoopfoapkbjdkaa
open Go.ChangeShapes Go.WideShapes Go.ChangeAt Go.RowKit
set_option linter.unusedVariables false
set_option maxRecDepth 100000

section
variable {K : Kd} {w w' : World} {lo b most c : Nat} {Lc : List (List Value)} {fr : List Nat} {d cp : Nat → Nat} {vC vF : Value}
theorem Mem.setBox (h : Mem K w lo b most c Lc fr d cp vC vF) {B : Nat} {cur : Array Value} {t : TypeId} {f : Nat × Nat} (hB : w.heap[B]? = some (.cells cur t f)) (ht : K.own t = false) (i : Nat) (v : Value) :
    Mem K (w.setCell ⟨B, i, none⟩ v) lo b most c Lc fr d cp vC vF := by
  have ht' : t ≠ K.tS ∧ t ≠ K.tC ∧ t ≠ K.tP ∧ t ≠ 21 := by
    simp only [Kd.own, Bool.or_eq_false_iff, beq_eq_false_iff_ne] at ht
    exact ⟨ht.1.1.1, ht.1.1.2, ht.1.2, ht.2⟩
  refine h.stay (heap_setCell_other _ _ _ _ ?_) (fun k hk => heap_setCell_other _ _ _ _ ?_) (fun j hj => heap_setCell_other _ _ _ _ ?_) (fun k hk => heap_setCell_other _ _ _ _ ?_)
  · rintro rfl; exact ht'.1 (type_eq hB h.head)
  · rintro rfl; exact ht'.2.1 (type_eq hB (owns_type h.rowC hk).2.choose_spec)
  · intro e
    obtain ⟨_, cur', k2, _⟩ := h.chunk j hj
    rw [e] at k2
    exact ht'.2.2.1 (type_eq hB k2)
  · rintro rfl; exact ht'.2.2.2 (type_eq hB (owns_type h.rowF hk).2.choose_spec)
theorem Keep.setNew (h : Keep K lo w w') {B : Nat} (hB : w.heap.size ≤ B) (i : Nat) (v : Value) : Keep K lo w (w'.setCell ⟨B, i, none⟩ v) :=
  ⟨h.os, h.tape, h.output, by simpa using h.size, fun k hk hc => (heap_setCell_other _ _ k _ (by simp only; omega)).trans (h.block k hk hc)⟩
end
theorem alloc_nil (v : Int) (w : World) : Calls Try.prog 13 #[.pointer none, .int .i64 v] w fun e w' => e = .returned (.tuple #[hdl 0 0, .int .i64 9]) ∧ w.grownBy w' none := by
  go_enter Try.func13, Try.ntmps13
  go_wp2
  refine bodyPost_ret (results_handle rfl _ _ _ _ _ _ _ rfl (heap_alloc_new w _)) rfl ?_
  exact ⟨rfl, World.grownBy_alloc _ _ none⟩
theorem alloc_full (A : Addr) (v : Int) (w : World) (hr : ∀ w', w.grownBy w' none → Calls Try.prog 27 #[.pointer (some A)] w' fun e w'' => e = .returned (.int .i64 0) ∧ ∃ q, w'' = w'.drewN q) :
    Calls Try.prog 13 #[.pointer (some A), .int .i64 v] w fun e w' => e = .returned (.tuple #[hdl 0 0, .int .i64 3]) ∧ w.grownBy w' none := by
  have Hs := Lib.hid hr
  clear hr
  go_enter Try.func13, Try.ntmps13
  go_wp2_with (go_at_call 27; refine (Hs.out _ (World.grownBy_alloc _ _ none)).mono ?_; rintro e w' ⟨rfl, q, rfl⟩)
  refine bodyPost_ret (results_handle rfl _ _ _ _ _ _ _ rfl (box_heap w q _ _ _ _)) rfl ?_
  exact ⟨rfl, box_grown w q _ _ _ _⟩
set_option maxHeartbeats 1000000 in
theorem alloc_raw (lo b most c p t room : Nat) (s0 : Bool) (v0 v : Int) (w : World) (Lc : List (List Value)) (fr : List Nat) (hp : p < Lc.length) (hx : Lc.getD p [] = [.int .u32 (t : Int), .bool s0, .int .i64 v0]) (ht : t + 1 < 4294967296) (hroom : ¬ room = 0)
    (hlo : lo ≤ w.heap.size) (hr : ∀ w', w.grownBy w' none → Calls Try.prog 27 #[.pointer (some ⟨b, 0, none⟩)] w' fun e w'' => e = .returned (.int .i64 (room : Int)) ∧ ∃ q, w'' = w'.drewN q)
    (hT : ∀ w', w.grownBy w' none → Calls Try.prog 36 #[.pointer (some ⟨b, 0, none⟩)] w' fun e w'' => e = .returned (.int .i32 (p : Int)) ∧ ∃ d cp vC vF, Mem Ki w'' lo b most c Lc fr d cp vC vF ∧ Keep Ki lo w' w'') :
    Calls Try.prog 13 #[.pointer (some ⟨b, 0, none⟩), .int .i64 v] w fun e w' => e = .returned (.tuple #[hdl p ((t + 1 : Nat) : Int), .int .i64 0]) ∧ ∃ d cp vC vF, Mem Ki w' lo b most c (Lc.set p [.int .u32 ((t + 1 : Nat) : Int), .bool true, .int .i64 v]) fr d cp vC vF ∧ Keep Ki lo w w' := by
  have Hr := Lib.hid hr
  have HT := Lib.hid hT
  clear hr hT
  have hb : ((room : Int) == 0) = false := beq_eq_false_iff_ne.2 (by omega)
  go_enter Try.func13, Try.ntmps13
  go_wp2_with (go_at_call 27; refine (Hr.out _ (World.grownBy_alloc _ _ none)).mono ?_; rintro e w' ⟨rfl, q, rfl⟩)
  refine (HT.out _ (grown_trans (World.grownBy_alloc _ _ none) (grown_drewN _ q none))).mono ?_
  rintro e w2 ⟨rfl, d, cp, vC, vF, hM, hK⟩
  have hbox : w2.heap[w.heap.size]? = some (.cells #[.int .i32 0, .int .u32 0] 35 (0, 0)) := hK.other (heap_alloc_new w _) (by decide)
  have hc0 := hM.spotCell (t := 0) hp (by decide)
  have hc1 := hM.spotCell (t := 1) hp (by decide)
  have hc2 := hM.spotCell (t := 2) hp (by decide)
  rw [hx] at hc0 hc1 hc2
  have hf := hM.spotFree hp
  obtain ⟨dj, Hdj⟩ : ∃ dj, Hid (d (p / c) = dj) := ⟨_, Lib.hid rfl⟩
  obtain ⟨o, Ho⟩ : ∃ o, Hid (p % c * 3 = o) := ⟨_, Lib.hid rfl⟩
  have hspot := spot_at hM hp
  rw [show Ki.k = 3 from rfl, Hdj.out, Ho.out] at hc0 hc1 hc2
  rw [Hdj.out, Ho.out] at hspot
  rw [Hdj.out] at hf
  have hdlt := block_lt_of_cell hc0
  have hne : ¬ dj = w.heap.size := by
    intro e
    obtain ⟨_, cur, k2, _⟩ := hM.chunk (p / c) (nch_div hM.c1 hp)
    rw [Hdj.out, e] at k2
    exact absurd (type_eq hbox k2) (by decide)
  have hne' : ¬ w.heap.size = dj := fun e => hne e.symm
  have hm1 := hM.store Ki_ok hp (t := 0) (by decide) (.int .u32 ((t + 1 : Nat) : Int)) rfl
  have hp1 : p < (Lc.set p ((Lc.getD p []).set 0 (.int .u32 ((t + 1 : Nat) : Int)))).length := by simpa using hp
  have hm2 := hm1.1.store Ki_ok hp1 (t := 1) (by decide) (.bool true) rfl
  have hp2 : p < ((Lc.set p ((Lc.getD p []).set 0 (.int .u32 ((t + 1 : Nat) : Int)))).set p (((Lc.set p ((Lc.getD p []).set 0 (.int .u32 ((t + 1 : Nat) : Int)))).getD p []).set 1 (.bool true))).length := by simpa using hp
  have hm3 := hm2.1.store Ki_ok hp2 (t := 2) (by decide) (.int .i64 v) rfl
  have hk3 := (hm1.2.trans hm2.2).trans hm3.2
  have hm3 := hm3.1
  have hset : ((Lc.set p ((Lc.getD p []).set 0 (.int .u32 ((t + 1 : Nat) : Int)))).set p (((Lc.set p ((Lc.getD p []).set 0 (.int .u32 ((t + 1 : Nat) : Int)))).getD p []).set 1 (.bool true))).set p ((((Lc.set p ((Lc.getD p []).set 0 (.int .u32 ((t + 1 : Nat) : Int)))).set p (((Lc.set p ((Lc.getD p []).set 0 (.int .u32 ((t + 1 : Nat) : Int)))).getD p []).set 1 (.bool true))).getD p []).set 2 (.int .i64 v)) = Lc.set p [.int .u32 ((t + 1 : Nat) : Int), .bool true, .int .i64 v] := by
    have g : ∀ (l : List (List Value)) (x : List Value), p < l.length → (l.set p x).getD p [] = x := fun l x h => by
      rw [List.getD_eq_getElem?_getD, List.getElem?_set, if_pos rfl, if_pos h]; rfl
    rw [List.set_set, g _ _ hp, hx, List.set_set]
    rw [g _ _ (by simpa using hp)]
    rfl
  rw [hset] at hm3
  simp only [show Ki.k = 3 from rfl, Hdj.out, Ho.out, Nat.add_zero] at hm3 hk3
  have hz2 := hK.size
  have HK := Lib.hid hK
  have HM3 := Lib.hid hm3
  have HK3 := Lib.hid hk3
  have Hbox := Lib.hid hbox
  have Hspot := Lib.hid hspot
  have hf0 := hf o
  have hf1 := hf (o + 1)
  have hf2 := hf (o + 2)
  have hb0 := cell_of_head hbox 0
  have hb1 := cell_of_head hbox 1
  have hbf0 := frozen_of_head hbox 0
  have hbf1 := frozen_of_head hbox 1
  have hbz : w.heap.size < w2.heap.size := (Array.getElem?_eq_some_iff.1 hbox).1
  have hwr : IntKind.u32.wrap ((t : Int) + 1) = ((t + 1 : Nat) : Int) := by rw [IntKind.wrap_u32]; omega
  clear hK hm1 hm2 hm3 hk3 hbox hspot hf hset hM hx hp1 hp2
  simp only [List.getElem?_toArray, List.getElem?_cons_zero, List.getElem?_cons_succ, Nat.add_zero] at hc0 hc1 hc2 hb0 hb1
  go_wp2_with (go_at_call 37; refine Hspot.out.mono ?_; rintro e w' ⟨rfl, q2, rfl⟩)
  have hb3 : ((((w2.drewN q2).setCell ⟨dj, o, none⟩ (.int .u32 ((t : Int) + 1))).setCell ⟨dj, o + 1, none⟩ (.bool true)).setCell ⟨dj, o + 2, none⟩ (.int .i64 v)).heap[w.heap.size]? = some (.cells #[.int .i32 0, .int .u32 0] 35 (0, 0)) :=
    (heap_setCell_other _ _ _ _ hne').trans ((heap_setCell_other _ _ _ _ hne').trans ((heap_setCell_other _ _ _ _ hne').trans Hbox.out))
  have hb4 := head_set (head_set hb3 0 (.int .i32 (p : Int))) 1 (.int .u32 ((t : Int) + 1))
  refine bodyPost_ret (results_handle rfl _ _ _ _ _ _ _ rfl hb4) rfl ?_
  have hMd := HM3.out.drewN q2
  have hMb := (hMd.setBox (B := w.heap.size) hb3 (by decide) 0 (.int .i32 (p : Int))).setBox (head_set hb3 0 _) (by decide) 1 (.int .u32 ((t : Int) + 1))
  have hKd : Keep Ki lo w ((((w2.drewN q2).setCell ⟨dj, o, none⟩ (.int .u32 ((t : Int) + 1))).setCell ⟨dj, o + 1, none⟩ (.bool true)).setCell ⟨dj, o + 2, none⟩ (.int .i64 v)) :=
    ((Keep.of_new (grown_trans (World.grownBy_alloc w _ none) (grown_drewN _ q none))).trans HK.out).trans (HK3.out.trans (Keep.of_new (grown_drewN _ q2 none)))
  exact ⟨rfl, d, cp, vC, vF, hMb, (hKd.setNew (Nat.le_refl _) 0 _).setNew (Nat.le_refl _) 1 _⟩
end Go.Proofs.Ytoopfoapkbjdkaa
