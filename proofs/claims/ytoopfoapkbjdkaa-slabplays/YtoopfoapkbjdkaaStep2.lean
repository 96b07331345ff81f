/-
  The law's step, Alloc and the Free of what stands at a place.
-/
import Derived.Test.YtoopfoapkbjdkaaStep
namespace Go.Proofs.Ytoopfoapkbjdkaa
open Go.ChangeShapes Go.WideShapes Go.ChangeAt Go.RowKit
set_option linter.unusedVariables false
set_option maxRecDepth 100000

section
variable {w w' : World} {lo b : Nat} {S : SI} {vL vF : Value}
set_option maxHeartbeats 4000000 in
theorem step_full0 (hc : IsSlab w lo b S) (h : RefAt w 0 S vL vF) (p t v : Int) (hp : -2147483648 ≤ p ∧ p < 2147483648) (ht : 0 ≤ t ∧ t < 4294967296) (hfull : S.most ≤ S.len) :
    Calls Try.prog 10 #[.pointer (some ⟨b, 0, none⟩), refVal S vL vF, actV 0 p t v] w (StepPost w lo b S) := by
  have hfa := hc.facts
  have h6 : S.L.length ≤ 65536 := by omega
  have hgd := hc.good
  have hm6 : S.most ≤ 65536 := by omega
  have hf6 : S.fr.length ≤ 65536 := by have := hgd.fr_le; omega
  obtain ⟨AF, capF, rfl⟩ := owns_slice h.rowF
  obtain ⟨AL, capL, rfl⟩ := h.slice
  have c29 := fun w' (hg : w.grownBy w' none) => rstands_at (h.kept hg) h6 p t
  obtain ⟨bb, Hbb⟩ : ∃ bb, Hid ((S.names p t).isSome = bb) := ⟨_, Lib.hid rfl⟩
  rw [Hbb.out] at c29
  unfold refVal at c29
  have HRV : Hid (refVal S (.slice AL S.L.length capL) (.slice AF S.fr.length capF) = .agg #[.int .i64 (S.most : Int), .int .i64 (S.c : Int), .slice AL S.L.length capL, .slice AF S.fr.length capF]) := Lib.hid rfl
  rw [HRV.out]
  unfold actV
  have HC := Lib.hid hc
  have HR := Lib.hid h
  obtain ⟨len, Hlen⟩ : ∃ len, Hid (S.L.length = len) := ⟨_, Lib.hid rfl⟩
  obtain ⟨lF, HlF⟩ : ∃ lF, Hid (S.fr.length = lF) := ⟨_, Lib.hid rfl⟩
  have C29 := Lib.hid c29
  clear c29
  simp only [Hlen.out, HlF.out] at C29 HRV ⊢
  obtain ⟨hg0, hz0, b0, b1, b2, b3⟩ := alloc4 w (.cells #[.int .i64 (S.most : Int), .int .i64 (S.c : Int), .slice AL len capL, .slice AF lF capF] 32) (.cells #[.int .i64 0, .int .i32 p, .int .u32 t, .int .i64 v] 37) (.cells #[.int .i64 0, .int .i64 0, .slice none 0 0, .slice none 0 0] 32) (.cells #[.int .i32 p, .int .u32 t] 35)
  have HB0 := Lib.hid b0
  have HB1 := Lib.hid b1
  have HB2 := Lib.hid b2
  have HB3 := Lib.hid b3
  have HG0 := Lib.hid hg0
  obtain ⟨c00, c01, c02, c03, l0⟩ := cells4 b0
  obtain ⟨c10, c11, c12, c13, l1⟩ := cells4 b1
  obtain ⟨c30, c31, l3⟩ := (⟨cell_of_head b3 0, cell_of_head b3 1, (Array.getElem?_eq_some_iff.1 b3).1⟩ : _ ∧ _ ∧ _)
  simp only [List.getElem?_toArray, List.getElem?_cons_zero, List.getElem?_cons_succ] at c30 c31
  have hwp : IntKind.i64.wrap p = p := by rw [IntKind.wrap_i64]; omega
  have hwt : IntKind.i64.wrap t = t := by rw [IntKind.wrap_i64]; omega
  clear hg0 hz0 b0 b1 b2 b3 hc h hfa
  go_enter Try.func10, Try.ntmps10
  go_wp2_with fail
  generalize (((w.alloc (.cells #[.int .i64 (S.most : Int), .int .i64 (S.c : Int), .slice AL len capL, .slice AF lF capF] 32)).alloc (.cells #[.int .i64 0, .int .i32 p, .int .u32 t, .int .i64 v] 37)).alloc (.cells #[.int .i64 0, .int .i64 0, .slice none 0 0, .slice none 0 0] 32)).alloc (.cells #[.int .i32 p, .int .u32 t] 35) = w4 at *
  refine (C29.out w4 HG0.out).mono ?_
  rintro e w5 ⟨rfl, hg5⟩
  have HB0a := Lib.hid (kept2 HB0.out hg5)
  have HB1a := Lib.hid (kept2 HB1.out hg5)
  have HB2a := Lib.hid (kept2 HB2.out hg5)
  have HB3a := Lib.hid (kept2 HB3.out hg5)
  have HG5 := Lib.hid (grown_trans HG0.out hg5)
  clear c00 c01 c02 c03 l0 c10 c11 c12 c13 l1 c30 c31 l3 hg5 HB0 HB1 HB2 HB3 HG0 C29
  obtain ⟨c00, c01, c02, c03, l0⟩ := cells4 HB0a.out
  obtain ⟨c10, c11, c12, c13, l1⟩ := cells4 HB1a.out
  obtain ⟨c30, c31, l3⟩ := (⟨cell_of_head HB3a.out 0, cell_of_head HB3a.out 1, (Array.getElem?_eq_some_iff.1 HB3a.out).1⟩ : _ ∧ _ ∧ _)
  simp only [List.getElem?_toArray, List.getElem?_cons_zero, List.getElem?_cons_succ] at c30 c31
  have C13 := Lib.hid (alloc_full_is (HC.out.kept HG5.out) v hfull)
  unfold hdl at C13
  go_wp2_with fail
  refine C13.out.mono ?_
  rintro e w6 ⟨rfl, hg6⟩
  have hga := World.grownBy_alloc w6 (.cells #[.int .i32 0, .int .u32 0] 35) none
  have HB06 := Lib.hid (kept2 HB0a.out (grown_trans hg6 hga))
  have HB16 := Lib.hid (kept2 HB1a.out (grown_trans hg6 hga))
  have HB26 := Lib.hid (kept2 HB2a.out (grown_trans hg6 hga))
  have HB36x := Lib.hid (kept2 HB3a.out hg6)
  have HB46 := Lib.hid (heap_alloc_new w6 (.cells #[.int .i32 0, .int .u32 0] 35))
  have HG6 := Lib.hid (grown_trans HG5.out (grown_trans hg6 hga))
  clear c00 c01 c02 c03 l0 c10 c11 c12 c13 l1 c30 c31 l3 hg6 hga HB0a HB1a HB2a HB3a C13
  obtain ⟨c00, c01, c02, c03, l0⟩ := cells4 HB06.out
  obtain ⟨c10, c11, c12, c13, l1⟩ := cells4 HB16.out
  obtain ⟨B4, HBe⟩ : ∃ B4, Hid (w6.heap.size = B4) := ⟨_, Lib.hid rfl⟩
  rw [HBe.out] at HB46
  have hB4 : w.heap.size + 3 < B4 := by rw [← HBe.out]; have := (Array.getElem?_eq_some_iff.1 HB36x.out).1; omega
  have HR6 := Lib.hid (HR.out.kept HG6.out)
  have CREF := Lib.hid (ralloc_full HR6.out h6 hm6 v hfull)
  unfold refVal at CREF
  simp only [Hlen.out, HlF.out] at CREF
  go_wp2_with fail
  rw [HBe.out]
  generalize w6.alloc (.cells #[.int .i32 0, .int .u32 0] 35) = w7 at *
  refine CREF.out.mono ?_
  rintro e w8 ⟨rfl, hg8⟩
  have hgb := World.grownBy_alloc w8 (.cells #[.int .i64 (S.most : Int), .int .i64 (S.c : Int), .slice AL len capL, .slice AF lF capF] 32) none
  have HB08 := Lib.hid (kept2 HB06.out (grown_trans hg8 hgb))
  have HB28 := Lib.hid (kept2 HB26.out (grown_trans hg8 hgb))
  have HB48 := Lib.hid (kept2 HB46.out (grown_trans hg8 hgb))
  have HG8 := Lib.hid (grown_trans HG6.out (grown_trans hg8 hgb))
  clear c00 c01 c02 c03 l0 c10 c11 c12 c13 l1 hg8 hgb HB06 HB16 HB26 HB46 CREF
  go_wp2_with fail
  generalize w8.alloc (.cells #[.int .i64 (S.most : Int), .int .i64 (S.c : Int), .slice AL len capL, .slice AF lF capF] 32) = w9 at *
  obtain ⟨c00, c01, c02, c03, l0⟩ := cells4 HB08.out
  obtain ⟨c20, c21, c22, c23, l2⟩ := cells4 HB28.out
  obtain ⟨f20, f21, f22, f23⟩ := free4 HB28.out
  obtain ⟨c40, c41, l4⟩ := (⟨cell_of_head HB48.out 0, cell_of_head HB48.out 1, (Array.getElem?_eq_some_iff.1 HB48.out).1⟩ : _ ∧ _ ∧ _)
  simp only [List.getElem?_toArray, List.getElem?_cons_zero, List.getElem?_cons_succ] at c40 c41
  have HR8 : Hid (RefAt w9 0 S (.slice AL len capL) (.slice AF lF capF)) := Lib.hid (by have := HR.out.kept HG8.out; rw [Hlen.out, HlF.out] at this; exact this)
  have hn1 : ¬ B4 = w.heap.size + 1 + 1 := by omega
  have hn2 : ¬ B4 = w.heap.size + 2 := by omega
  have Hf := Lib.hid (fin_step (x := .int .i64 (S.most : Int)) (y := .int .i64 (S.c : Int)) (z := .slice AL len capL) (u := .slice AF lF capF) (w0 := w) (Keep.of_new (lo := lo) HG8.out) (show w.heap.size ≤ w.heap.size + 2 by omega) HB28.out HR8.out (HC.out.kept HG8.out))
  go_region_law (fail)
  all_goals (go_wp2; refine bodyPost_ret (results_ref4_1 rfl _ _ _ _ _ _ _ _ _ rfl Hf.out.1) rfl ?_; exact ⟨S, _, _, by rw [HRV.out]; rfl, Hf.out.2.2.1.kept (grown_drewN _ 1 none), Hf.out.2.1.kept (grown_drewN _ 1 none), Hf.out.2.2.2.trans (Keep.of_new (grown_drewN _ 1 none)), .inl rfl⟩)
set_option maxHeartbeats 4000000 in
theorem step_full1 (hc : IsSlab w lo b S) (h : RefAt w 0 S vL vF) (p t v : Int) (hp : -2147483648 ≤ p ∧ p < 2147483648) (ht : 0 ≤ t ∧ t < 4294967296) (hfull : S.most ≤ S.len) :
    Calls Try.prog 10 #[.pointer (some ⟨b, 0, none⟩), refVal S vL vF, actV 1 p t v] w (StepPost w lo b S) := by
  have hfa := hc.facts
  have h6 : S.L.length ≤ 65536 := by omega
  have hgd := hc.good
  have hm6 : S.most ≤ 65536 := by omega
  have hf6 : S.fr.length ≤ 65536 := by have := hgd.fr_le; omega
  obtain ⟨AF, capF, rfl⟩ := owns_slice h.rowF
  obtain ⟨AL, capL, rfl⟩ := h.slice
  have c29 := fun w' (hg : w.grownBy w' none) => rstands_at (h.kept hg) h6 p t
  obtain ⟨bb, Hbb⟩ : ∃ bb, Hid ((S.names p t).isSome = bb) := ⟨_, Lib.hid rfl⟩
  rw [Hbb.out] at c29
  unfold refVal at c29
  have HRV : Hid (refVal S (.slice AL S.L.length capL) (.slice AF S.fr.length capF) = .agg #[.int .i64 (S.most : Int), .int .i64 (S.c : Int), .slice AL S.L.length capL, .slice AF S.fr.length capF]) := Lib.hid rfl
  rw [HRV.out]
  unfold actV
  have HC := Lib.hid hc
  have HR := Lib.hid h
  obtain ⟨len, Hlen⟩ : ∃ len, Hid (S.L.length = len) := ⟨_, Lib.hid rfl⟩
  obtain ⟨lF, HlF⟩ : ∃ lF, Hid (S.fr.length = lF) := ⟨_, Lib.hid rfl⟩
  have C29 := Lib.hid c29
  clear c29
  simp only [Hlen.out, HlF.out] at C29 HRV ⊢
  obtain ⟨hg0, hz0, b0, b1, b2, b3⟩ := alloc4 w (.cells #[.int .i64 (S.most : Int), .int .i64 (S.c : Int), .slice AL len capL, .slice AF lF capF] 32) (.cells #[.int .i64 1, .int .i32 p, .int .u32 t, .int .i64 v] 37) (.cells #[.int .i64 0, .int .i64 0, .slice none 0 0, .slice none 0 0] 32) (.cells #[.int .i32 p, .int .u32 t] 35)
  have HB0 := Lib.hid b0
  have HB1 := Lib.hid b1
  have HB2 := Lib.hid b2
  have HB3 := Lib.hid b3
  have HG0 := Lib.hid hg0
  obtain ⟨c00, c01, c02, c03, l0⟩ := cells4 b0
  obtain ⟨c10, c11, c12, c13, l1⟩ := cells4 b1
  obtain ⟨c30, c31, l3⟩ := (⟨cell_of_head b3 0, cell_of_head b3 1, (Array.getElem?_eq_some_iff.1 b3).1⟩ : _ ∧ _ ∧ _)
  simp only [List.getElem?_toArray, List.getElem?_cons_zero, List.getElem?_cons_succ] at c30 c31
  have hwp : IntKind.i64.wrap p = p := by rw [IntKind.wrap_i64]; omega
  have hwt : IntKind.i64.wrap t = t := by rw [IntKind.wrap_i64]; omega
  clear hg0 hz0 b0 b1 b2 b3 hc h hfa
  go_enter Try.func10, Try.ntmps10
  go_wp2_with fail
  generalize (((w.alloc (.cells #[.int .i64 (S.most : Int), .int .i64 (S.c : Int), .slice AL len capL, .slice AF lF capF] 32)).alloc (.cells #[.int .i64 1, .int .i32 p, .int .u32 t, .int .i64 v] 37)).alloc (.cells #[.int .i64 0, .int .i64 0, .slice none 0 0, .slice none 0 0] 32)).alloc (.cells #[.int .i32 p, .int .u32 t] 35) = w4 at *
  refine (C29.out w4 HG0.out).mono ?_
  rintro e w5 ⟨rfl, hg5⟩
  have HB0a := Lib.hid (kept2 HB0.out hg5)
  have HB1a := Lib.hid (kept2 HB1.out hg5)
  have HB2a := Lib.hid (kept2 HB2.out hg5)
  have HB3a := Lib.hid (kept2 HB3.out hg5)
  have HG5 := Lib.hid (grown_trans HG0.out hg5)
  clear c00 c01 c02 c03 l0 c10 c11 c12 c13 l1 c30 c31 l3 hg5 HB0 HB1 HB2 HB3 HG0 C29
  obtain ⟨c00, c01, c02, c03, l0⟩ := cells4 HB0a.out
  obtain ⟨c10, c11, c12, c13, l1⟩ := cells4 HB1a.out
  obtain ⟨c30, c31, l3⟩ := (⟨cell_of_head HB3a.out 0, cell_of_head HB3a.out 1, (Array.getElem?_eq_some_iff.1 HB3a.out).1⟩ : _ ∧ _ ∧ _)
  simp only [List.getElem?_toArray, List.getElem?_cons_zero, List.getElem?_cons_succ] at c30 c31
  have C13 := Lib.hid (alloc_full_is (HC.out.kept HG5.out) v hfull)
  unfold hdl at C13
  go_wp2_with fail
  refine C13.out.mono ?_
  rintro e w6 ⟨rfl, hg6⟩
  have hga := World.grownBy_alloc w6 (.cells #[.int .i32 0, .int .u32 0] 35) none
  have HB06 := Lib.hid (kept2 HB0a.out (grown_trans hg6 hga))
  have HB16 := Lib.hid (kept2 HB1a.out (grown_trans hg6 hga))
  have HB26 := Lib.hid (kept2 HB2a.out (grown_trans hg6 hga))
  have HB36x := Lib.hid (kept2 HB3a.out hg6)
  have HB46 := Lib.hid (heap_alloc_new w6 (.cells #[.int .i32 0, .int .u32 0] 35))
  have HG6 := Lib.hid (grown_trans HG5.out (grown_trans hg6 hga))
  clear c00 c01 c02 c03 l0 c10 c11 c12 c13 l1 c30 c31 l3 hg6 hga HB0a HB1a HB2a HB3a C13
  obtain ⟨c00, c01, c02, c03, l0⟩ := cells4 HB06.out
  obtain ⟨c10, c11, c12, c13, l1⟩ := cells4 HB16.out
  obtain ⟨B4, HBe⟩ : ∃ B4, Hid (w6.heap.size = B4) := ⟨_, Lib.hid rfl⟩
  rw [HBe.out] at HB46
  have hB4 : w.heap.size + 3 < B4 := by rw [← HBe.out]; have := (Array.getElem?_eq_some_iff.1 HB36x.out).1; omega
  have HR6 := Lib.hid (HR.out.kept HG6.out)
  have CREF := Lib.hid (ralloc_full HR6.out h6 hm6 v hfull)
  unfold refVal at CREF
  simp only [Hlen.out, HlF.out] at CREF
  go_wp2_with fail
  rw [HBe.out]
  generalize w6.alloc (.cells #[.int .i32 0, .int .u32 0] 35) = w7 at *
  refine CREF.out.mono ?_
  rintro e w8 ⟨rfl, hg8⟩
  have hgb := World.grownBy_alloc w8 (.cells #[.int .i64 (S.most : Int), .int .i64 (S.c : Int), .slice AL len capL, .slice AF lF capF] 32) none
  have HB08 := Lib.hid (kept2 HB06.out (grown_trans hg8 hgb))
  have HB28 := Lib.hid (kept2 HB26.out (grown_trans hg8 hgb))
  have HB48 := Lib.hid (kept2 HB46.out (grown_trans hg8 hgb))
  have HG8 := Lib.hid (grown_trans HG6.out (grown_trans hg8 hgb))
  clear c00 c01 c02 c03 l0 c10 c11 c12 c13 l1 hg8 hgb HB06 HB16 HB26 HB46 CREF
  go_wp2_with fail
  generalize w8.alloc (.cells #[.int .i64 (S.most : Int), .int .i64 (S.c : Int), .slice AL len capL, .slice AF lF capF] 32) = w9 at *
  obtain ⟨c00, c01, c02, c03, l0⟩ := cells4 HB08.out
  obtain ⟨c20, c21, c22, c23, l2⟩ := cells4 HB28.out
  obtain ⟨f20, f21, f22, f23⟩ := free4 HB28.out
  obtain ⟨c40, c41, l4⟩ := (⟨cell_of_head HB48.out 0, cell_of_head HB48.out 1, (Array.getElem?_eq_some_iff.1 HB48.out).1⟩ : _ ∧ _ ∧ _)
  simp only [List.getElem?_toArray, List.getElem?_cons_zero, List.getElem?_cons_succ] at c40 c41
  have HR8 : Hid (RefAt w9 0 S (.slice AL len capL) (.slice AF lF capF)) := Lib.hid (by have := HR.out.kept HG8.out; rw [Hlen.out, HlF.out] at this; exact this)
  have hn1 : ¬ B4 = w.heap.size + 1 + 1 := by omega
  have hn2 : ¬ B4 = w.heap.size + 2 := by omega
  have Hf := Lib.hid (fin_step (x := .int .i64 (S.most : Int)) (y := .int .i64 (S.c : Int)) (z := .slice AL len capL) (u := .slice AF lF capF) (w0 := w) (Keep.of_new (lo := lo) HG8.out) (show w.heap.size ≤ w.heap.size + 2 by omega) HB28.out HR8.out (HC.out.kept HG8.out))
  go_region_law (fail)
  all_goals (go_wp2; refine bodyPost_ret (results_ref4_1 rfl _ _ _ _ _ _ _ _ _ rfl Hf.out.1) rfl ?_; exact ⟨S, _, _, by rw [HRV.out]; rfl, Hf.out.2.2.1.kept (grown_drewN _ 1 none), Hf.out.2.1.kept (grown_drewN _ 1 none), Hf.out.2.2.2.trans (Keep.of_new (grown_drewN _ 1 none)), .inl rfl⟩)
end
end Go.Proofs.Ytoopfoapkbjdkaa
