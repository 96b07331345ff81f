/-
  The law's step, the Free of what stands at a place.
-/
import Derived.Test.YtoopfoapkbjdkaaStep
namespace Go.Proofs.Ytoopfoapkbjdkaa
open Go.ChangeShapes Go.WideShapes Go.ChangeAt Go.RowKit
set_option linter.unusedVariables false
set_option maxRecDepth 100000

section
variable {w w' : World} {lo b : Nat} {S : SI} {vL vF : Value}
set_option maxHeartbeats 1000000 in
theorem step_at_no (hc : IsSlab w lo b S) (h : RefAt w 0 S vL vF) (p0 t0 v : Int) (hp0 : -2147483648 ≤ p0 ∧ p0 < 2147483648) (p t : Int) (hp : -2147483648 ≤ p ∧ p < 2147483648) (ht : 0 ≤ t ∧ t < 4294967296) (hat : hdlOf p0 (S.node p0) = hdl p t) (hnm : S.names p t = none) :
    Calls Try.prog 10 #[.pointer (some ⟨b, 0, none⟩), refVal S vL vF, actV 4 p0 t0 v] w (StepPost w lo b S) := by
  have hfa := hc.facts
  have h6 : S.L.length ≤ 65536 := by omega
  have hgd := hc.good
  have hf6 : S.fr.length ≤ 65536 := by have := hgd.fr_le; omega
  obtain ⟨AF, capF, rfl⟩ := owns_slice h.rowF
  obtain ⟨AL, capL, rfl⟩ := h.slice
  have c29 := fun w' (hg : w.grownBy w' none) => rstands_at (h.kept hg) h6 p t
  rw [hnm] at c29
  simp only [Option.isSome_none] at c29
  unfold refVal at c29
  have HRV : Hid (refVal S (.slice AL S.L.length capL) (.slice AF S.fr.length capF) = .agg #[.int .i64 (S.most : Int), .int .i64 (S.c : Int), .slice AL S.L.length capL, .slice AF S.fr.length capF]) := Lib.hid rfl
  rw [HRV.out]
  unfold actV
  have HC := Lib.hid hc
  have HR := Lib.hid h
  obtain ⟨len, Hlen⟩ : ∃ len, Hid (S.L.length = len) := ⟨_, Lib.hid rfl⟩
  obtain ⟨lF, HlF⟩ : ∃ lF, Hid (S.fr.length = lF) := ⟨_, Lib.hid rfl⟩
  have C29 := Lib.hid c29
  clear c29
  simp only [Hlen.out, HlF.out] at C29 HRV ⊢
  obtain ⟨hg0, hz0, b0, b1, b2, b3⟩ := alloc4 w (.cells #[.int .i64 (S.most : Int), .int .i64 (S.c : Int), .slice AL len capL, .slice AF lF capF] 32) (.cells #[.int .i64 4, .int .i32 p0, .int .u32 t0, .int .i64 v] 37) (.cells #[.int .i64 0, .int .i64 0, .slice none 0 0, .slice none 0 0] 32) (.cells #[.int .i32 p0, .int .u32 t0] 35)
  have HB0 := Lib.hid b0
  have HB1 := Lib.hid b1
  have HB2 := Lib.hid b2
  have HB3 := Lib.hid b3
  have HG0 := Lib.hid hg0
  obtain ⟨c00, c01, c02, c03, l0⟩ := cells4 b0
  obtain ⟨c10, c11, c12, c13, l1⟩ := cells4 b1
  obtain ⟨c30, c31, l3⟩ := (⟨cell_of_head b3 0, cell_of_head b3 1, (Array.getElem?_eq_some_iff.1 b3).1⟩ : _ ∧ _ ∧ _)
  simp only [List.getElem?_toArray, List.getElem?_cons_zero, List.getElem?_cons_succ] at c30 c31
  have hwp : IntKind.i64.wrap p = p := by rw [IntKind.wrap_i64]; omega
  have hwt : IntKind.i64.wrap t = t := by rw [IntKind.wrap_i64]; omega
  have c16 := at_is (HC.out.kept HG0.out) hp0
  rw [hat] at c16
  unfold hdl at c16
  have C16 := Lib.hid c16
  clear c16
  clear hg0 hz0 b0 b1 b2 b3 hc h hfa
  go_enter Try.func10, Try.ntmps10
  go_wp2_with fail
  generalize (((w.alloc (.cells #[.int .i64 (S.most : Int), .int .i64 (S.c : Int), .slice AL len capL, .slice AF lF capF] 32)).alloc (.cells #[.int .i64 4, .int .i32 p0, .int .u32 t0, .int .i64 v] 37)).alloc (.cells #[.int .i64 0, .int .i64 0, .slice none 0 0, .slice none 0 0] 32)).alloc (.cells #[.int .i32 p0, .int .u32 t0] 35) = w4 at *
  refine C16.out.mono ?_
  rintro e w4a ⟨rfl, hg4a⟩
  have HB0x := Lib.hid (kept2 HB0.out hg4a)
  have HB1x := Lib.hid (kept2 HB1.out hg4a)
  have HB2x := Lib.hid (kept2 HB2.out hg4a)
  have HB3x := Lib.hid (kept2 HB3.out hg4a)
  have HGx := Lib.hid (grown_trans HG0.out hg4a)
  clear c00 c01 c02 c03 l0 c10 c11 c12 c13 l1 c30 c31 l3 hg4a HB0 HB1 HB2 HB3 HG0 C16
  obtain ⟨c00, c01, c02, c03, l0⟩ := cells4 HB0x.out
  obtain ⟨c10, c11, c12, c13, l1⟩ := cells4 HB1x.out
  obtain ⟨c30, c31, l3⟩ := (⟨cell_of_head HB3x.out 0, cell_of_head HB3x.out 1, (Array.getElem?_eq_some_iff.1 HB3x.out).1⟩ : _ ∧ _ ∧ _)
  have f30 := frozen_of_head HB3x.out 0
  have f31 := frozen_of_head HB3x.out 1
  simp only [List.getElem?_toArray, List.getElem?_cons_zero, List.getElem?_cons_succ] at c30 c31
  have HB3 : Hid (((w4a.setCell ⟨w.heap.size + 1 + 1 + 1, 0, none⟩ (.int .i32 p)).setCell ⟨w.heap.size + 1 + 1 + 1, 1, none⟩ (.int .u32 t)).heap[w.heap.size + 3]? = some (.cells #[.int .i32 p, .int .u32 t] 35 (0, 0))) := Lib.hid (head_set (head_set HB3x.out 0 _) 1 _)
  have HB0 : Hid (((w4a.setCell ⟨w.heap.size + 1 + 1 + 1, 0, none⟩ (.int .i32 p)).setCell ⟨w.heap.size + 1 + 1 + 1, 1, none⟩ (.int .u32 t)).heap[w.heap.size]? = _) := Lib.hid ((heap_setCell_other _ _ _ _ (by simp only; omega)).trans ((heap_setCell_other _ _ _ _ (by simp only; omega)).trans HB0x.out))
  have HB1 : Hid (((w4a.setCell ⟨w.heap.size + 1 + 1 + 1, 0, none⟩ (.int .i32 p)).setCell ⟨w.heap.size + 1 + 1 + 1, 1, none⟩ (.int .u32 t)).heap[w.heap.size + 1]? = _) := Lib.hid ((heap_setCell_other _ _ _ _ (by simp only; omega)).trans ((heap_setCell_other _ _ _ _ (by simp only; omega)).trans HB1x.out))
  have HB2 : Hid (((w4a.setCell ⟨w.heap.size + 1 + 1 + 1, 0, none⟩ (.int .i32 p)).setCell ⟨w.heap.size + 1 + 1 + 1, 1, none⟩ (.int .u32 t)).heap[w.heap.size + 2]? = _) := Lib.hid ((heap_setCell_other _ _ _ _ (by simp only; omega)).trans ((heap_setCell_other _ _ _ _ (by simp only; omega)).trans HB2x.out))
  have HG0 : Hid (w.grownBy ((w4a.setCell ⟨w.heap.size + 1 + 1 + 1, 0, none⟩ (.int .i32 p)).setCell ⟨w.heap.size + 1 + 1 + 1, 1, none⟩ (.int .u32 t)) none) := Lib.hid (grown_new (grown_new HGx.out (grown_setCell _ _ _ _) (by omega)) (grown_setCell _ _ _ _) (by omega))
  clear HB0x HB1x HB2x HB3x HGx
  go_wp2_with fail
  clear f30 f31
  generalize (w4a.setCell ⟨w.heap.size + 1 + 1 + 1, 0, none⟩ (.int .i32 p)).setCell ⟨w.heap.size + 1 + 1 + 1, 1, none⟩ (.int .u32 t) = w4b at *
  refine (C29.out w4b HG0.out).mono ?_
  rintro e w5 ⟨rfl, hg5⟩
  have HB0a := Lib.hid (kept2 HB0.out hg5)
  have HB1a := Lib.hid (kept2 HB1.out hg5)
  have HB2a := Lib.hid (kept2 HB2.out hg5)
  have HB3a := Lib.hid (kept2 HB3.out hg5)
  have HG5 := Lib.hid (grown_trans HG0.out hg5)
  clear c00 c01 c02 c03 l0 c10 c11 c12 c13 l1 c30 c31 l3 hg5 HB0 HB1 HB2 HB3 HG0 C29
  obtain ⟨c00, c01, c02, c03, l0⟩ := cells4 HB0a.out
  obtain ⟨c10, c11, c12, c13, l1⟩ := cells4 HB1a.out
  obtain ⟨c30, c31, l3⟩ := (⟨cell_of_head HB3a.out 0, cell_of_head HB3a.out 1, (Array.getElem?_eq_some_iff.1 HB3a.out).1⟩ : _ ∧ _ ∧ _)
  simp only [List.getElem?_toArray, List.getElem?_cons_zero, List.getElem?_cons_succ] at c30 c31
  have c14 := free_is (HC.out.kept HG5.out) hp ht.1
  rw [hnm] at c14
  simp only [Option.isSome_none, Bool.false_eq_true, if_false] at c14
  unfold hdl at c14
  have C14 := Lib.hid c14
  clear c14
  go_wp2_with fail
  refine C14.out.mono ?_
  rintro e w6 ⟨rfl, hc6, hk6⟩
  have HB06 := Lib.hid (hk6.other HB0a.out (by decide))
  have HB16 := Lib.hid (hk6.other HB1a.out (by decide))
  have HB26 := Lib.hid (hk6.other HB2a.out (by decide))
  have HB36 := Lib.hid (hk6.other HB3a.out (by decide))
  have HK6 := Lib.hid ((Keep.of_new HG5.out).trans hk6)
  have HC6 := Lib.hid hc6
  have HR6 : Hid (RefAt w6 0 S (.slice AL len capL) (.slice AF lF capF)) := Lib.hid (by have := (HR.out.kept HG5.out).keep hk6; rw [Hlen.out, HlF.out] at this; exact this)
  clear c00 c01 c02 c03 l0 c10 c11 c12 c13 l1 c30 c31 l3 hk6 hc6 HB0a HB1a HB2a HB3a HG5
  obtain ⟨c00, c01, c02, c03, l0⟩ := cells4 HB06.out
  obtain ⟨c10, c11, c12, c13, l1⟩ := cells4 HB16.out
  obtain ⟨c20, c21, c22, c23, l2⟩ := cells4 HB26.out
  obtain ⟨f20, f21, f22, f23⟩ := free4 HB26.out
  obtain ⟨c30, c31, l3⟩ := (⟨cell_of_head HB36.out 0, cell_of_head HB36.out 1, (Array.getElem?_eq_some_iff.1 HB36.out).1⟩ : _ ∧ _ ∧ _)
  simp only [List.getElem?_toArray, List.getElem?_cons_zero, List.getElem?_cons_succ] at c30 c31
  go_wp2
  have hf := fin_step (x := .int .i64 (S.most : Int)) (y := .int .i64 (S.c : Int)) (z := .slice AL len capL) (u := .slice AF lF capF) (w0 := w) HK6.out (by omega) HB26.out HR6.out HC6.out
  refine bodyPost_ret (results_ref4_1 rfl _ _ _ _ _ _ _ _ _ rfl hf.1) rfl ?_
  exact ⟨S, _, _, by rw [HRV.out]; rfl, hf.2.2.1, hf.2.1, hf.2.2.2, .inl rfl⟩
set_option maxHeartbeats 1000000 in
theorem step_at_yes (hc : IsSlab w lo b S) (h : RefAt w 0 S vL vF) (p0 t0 v : Int) (hp0 : -2147483648 ≤ p0 ∧ p0 < 2147483648) (p t : Int) (hp : -2147483648 ≤ p ∧ p < 2147483648) (ht : 0 ≤ t ∧ t < 4294967296) (hat : hdlOf p0 (S.node p0) = hdl p t) {s : Spot Int} (hnm : S.names p t = some s) :
    Calls Try.prog 10 #[.pointer (some ⟨b, 0, none⟩), refVal S vL vF, actV 4 p0 t0 v] w (StepPost w lo b S) := by
  have hfa := hc.facts
  have h6 : S.L.length ≤ 65536 := by omega
  have hgd := hc.good
  have hf6 : S.fr.length ≤ 65536 := by have := hgd.fr_le; omega
  obtain ⟨AF, capF, rfl⟩ := owns_slice h.rowF
  obtain ⟨AL, capL, rfl⟩ := h.slice
  have c29 := fun w' (hg : w.grownBy w' none) => rstands_at (h.kept hg) h6 p t
  rw [hnm] at c29
  simp only [Option.isSome_some] at c29
  unfold refVal at c29
  have HRV : Hid (refVal S (.slice AL S.L.length capL) (.slice AF S.fr.length capF) = .agg #[.int .i64 (S.most : Int), .int .i64 (S.c : Int), .slice AL S.L.length capL, .slice AF S.fr.length capF]) := Lib.hid rfl
  rw [HRV.out]
  unfold actV
  have HC := Lib.hid hc
  have HR := Lib.hid h
  obtain ⟨len, Hlen⟩ : ∃ len, Hid (S.L.length = len) := ⟨_, Lib.hid rfl⟩
  obtain ⟨lF, HlF⟩ : ∃ lF, Hid (S.fr.length = lF) := ⟨_, Lib.hid rfl⟩
  have C29 := Lib.hid c29
  clear c29
  simp only [Hlen.out, HlF.out] at C29 HRV ⊢
  obtain ⟨hg0, hz0, b0, b1, b2, b3⟩ := alloc4 w (.cells #[.int .i64 (S.most : Int), .int .i64 (S.c : Int), .slice AL len capL, .slice AF lF capF] 32) (.cells #[.int .i64 4, .int .i32 p0, .int .u32 t0, .int .i64 v] 37) (.cells #[.int .i64 0, .int .i64 0, .slice none 0 0, .slice none 0 0] 32) (.cells #[.int .i32 p0, .int .u32 t0] 35)
  have HB0 := Lib.hid b0
  have HB1 := Lib.hid b1
  have HB2 := Lib.hid b2
  have HB3 := Lib.hid b3
  have HG0 := Lib.hid hg0
  obtain ⟨c00, c01, c02, c03, l0⟩ := cells4 b0
  obtain ⟨c10, c11, c12, c13, l1⟩ := cells4 b1
  obtain ⟨c30, c31, l3⟩ := (⟨cell_of_head b3 0, cell_of_head b3 1, (Array.getElem?_eq_some_iff.1 b3).1⟩ : _ ∧ _ ∧ _)
  simp only [List.getElem?_toArray, List.getElem?_cons_zero, List.getElem?_cons_succ] at c30 c31
  have hwp : IntKind.i64.wrap p = p := by rw [IntKind.wrap_i64]; omega
  have hwt : IntKind.i64.wrap t = t := by rw [IntKind.wrap_i64]; omega
  have c16 := at_is (HC.out.kept HG0.out) hp0
  rw [hat] at c16
  unfold hdl at c16
  have C16 := Lib.hid c16
  clear c16
  clear hg0 hz0 b0 b1 b2 b3 hc h hfa
  go_enter Try.func10, Try.ntmps10
  go_wp2_with fail
  generalize (((w.alloc (.cells #[.int .i64 (S.most : Int), .int .i64 (S.c : Int), .slice AL len capL, .slice AF lF capF] 32)).alloc (.cells #[.int .i64 4, .int .i32 p0, .int .u32 t0, .int .i64 v] 37)).alloc (.cells #[.int .i64 0, .int .i64 0, .slice none 0 0, .slice none 0 0] 32)).alloc (.cells #[.int .i32 p0, .int .u32 t0] 35) = w4 at *
  refine C16.out.mono ?_
  rintro e w4a ⟨rfl, hg4a⟩
  have HB0x := Lib.hid (kept2 HB0.out hg4a)
  have HB1x := Lib.hid (kept2 HB1.out hg4a)
  have HB2x := Lib.hid (kept2 HB2.out hg4a)
  have HB3x := Lib.hid (kept2 HB3.out hg4a)
  have HGx := Lib.hid (grown_trans HG0.out hg4a)
  clear c00 c01 c02 c03 l0 c10 c11 c12 c13 l1 c30 c31 l3 hg4a HB0 HB1 HB2 HB3 HG0 C16
  obtain ⟨c00, c01, c02, c03, l0⟩ := cells4 HB0x.out
  obtain ⟨c10, c11, c12, c13, l1⟩ := cells4 HB1x.out
  obtain ⟨c30, c31, l3⟩ := (⟨cell_of_head HB3x.out 0, cell_of_head HB3x.out 1, (Array.getElem?_eq_some_iff.1 HB3x.out).1⟩ : _ ∧ _ ∧ _)
  have f30 := frozen_of_head HB3x.out 0
  have f31 := frozen_of_head HB3x.out 1
  simp only [List.getElem?_toArray, List.getElem?_cons_zero, List.getElem?_cons_succ] at c30 c31
  have HB3 : Hid (((w4a.setCell ⟨w.heap.size + 1 + 1 + 1, 0, none⟩ (.int .i32 p)).setCell ⟨w.heap.size + 1 + 1 + 1, 1, none⟩ (.int .u32 t)).heap[w.heap.size + 3]? = some (.cells #[.int .i32 p, .int .u32 t] 35 (0, 0))) := Lib.hid (head_set (head_set HB3x.out 0 _) 1 _)
  have HB0 : Hid (((w4a.setCell ⟨w.heap.size + 1 + 1 + 1, 0, none⟩ (.int .i32 p)).setCell ⟨w.heap.size + 1 + 1 + 1, 1, none⟩ (.int .u32 t)).heap[w.heap.size]? = _) := Lib.hid ((heap_setCell_other _ _ _ _ (by simp only; omega)).trans ((heap_setCell_other _ _ _ _ (by simp only; omega)).trans HB0x.out))
  have HB1 : Hid (((w4a.setCell ⟨w.heap.size + 1 + 1 + 1, 0, none⟩ (.int .i32 p)).setCell ⟨w.heap.size + 1 + 1 + 1, 1, none⟩ (.int .u32 t)).heap[w.heap.size + 1]? = _) := Lib.hid ((heap_setCell_other _ _ _ _ (by simp only; omega)).trans ((heap_setCell_other _ _ _ _ (by simp only; omega)).trans HB1x.out))
  have HB2 : Hid (((w4a.setCell ⟨w.heap.size + 1 + 1 + 1, 0, none⟩ (.int .i32 p)).setCell ⟨w.heap.size + 1 + 1 + 1, 1, none⟩ (.int .u32 t)).heap[w.heap.size + 2]? = _) := Lib.hid ((heap_setCell_other _ _ _ _ (by simp only; omega)).trans ((heap_setCell_other _ _ _ _ (by simp only; omega)).trans HB2x.out))
  have HG0 : Hid (w.grownBy ((w4a.setCell ⟨w.heap.size + 1 + 1 + 1, 0, none⟩ (.int .i32 p)).setCell ⟨w.heap.size + 1 + 1 + 1, 1, none⟩ (.int .u32 t)) none) := Lib.hid (grown_new (grown_new HGx.out (grown_setCell _ _ _ _) (by omega)) (grown_setCell _ _ _ _) (by omega))
  clear HB0x HB1x HB2x HB3x HGx
  go_wp2_with fail
  clear f30 f31
  generalize (w4a.setCell ⟨w.heap.size + 1 + 1 + 1, 0, none⟩ (.int .i32 p)).setCell ⟨w.heap.size + 1 + 1 + 1, 1, none⟩ (.int .u32 t) = w4b at *
  refine (C29.out w4b HG0.out).mono ?_
  rintro e w5 ⟨rfl, hg5⟩
  have HB0a := Lib.hid (kept2 HB0.out hg5)
  have HB1a := Lib.hid (kept2 HB1.out hg5)
  have HB2a := Lib.hid (kept2 HB2.out hg5)
  have HB3a := Lib.hid (kept2 HB3.out hg5)
  have HG5 := Lib.hid (grown_trans HG0.out hg5)
  clear c00 c01 c02 c03 l0 c10 c11 c12 c13 l1 c30 c31 l3 hg5 HB0 HB1 HB2 HB3 HG0 C29
  obtain ⟨c00, c01, c02, c03, l0⟩ := cells4 HB0a.out
  obtain ⟨c10, c11, c12, c13, l1⟩ := cells4 HB1a.out
  obtain ⟨c30, c31, l3⟩ := (⟨cell_of_head HB3a.out 0, cell_of_head HB3a.out 1, (Array.getElem?_eq_some_iff.1 HB3a.out).1⟩ : _ ∧ _ ∧ _)
  simp only [List.getElem?_toArray, List.getElem?_cons_zero, List.getElem?_cons_succ] at c30 c31
  have c14 := free_is (HC.out.kept HG5.out) hp ht.1
  rw [hnm] at c14
  simp only [Option.isSome_some, if_true] at c14
  unfold hdl at c14
  have C14 := Lib.hid c14
  clear c14
  go_wp2_with fail
  refine C14.out.mono ?_
  rintro e w6 ⟨rfl, hc6, hk6⟩
  have HB06 := Lib.hid (hk6.other HB0a.out (by decide))
  have HB16 := Lib.hid (hk6.other HB1a.out (by decide))
  have HB26 := Lib.hid (hk6.other HB2a.out (by decide))
  have HB36 := Lib.hid (hk6.other HB3a.out (by decide))
  have HK6 := Lib.hid ((Keep.of_new HG5.out).trans hk6)
  have HC6 := Lib.hid hc6
  have HR6 : Hid (RefAt w6 0 S (.slice AL len capL) (.slice AF lF capF)) := Lib.hid (by have := (HR.out.kept HG5.out).keep hk6; rw [Hlen.out, HlF.out] at this; exact this)
  clear c00 c01 c02 c03 l0 c10 c11 c12 c13 l1 c30 c31 l3 hk6 hc6 HB0a HB1a HB2a HB3a HG5
  obtain ⟨c00, c01, c02, c03, l0⟩ := cells4 HB06.out
  obtain ⟨c10, c11, c12, c13, l1⟩ := cells4 HB16.out
  obtain ⟨c20, c21, c22, c23, l2⟩ := cells4 HB26.out
  obtain ⟨f20, f21, f22, f23⟩ := free4 HB26.out
  obtain ⟨c30, c31, l3⟩ := (⟨cell_of_head HB36.out 0, cell_of_head HB36.out 1, (Array.getElem?_eq_some_iff.1 HB36.out).1⟩ : _ ∧ _ ∧ _)
  simp only [List.getElem?_toArray, List.getElem?_cons_zero, List.getElem?_cons_succ] at c30 c31
  obtain ⟨hn1, _⟩ := names_some.1 hnm
  obtain ⟨hq0, hs, _⟩ := node_some.1 hn1
  obtain ⟨x, rfl⟩ := Int.eq_ofNat_of_zero_le hq0
  rw [Int.toNat_natCast] at hs HC6
  have CREF := Lib.hid (rfree_at (by rw [← Hlen.out, ← HlF.out] at HR6; exact HR6.out) h6 hf6 hs)
  unfold refVal at CREF
  simp only [Hlen.out, HlF.out] at CREF
  clear hn1 hs
  go_wp2_with fail
  refine CREF.out.mono ?_
  rintro e w7 ⟨vL', vF', rfl, hr7, hg7⟩
  have HB07 := Lib.hid (kept2 HB06.out hg7)
  have HB27 := Lib.hid (kept2 HB26.out hg7)
  have HK7 := Lib.hid (HK6.out.trans (Keep.of_new hg7))
  have HC7 := Lib.hid (HC6.out.kept hg7)
  obtain ⟨AF', capF', hvF⟩ := owns_slice hr7.rowF
  obtain ⟨AL', capL', hvL⟩ := hr7.slice
  have HR7 := Lib.hid hr7
  have HvF := Lib.hid hvF
  have HvL := Lib.hid hvL
  clear c00 c01 c02 c03 l0 c10 c11 c12 c13 l1 c20 c21 c22 c23 l2 f20 f21 f22 f23 c30 c31 l3 hr7 hg7 hvF hvL
  obtain ⟨c20, c21, c22, c23, l2⟩ := cells4 HB27.out
  obtain ⟨f20, f21, f22, f23⟩ := free4 HB27.out
  rw [HvL.out, HvF.out]
  obtain ⟨S', HS'⟩ : ∃ S' : SI, Hid (S.free 0 x = S') := ⟨_, Lib.hid rfl⟩
  rw [HS'.out] at HR7 HC7 HvL HvF ⊢
  go_wp2
  have hf := fin_step (x := .int .i64 (S'.most : Int)) (y := .int .i64 (S'.c : Int)) (z := .slice AL' S'.L.length capL') (u := .slice AF' S'.fr.length capF') (w0 := w) HK7.out (by omega) HB27.out HR7.out HC7.out
  refine bodyPost_ret (results_ref4_1 rfl _ _ _ _ _ _ _ _ _ rfl hf.1) rfl ?_
  exact ⟨S', _, _, by unfold refVal; rw [HvL.out, HvF.out]; rfl, hf.2.2.1, hf.2.1, hf.2.2.2, .inr (.inr (.inl ⟨x, HS'.out.symm⟩))⟩
end
end Go.Proofs.Ytoopfoapkbjdkaa
