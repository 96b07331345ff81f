/-
  The law's step, Alloc.
-/
import Derived.Test.YtoopfoapkbjdkaaStep
namespace Go.Proofs.Ytoopfoapkbjdkaa
open Go.ChangeShapes Go.WideShapes Go.ChangeAt Go.RowKit
set_option linter.unusedVariables false
set_option maxRecDepth 100000

section
variable {w w' : World} {lo b : Nat} {S : SI} {vL vF : Value}
theorem ralloc_at (hg : Good S) (h : RefAt w 0 S vL vF) (h6 : S.L.length ≤ 65536) (hm6 : S.most ≤ 65536) (hf6 : S.fr.length ≤ 65536) (v : Int) (hroom : S.len < S.most) (hturn : S.turn S.place + 1 < 4294967296) :
    Calls Try.prog 30 #[refVal S vL vF, .int .i64 v] w (AllocPost w S v) := by
  cases hf : S.fr.getLast? with
  | none => exact ralloc_new h h6 hm6 v hroom (List.getLast?_eq_none_iff.1 hf)
  | some p =>
    obtain ⟨s, hs, _⟩ := hg.place_lt hf
    obtain ⟨fr', hfr⟩ : ∃ fr', S.fr = fr' ++ [p] := List.getLast?_eq_some_iff.1 hf
    have e2 : S.place = p := by unfold Slb.place; rw [hf]; rfl
    have e3 : S.turn p = s.turn := by unfold Slb.turn; rw [hs]
    rw [e2, e3] at hturn
    exact ralloc_freed h h6 hm6 v hroom hfr hf6 hs (by omega)
theorem place_le2 (hg : Good S) : S.place ≤ S.L.length := by
  unfold Slb.place
  cases hf : S.fr.getLast? with
  | none => exact Nat.le_refl _
  | some p =>
    obtain ⟨s, hs, _⟩ := hg.place_lt hf
    exact Nat.le_of_lt (List.getElem?_eq_some_iff.1 hs).1
set_option maxHeartbeats 2000000 in
theorem step_alloc0 (hc : IsSlab w lo b S) (h : RefAt w 0 S vL vF) (p t v : Int) (hp : -2147483648 ≤ p ∧ p < 2147483648) (ht : 0 ≤ t ∧ t < 4294967296) (hroom : S.len < S.most) (hturn : S.turn S.place + 1 < 4294967296) :
    Calls Try.prog 10 #[.pointer (some ⟨b, 0, none⟩), refVal S vL vF, actV 0 p t v] w (StepPost w lo b S) := by
  have hfa := hc.facts
  have h6 : S.L.length ≤ 65536 := by omega
  have hgd := hc.good
  have hm6 : S.most ≤ 65536 := by omega
  have hpl := place_le2 hgd
  have hf6 : S.fr.length ≤ 65536 := by have := hgd.fr_le; omega
  obtain ⟨AF, capF, rfl⟩ := owns_slice h.rowF
  obtain ⟨AL, capL, rfl⟩ := h.slice
  have c29 := fun w' (hg : w.grownBy w' none) => rstands_at (h.kept hg) h6 p t
  obtain ⟨bb, Hbb⟩ : ∃ bb, Hid ((S.names p t).isSome = bb) := ⟨_, Lib.hid rfl⟩
  rw [Hbb.out] at c29
  unfold refVal at c29
  have HRV : Hid (refVal S (.slice AL S.L.length capL) (.slice AF S.fr.length capF) = .agg #[.int .i64 (S.most : Int), .int .i64 (S.c : Int), .slice AL S.L.length capL, .slice AF S.fr.length capF]) := Lib.hid rfl
  rw [HRV.out]
  unfold actV
  have HC := Lib.hid hc
  have HR := Lib.hid h
  obtain ⟨len, Hlen⟩ : ∃ len, Hid (S.L.length = len) := ⟨_, Lib.hid rfl⟩
  obtain ⟨lF, HlF⟩ : ∃ lF, Hid (S.fr.length = lF) := ⟨_, Lib.hid rfl⟩
  have C29 := Lib.hid c29
  clear c29
  simp only [Hlen.out, HlF.out] at C29 HRV ⊢
  obtain ⟨hg0, hz0, b0, b1, b2, b3⟩ := alloc4 w (.cells #[.int .i64 (S.most : Int), .int .i64 (S.c : Int), .slice AL len capL, .slice AF lF capF] 32) (.cells #[.int .i64 0, .int .i32 p, .int .u32 t, .int .i64 v] 37) (.cells #[.int .i64 0, .int .i64 0, .slice none 0 0, .slice none 0 0] 32) (.cells #[.int .i32 p, .int .u32 t] 35)
  have HB0 := Lib.hid b0
  have HB1 := Lib.hid b1
  have HB2 := Lib.hid b2
  have HB3 := Lib.hid b3
  have HG0 := Lib.hid hg0
  obtain ⟨c00, c01, c02, c03, l0⟩ := cells4 b0
  obtain ⟨c10, c11, c12, c13, l1⟩ := cells4 b1
  obtain ⟨c30, c31, l3⟩ := (⟨cell_of_head b3 0, cell_of_head b3 1, (Array.getElem?_eq_some_iff.1 b3).1⟩ : _ ∧ _ ∧ _)
  simp only [List.getElem?_toArray, List.getElem?_cons_zero, List.getElem?_cons_succ] at c30 c31
  have hwp : IntKind.i64.wrap p = p := by rw [IntKind.wrap_i64]; omega
  have hwt : IntKind.i64.wrap t = t := by rw [IntKind.wrap_i64]; omega
  clear hg0 hz0 b0 b1 b2 b3 hc h hfa
  go_enter Try.func10, Try.ntmps10
  go_wp2_with fail
  generalize (((w.alloc (.cells #[.int .i64 (S.most : Int), .int .i64 (S.c : Int), .slice AL len capL, .slice AF lF capF] 32)).alloc (.cells #[.int .i64 0, .int .i32 p, .int .u32 t, .int .i64 v] 37)).alloc (.cells #[.int .i64 0, .int .i64 0, .slice none 0 0, .slice none 0 0] 32)).alloc (.cells #[.int .i32 p, .int .u32 t] 35) = w4 at *
  refine (C29.out w4 HG0.out).mono ?_
  rintro e w5 ⟨rfl, hg5⟩
  have HB0a := Lib.hid (kept2 HB0.out hg5)
  have HB1a := Lib.hid (kept2 HB1.out hg5)
  have HB2a := Lib.hid (kept2 HB2.out hg5)
  have HB3a := Lib.hid (kept2 HB3.out hg5)
  have HG5 := Lib.hid (grown_trans HG0.out hg5)
  clear c00 c01 c02 c03 l0 c10 c11 c12 c13 l1 c30 c31 l3 hg5 HB0 HB1 HB2 HB3 HG0 C29
  obtain ⟨c00, c01, c02, c03, l0⟩ := cells4 HB0a.out
  obtain ⟨c10, c11, c12, c13, l1⟩ := cells4 HB1a.out
  obtain ⟨c30, c31, l3⟩ := (⟨cell_of_head HB3a.out 0, cell_of_head HB3a.out 1, (Array.getElem?_eq_some_iff.1 HB3a.out).1⟩ : _ ∧ _ ∧ _)
  simp only [List.getElem?_toArray, List.getElem?_cons_zero, List.getElem?_cons_succ] at c30 c31
  have C13 := Lib.hid (alloc_is (HC.out.kept HG5.out) v hroom hturn)
  unfold hdl at C13
  have CRF : Hid (∀ w', RefAt w' 0 S (.slice AL S.L.length capL) (.slice AF S.fr.length capF) → Calls Try.prog 30 #[refVal S (.slice AL S.L.length capL) (.slice AF S.fr.length capF), .int .i64 v] w' (AllocPost w' S v)) := Lib.hid fun w' h' => ralloc_at hgd h' h6 hm6 hf6 v hroom hturn
  rw [Hlen.out, HlF.out, HRV.out] at CRF
  unfold AllocPost at CRF
  obtain ⟨P, HP⟩ : ∃ P, Hid (S.place = P) := ⟨_, Lib.hid rfl⟩
  rw [HP.out] at C13 CRF hturn hpl
  obtain ⟨T, HT⟩ : ∃ T, Hid (S.turn P + 1 = T) := ⟨_, Lib.hid rfl⟩
  rw [HT.out] at C13 CRF hturn
  have hwP : IntKind.i64.wrap (P : Int) = (P : Int) := by rw [IntKind.wrap_i64]; omega
  have hwT : IntKind.i64.wrap (T : Int) = (T : Int) := by rw [IntKind.wrap_i64]; omega
  have qP : ((P : Int) == (P : Int)) = true := by simp
  have qT : ((T : Int) == (T : Int)) = true := by simp
  obtain ⟨S', HS'⟩ : ∃ S' : SI, Hid (S.alloc v = S') := ⟨_, Lib.hid rfl⟩
  rw [HS'.out] at C13 CRF
  clear hgd hroom
  go_wp2_with fail
  refine C13.out.mono ?_
  rintro e w6 ⟨rfl, hc6, hk6⟩
  have hga := World.grownBy_alloc w6 (.cells #[.int .i32 (P : Int), .int .u32 (T : Int)] 35) none
  have HB06 := Lib.hid (kept2 (hk6.other HB0a.out (by decide)) hga)
  have HB16 := Lib.hid (kept2 (hk6.other HB1a.out (by decide)) hga)
  have HB26 := Lib.hid (kept2 (hk6.other HB2a.out (by decide)) hga)
  have HB36x := Lib.hid (hk6.other HB3a.out (by decide))
  have HB46 := Lib.hid (heap_alloc_new w6 (.cells #[.int .i32 (P : Int), .int .u32 (T : Int)] 35))
  have HK6 := Lib.hid (((Keep.of_new HG5.out).trans hk6).trans (Keep.of_new hga))
  have HC6 := Lib.hid (hc6.kept hga)
  have HR6 := Lib.hid (((HR.out.kept HG5.out).keep hk6).kept hga)
  clear c00 c01 c02 c03 l0 c10 c11 c12 c13 l1 c30 c31 l3 hc6 hk6 hga HB0a HB1a HB2a HB3a C13
  obtain ⟨c00, c01, c02, c03, l0⟩ := cells4 HB06.out
  obtain ⟨c10, c11, c12, c13, l1⟩ := cells4 HB16.out
  obtain ⟨B4, HBe⟩ : ∃ B4, Hid (w6.heap.size = B4) := ⟨_, Lib.hid rfl⟩
  rw [HBe.out] at HB46
  have hB4 : w.heap.size + 3 < B4 := by rw [← HBe.out]; have := (Array.getElem?_eq_some_iff.1 HB36x.out).1; omega
  go_wp2_with fail
  rw [HBe.out]
  generalize w6.alloc (.cells #[.int .i32 (P : Int), .int .u32 (T : Int)] 35) = w7 at *
  refine (CRF.out w7 (by rw [← Hlen.out, ← HlF.out] at *; exact HR6.out)).mono ?_
  rintro e w8 ⟨vL', vF', rfl, hr8, hg8⟩
  obtain ⟨AF', capF', rfl⟩ := owns_slice hr8.rowF
  obtain ⟨AL', capL', rfl⟩ := hr8.slice
  obtain ⟨mo, Hmo⟩ : ∃ mo, Hid (S'.most = mo) := ⟨_, Lib.hid rfl⟩
  obtain ⟨cc, Hcc⟩ : ∃ cc, Hid (S'.c = cc) := ⟨_, Lib.hid rfl⟩
  obtain ⟨l1', Hl1'⟩ : ∃ l, Hid (S'.L.length = l) := ⟨_, Lib.hid rfl⟩
  obtain ⟨l2', Hl2'⟩ : ∃ l, Hid (S'.fr.length = l) := ⟨_, Lib.hid rfl⟩
  have HRV' : Hid (refVal S' (.slice AL' S'.L.length capL') (.slice AF' S'.fr.length capF') = .agg #[.int .i64 (mo : Int), .int .i64 (cc : Int), .slice AL' l1' capL', .slice AF' l2' capF']) := Lib.hid (by unfold refVal; rw [Hmo.out, Hcc.out, Hl1'.out, Hl2'.out])
  rw [HRV'.out]
  rw [Hl1'.out, Hl2'.out] at hr8 HRV'
  have hgb := World.grownBy_alloc w8 (.cells #[.int .i64 (mo : Int), .int .i64 (cc : Int), .slice AL' l1' capL', .slice AF' l2' capF'] 32) none
  have HB28 := Lib.hid (kept2 HB26.out (grown_trans hg8 hgb))
  have HB48 := Lib.hid (kept2 HB46.out (grown_trans hg8 hgb))
  have HB58 := Lib.hid (heap_alloc_new w8 (.cells #[.int .i64 (mo : Int), .int .i64 (cc : Int), .slice AL' l1' capL', .slice AF' l2' capF'] 32))
  have HK8 := Lib.hid (HK6.out.trans (Keep.of_new (grown_trans hg8 hgb)))
  have HR8 := Lib.hid (hr8.kept hgb)
  have HC8 := Lib.hid (HC6.out.kept (grown_trans hg8 hgb))
  obtain ⟨B5, HBf⟩ : ∃ B5, Hid (w8.heap.size = B5) := ⟨_, Lib.hid rfl⟩
  rw [HBf.out] at HB58
  have hB5 : w.heap.size + 3 < B5 := by rw [← HBf.out]; have := (Array.getElem?_eq_some_iff.1 (kept2 HB46.out hg8)).1; omega
  clear c00 c01 c02 c03 l0 c10 c11 c12 c13 l1 hg8 hgb hr8 HB06 HB16 HB26 HB46
  go_wp2_with fail
  rw [HBf.out]
  generalize w8.alloc (.cells #[.int .i64 (mo : Int), .int .i64 (cc : Int), .slice AL' l1' capL', .slice AF' l2' capF'] 32) = w9 at *
  obtain ⟨c50, c51, c52, c53, l5⟩ := cells4 HB58.out
  obtain ⟨c20, c21, c22, c23, l2⟩ := cells4 HB28.out
  obtain ⟨f20, f21, f22, f23⟩ := free4 HB28.out
  obtain ⟨c40, c41, l4⟩ := (⟨cell_of_head HB48.out 0, cell_of_head HB48.out 1, (Array.getElem?_eq_some_iff.1 HB48.out).1⟩ : _ ∧ _ ∧ _)
  simp only [List.getElem?_toArray, List.getElem?_cons_zero, List.getElem?_cons_succ] at c40 c41
  have hn1 : B4 ≠ w.heap.size + 1 + 1 := by omega
  have hn2 : w.heap.size + 1 + 1 ≠ B4 := by omega
  have hn3 : B5 ≠ w.heap.size + 1 + 1 := by omega
  have hn4 : w.heap.size + 1 + 1 ≠ B5 := by omega
  have Hf := Lib.hid (fin_step (x := .int .i64 (mo : Int)) (y := .int .i64 (cc : Int)) (z := .slice AL' l1' capL') (u := .slice AF' l2' capF') (w0 := w) HK8.out (show w.heap.size ≤ w.heap.size + 2 by omega) HB28.out HR8.out HC8.out)
  clear hturn hpl hB4 hB5 h6 hm6 hf6 hp ht
  go_region_held3 (fun w' => w'.cell? ⟨B4, 0, none⟩ = some (.int .i32 (P : Int)) ∧ w'.cell? ⟨B4, 1, none⟩ = some (.int .u32 (T : Int)) ∧ w'.cell? ⟨B5, 0, none⟩ = some (.int .i64 (mo : Int)) ∧ w'.cell? ⟨B5, 1, none⟩ = some (.int .i64 (cc : Int)) ∧ w'.cell? ⟨B5, 2, none⟩ = some (.slice AL' l1' capL') ∧ w'.cell? ⟨B5, 3, none⟩ = some (.slice AF' l2' capF')) (first | exact ⟨c40, c41, c50, c51, c52, c53⟩ | go_keep) (first | fail)
  all_goals go_wp2
  all_goals (refine bodyPost_ret (results_ref4_1 rfl _ _ _ _ _ _ _ _ _ rfl Hf.out.1) rfl ?_; exact ⟨S', _, _, by rw [HRV'.out]; rfl, Hf.out.2.2.1.kept (grown_drewN _ 1 none), Hf.out.2.1.kept (grown_drewN _ 1 none), Hf.out.2.2.2.trans (Keep.of_new (grown_drewN _ 1 none)), .inr (.inl ⟨v, HS'.out.symm⟩)⟩)
set_option maxHeartbeats 2000000 in
theorem step_alloc1 (hc : IsSlab w lo b S) (h : RefAt w 0 S vL vF) (p t v : Int) (hp : -2147483648 ≤ p ∧ p < 2147483648) (ht : 0 ≤ t ∧ t < 4294967296) (hroom : S.len < S.most) (hturn : S.turn S.place + 1 < 4294967296) :
    Calls Try.prog 10 #[.pointer (some ⟨b, 0, none⟩), refVal S vL vF, actV 1 p t v] w (StepPost w lo b S) := by
  have hfa := hc.facts
  have h6 : S.L.length ≤ 65536 := by omega
  have hgd := hc.good
  have hm6 : S.most ≤ 65536 := by omega
  have hpl := place_le2 hgd
  have hf6 : S.fr.length ≤ 65536 := by have := hgd.fr_le; omega
  obtain ⟨AF, capF, rfl⟩ := owns_slice h.rowF
  obtain ⟨AL, capL, rfl⟩ := h.slice
  have c29 := fun w' (hg : w.grownBy w' none) => rstands_at (h.kept hg) h6 p t
  obtain ⟨bb, Hbb⟩ : ∃ bb, Hid ((S.names p t).isSome = bb) := ⟨_, Lib.hid rfl⟩
  rw [Hbb.out] at c29
  unfold refVal at c29
  have HRV : Hid (refVal S (.slice AL S.L.length capL) (.slice AF S.fr.length capF) = .agg #[.int .i64 (S.most : Int), .int .i64 (S.c : Int), .slice AL S.L.length capL, .slice AF S.fr.length capF]) := Lib.hid rfl
  rw [HRV.out]
  unfold actV
  have HC := Lib.hid hc
  have HR := Lib.hid h
  obtain ⟨len, Hlen⟩ : ∃ len, Hid (S.L.length = len) := ⟨_, Lib.hid rfl⟩
  obtain ⟨lF, HlF⟩ : ∃ lF, Hid (S.fr.length = lF) := ⟨_, Lib.hid rfl⟩
  have C29 := Lib.hid c29
  clear c29
  simp only [Hlen.out, HlF.out] at C29 HRV ⊢
  obtain ⟨hg0, hz0, b0, b1, b2, b3⟩ := alloc4 w (.cells #[.int .i64 (S.most : Int), .int .i64 (S.c : Int), .slice AL len capL, .slice AF lF capF] 32) (.cells #[.int .i64 1, .int .i32 p, .int .u32 t, .int .i64 v] 37) (.cells #[.int .i64 0, .int .i64 0, .slice none 0 0, .slice none 0 0] 32) (.cells #[.int .i32 p, .int .u32 t] 35)
  have HB0 := Lib.hid b0
  have HB1 := Lib.hid b1
  have HB2 := Lib.hid b2
  have HB3 := Lib.hid b3
  have HG0 := Lib.hid hg0
  obtain ⟨c00, c01, c02, c03, l0⟩ := cells4 b0
  obtain ⟨c10, c11, c12, c13, l1⟩ := cells4 b1
  obtain ⟨c30, c31, l3⟩ := (⟨cell_of_head b3 0, cell_of_head b3 1, (Array.getElem?_eq_some_iff.1 b3).1⟩ : _ ∧ _ ∧ _)
  simp only [List.getElem?_toArray, List.getElem?_cons_zero, List.getElem?_cons_succ] at c30 c31
  have hwp : IntKind.i64.wrap p = p := by rw [IntKind.wrap_i64]; omega
  have hwt : IntKind.i64.wrap t = t := by rw [IntKind.wrap_i64]; omega
  clear hg0 hz0 b0 b1 b2 b3 hc h hfa
  go_enter Try.func10, Try.ntmps10
  go_wp2_with fail
  generalize (((w.alloc (.cells #[.int .i64 (S.most : Int), .int .i64 (S.c : Int), .slice AL len capL, .slice AF lF capF] 32)).alloc (.cells #[.int .i64 1, .int .i32 p, .int .u32 t, .int .i64 v] 37)).alloc (.cells #[.int .i64 0, .int .i64 0, .slice none 0 0, .slice none 0 0] 32)).alloc (.cells #[.int .i32 p, .int .u32 t] 35) = w4 at *
  refine (C29.out w4 HG0.out).mono ?_
  rintro e w5 ⟨rfl, hg5⟩
  have HB0a := Lib.hid (kept2 HB0.out hg5)
  have HB1a := Lib.hid (kept2 HB1.out hg5)
  have HB2a := Lib.hid (kept2 HB2.out hg5)
  have HB3a := Lib.hid (kept2 HB3.out hg5)
  have HG5 := Lib.hid (grown_trans HG0.out hg5)
  clear c00 c01 c02 c03 l0 c10 c11 c12 c13 l1 c30 c31 l3 hg5 HB0 HB1 HB2 HB3 HG0 C29
  obtain ⟨c00, c01, c02, c03, l0⟩ := cells4 HB0a.out
  obtain ⟨c10, c11, c12, c13, l1⟩ := cells4 HB1a.out
  obtain ⟨c30, c31, l3⟩ := (⟨cell_of_head HB3a.out 0, cell_of_head HB3a.out 1, (Array.getElem?_eq_some_iff.1 HB3a.out).1⟩ : _ ∧ _ ∧ _)
  simp only [List.getElem?_toArray, List.getElem?_cons_zero, List.getElem?_cons_succ] at c30 c31
  have C13 := Lib.hid (alloc_is (HC.out.kept HG5.out) v hroom hturn)
  unfold hdl at C13
  have CRF : Hid (∀ w', RefAt w' 0 S (.slice AL S.L.length capL) (.slice AF S.fr.length capF) → Calls Try.prog 30 #[refVal S (.slice AL S.L.length capL) (.slice AF S.fr.length capF), .int .i64 v] w' (AllocPost w' S v)) := Lib.hid fun w' h' => ralloc_at hgd h' h6 hm6 hf6 v hroom hturn
  rw [Hlen.out, HlF.out, HRV.out] at CRF
  unfold AllocPost at CRF
  obtain ⟨P, HP⟩ : ∃ P, Hid (S.place = P) := ⟨_, Lib.hid rfl⟩
  rw [HP.out] at C13 CRF hturn hpl
  obtain ⟨T, HT⟩ : ∃ T, Hid (S.turn P + 1 = T) := ⟨_, Lib.hid rfl⟩
  rw [HT.out] at C13 CRF hturn
  have hwP : IntKind.i64.wrap (P : Int) = (P : Int) := by rw [IntKind.wrap_i64]; omega
  have hwT : IntKind.i64.wrap (T : Int) = (T : Int) := by rw [IntKind.wrap_i64]; omega
  have qP : ((P : Int) == (P : Int)) = true := by simp
  have qT : ((T : Int) == (T : Int)) = true := by simp
  obtain ⟨S', HS'⟩ : ∃ S' : SI, Hid (S.alloc v = S') := ⟨_, Lib.hid rfl⟩
  rw [HS'.out] at C13 CRF
  clear hgd hroom
  go_wp2_with fail
  refine C13.out.mono ?_
  rintro e w6 ⟨rfl, hc6, hk6⟩
  have hga := World.grownBy_alloc w6 (.cells #[.int .i32 (P : Int), .int .u32 (T : Int)] 35) none
  have HB06 := Lib.hid (kept2 (hk6.other HB0a.out (by decide)) hga)
  have HB16 := Lib.hid (kept2 (hk6.other HB1a.out (by decide)) hga)
  have HB26 := Lib.hid (kept2 (hk6.other HB2a.out (by decide)) hga)
  have HB36x := Lib.hid (hk6.other HB3a.out (by decide))
  have HB46 := Lib.hid (heap_alloc_new w6 (.cells #[.int .i32 (P : Int), .int .u32 (T : Int)] 35))
  have HK6 := Lib.hid (((Keep.of_new HG5.out).trans hk6).trans (Keep.of_new hga))
  have HC6 := Lib.hid (hc6.kept hga)
  have HR6 := Lib.hid (((HR.out.kept HG5.out).keep hk6).kept hga)
  clear c00 c01 c02 c03 l0 c10 c11 c12 c13 l1 c30 c31 l3 hc6 hk6 hga HB0a HB1a HB2a HB3a C13
  obtain ⟨c00, c01, c02, c03, l0⟩ := cells4 HB06.out
  obtain ⟨c10, c11, c12, c13, l1⟩ := cells4 HB16.out
  obtain ⟨B4, HBe⟩ : ∃ B4, Hid (w6.heap.size = B4) := ⟨_, Lib.hid rfl⟩
  rw [HBe.out] at HB46
  have hB4 : w.heap.size + 3 < B4 := by rw [← HBe.out]; have := (Array.getElem?_eq_some_iff.1 HB36x.out).1; omega
  go_wp2_with fail
  rw [HBe.out]
  generalize w6.alloc (.cells #[.int .i32 (P : Int), .int .u32 (T : Int)] 35) = w7 at *
  refine (CRF.out w7 (by rw [← Hlen.out, ← HlF.out] at *; exact HR6.out)).mono ?_
  rintro e w8 ⟨vL', vF', rfl, hr8, hg8⟩
  obtain ⟨AF', capF', rfl⟩ := owns_slice hr8.rowF
  obtain ⟨AL', capL', rfl⟩ := hr8.slice
  obtain ⟨mo, Hmo⟩ : ∃ mo, Hid (S'.most = mo) := ⟨_, Lib.hid rfl⟩
  obtain ⟨cc, Hcc⟩ : ∃ cc, Hid (S'.c = cc) := ⟨_, Lib.hid rfl⟩
  obtain ⟨l1', Hl1'⟩ : ∃ l, Hid (S'.L.length = l) := ⟨_, Lib.hid rfl⟩
  obtain ⟨l2', Hl2'⟩ : ∃ l, Hid (S'.fr.length = l) := ⟨_, Lib.hid rfl⟩
  have HRV' : Hid (refVal S' (.slice AL' S'.L.length capL') (.slice AF' S'.fr.length capF') = .agg #[.int .i64 (mo : Int), .int .i64 (cc : Int), .slice AL' l1' capL', .slice AF' l2' capF']) := Lib.hid (by unfold refVal; rw [Hmo.out, Hcc.out, Hl1'.out, Hl2'.out])
  rw [HRV'.out]
  rw [Hl1'.out, Hl2'.out] at hr8 HRV'
  have hgb := World.grownBy_alloc w8 (.cells #[.int .i64 (mo : Int), .int .i64 (cc : Int), .slice AL' l1' capL', .slice AF' l2' capF'] 32) none
  have HB28 := Lib.hid (kept2 HB26.out (grown_trans hg8 hgb))
  have HB48 := Lib.hid (kept2 HB46.out (grown_trans hg8 hgb))
  have HB58 := Lib.hid (heap_alloc_new w8 (.cells #[.int .i64 (mo : Int), .int .i64 (cc : Int), .slice AL' l1' capL', .slice AF' l2' capF'] 32))
  have HK8 := Lib.hid (HK6.out.trans (Keep.of_new (grown_trans hg8 hgb)))
  have HR8 := Lib.hid (hr8.kept hgb)
  have HC8 := Lib.hid (HC6.out.kept (grown_trans hg8 hgb))
  obtain ⟨B5, HBf⟩ : ∃ B5, Hid (w8.heap.size = B5) := ⟨_, Lib.hid rfl⟩
  rw [HBf.out] at HB58
  have hB5 : w.heap.size + 3 < B5 := by rw [← HBf.out]; have := (Array.getElem?_eq_some_iff.1 (kept2 HB46.out hg8)).1; omega
  clear c00 c01 c02 c03 l0 c10 c11 c12 c13 l1 hg8 hgb hr8 HB06 HB16 HB26 HB46
  go_wp2_with fail
  rw [HBf.out]
  generalize w8.alloc (.cells #[.int .i64 (mo : Int), .int .i64 (cc : Int), .slice AL' l1' capL', .slice AF' l2' capF'] 32) = w9 at *
  obtain ⟨c50, c51, c52, c53, l5⟩ := cells4 HB58.out
  obtain ⟨c20, c21, c22, c23, l2⟩ := cells4 HB28.out
  obtain ⟨f20, f21, f22, f23⟩ := free4 HB28.out
  obtain ⟨c40, c41, l4⟩ := (⟨cell_of_head HB48.out 0, cell_of_head HB48.out 1, (Array.getElem?_eq_some_iff.1 HB48.out).1⟩ : _ ∧ _ ∧ _)
  simp only [List.getElem?_toArray, List.getElem?_cons_zero, List.getElem?_cons_succ] at c40 c41
  have hn1 : B4 ≠ w.heap.size + 1 + 1 := by omega
  have hn2 : w.heap.size + 1 + 1 ≠ B4 := by omega
  have hn3 : B5 ≠ w.heap.size + 1 + 1 := by omega
  have hn4 : w.heap.size + 1 + 1 ≠ B5 := by omega
  have Hf := Lib.hid (fin_step (x := .int .i64 (mo : Int)) (y := .int .i64 (cc : Int)) (z := .slice AL' l1' capL') (u := .slice AF' l2' capF') (w0 := w) HK8.out (show w.heap.size ≤ w.heap.size + 2 by omega) HB28.out HR8.out HC8.out)
  clear hturn hpl hB4 hB5 h6 hm6 hf6 hp ht
  go_region_held3 (fun w' => w'.cell? ⟨B4, 0, none⟩ = some (.int .i32 (P : Int)) ∧ w'.cell? ⟨B4, 1, none⟩ = some (.int .u32 (T : Int)) ∧ w'.cell? ⟨B5, 0, none⟩ = some (.int .i64 (mo : Int)) ∧ w'.cell? ⟨B5, 1, none⟩ = some (.int .i64 (cc : Int)) ∧ w'.cell? ⟨B5, 2, none⟩ = some (.slice AL' l1' capL') ∧ w'.cell? ⟨B5, 3, none⟩ = some (.slice AF' l2' capF')) (first | exact ⟨c40, c41, c50, c51, c52, c53⟩ | go_keep) (first | fail)
  all_goals go_wp2
  all_goals (refine bodyPost_ret (results_ref4_1 rfl _ _ _ _ _ _ _ _ _ rfl Hf.out.1) rfl ?_; exact ⟨S', _, _, by rw [HRV'.out]; rfl, Hf.out.2.2.1.kept (grown_drewN _ 1 none), Hf.out.2.1.kept (grown_drewN _ 1 none), Hf.out.2.2.2.trans (Keep.of_new (grown_drewN _ 1 none)), .inr (.inl ⟨v, HS'.out.symm⟩)⟩)
end
end Go.Proofs.Ytoopfoapkbjdkaa
