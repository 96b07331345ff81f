/-
  The law's step: an act on both tells the same, and leaves the same.
-/
import Derived.Test.YtoopfoapkbjdkaaRefE
import Derived.Test.YtoopfoapkbjdkaaStale
namespace Go.Proofs.Ytoopfoapkbjdkaa
open Go.ChangeShapes Go.WideShapes Go.ChangeAt Go.RowKit
set_option linter.unusedVariables false
set_option maxRecDepth 100000

theorem results_ref4_1 {fn : Func} {p a : Tmp} (h : fn.results = #[.cell p 32, .tmp a]) (tmps : Array Value) (w : World) (g : Nat) (t : TypeId) (fr : Nat × Nat) (x y z u : Value)
    (hp : tmps.getD p undef = .pointer (some ⟨g, 0, none⟩)) (hg : w.heap[g]? = some (.cells #[x, y, z, u] t fr)) : (results fn tmps).run Try.prog w = .ok (.tuple #[.agg #[x, y, z, u], tmps.getD a undef]) w := by
  have hp' : tmps[p]?.getD undef = .pointer (some ⟨g, 0, none⟩) := by simpa using hp
  simp only [results, h]
  simp [hp', asAddr, run_loadVar_row w g t 32 #[x, y, z, u] fr _ hg Try.underlying32 rfl (by kernel_rfl), Result.andThen]
theorem alloc4 (w : World) (o0 o1 o2 o3 : Obj) : w.grownBy ((((w.alloc o0).alloc o1).alloc o2).alloc o3) none ∧ ((((w.alloc o0).alloc o1).alloc o2).alloc o3).heap.size = w.heap.size + 4 ∧
    ((((w.alloc o0).alloc o1).alloc o2).alloc o3).heap[w.heap.size]? = some o0 ∧ ((((w.alloc o0).alloc o1).alloc o2).alloc o3).heap[w.heap.size + 1]? = some o1 ∧ ((((w.alloc o0).alloc o1).alloc o2).alloc o3).heap[w.heap.size + 2]? = some o2 ∧ ((((w.alloc o0).alloc o1).alloc o2).alloc o3).heap[w.heap.size + 3]? = some o3 := by
  have e : ((((w.alloc o0).alloc o1).alloc o2).alloc o3).heap.toList = w.heap.toList ++ [o0, o1, o2, o3] := by simp only [World.alloc, Array.toList_push, List.append_assoc, List.cons_append, List.nil_append]
  have g : ∀ (i : Nat) (o : Obj), [o0, o1, o2, o3][i]? = some o → ((((w.alloc o0).alloc o1).alloc o2).alloc o3).heap[w.heap.size + i]? = some o := fun i o h => by
    rw [← Array.getElem?_toList, e, List.getElem?_append_right (by rw [Array.length_toList]; omega), Array.length_toList, Nat.add_sub_cancel_left]; exact h
  exact ⟨grown_trans (grown_trans (grown_trans (World.grownBy_alloc _ _ none) (World.grownBy_alloc _ _ none)) (World.grownBy_alloc _ _ none)) (World.grownBy_alloc _ _ none), by simp only [World.size_alloc], g 0 _ rfl, g 1 _ rfl, g 2 _ rfl, g 3 _ rfl⟩
section
variable {w w' : World} {lo b : Nat} {S : SI} {vL vF : Value}
theorem IsSlab.setB {B i : Nat} {v : Value} {cur : Array Value} (h : IsSlab w lo b S) (hB : w.heap[B]? = some (.cells cur 32 (0, 0))) : IsSlab (w.setCell ⟨B, i, none⟩ v) lo b S := by
  obtain ⟨hlo, hg, d, cp, vC, vF, hm⟩ := h
  refine ⟨by simpa using hlo, hg, d, cp, vC, vF, hm.stay ?_ (fun k hk => ?_) (fun j hj => ?_) (fun k hk => ?_)⟩
  · refine heap_setCell_other _ _ _ _ ?_
    rintro rfl
    exact absurd (type_eq hm.head hB) (by decide)
  · refine heap_setCell_other _ _ _ _ ?_
    rintro rfl
    obtain ⟨_, cur, hc⟩ := owns_type hm.rowC hk
    exact absurd (type_eq hc hB) (by decide)
  · refine heap_setCell_other _ _ _ _ ?_
    intro e
    obtain ⟨_, cur, h2, _⟩ := hm.chunk j hj
    rw [e] at h2
    exact absurd (type_eq h2 hB) (by decide)
  · refine heap_setCell_other _ _ _ _ ?_
    rintro rfl
    obtain ⟨_, cur, hc⟩ := owns_type hm.rowF hk
    exact absurd (type_eq hc hB) (by decide)
def actV (kind p t v : Int) : Value := .agg #[.int .i64 kind, .int .i32 p, .int .u32 t, .int .i64 v]
def StepPost (w : World) (lo b : Nat) (S : SI) (e : Ending) (w' : World) : Prop :=
  ∃ S' vL' vF', e = .returned (.tuple #[refVal S' vL' vF', .bool true]) ∧ IsSlab w' lo b S' ∧ RefAt w' 0 S' vL' vF' ∧ Keep Ki lo w w' ∧ (S' = S ∨ (∃ v, S' = S.alloc v) ∨ (∃ p, S' = S.free 0 p) ∨ ∃ p v, S' = S.set p v)
theorem fin_step {w0 : World} {B1 : Nat} {a b' c d x y z u : Value} {S' : SI} (hk : Keep Ki lo w0 w) (h1 : w0.heap.size ≤ B1) (hB : w.heap[B1]? = some (.cells #[a, b', c, d] 32 (0, 0))) (h : RefAt w 0 S' vL vF) (hc : IsSlab w lo b S') :
    ((((w.setCell ⟨B1, 0, none⟩ x).setCell ⟨B1, 1, none⟩ y).setCell ⟨B1, 2, none⟩ z).setCell ⟨B1, 3, none⟩ u).heap[B1]? = some (.cells #[x, y, z, u] 32 (0, 0)) ∧
    RefAt ((((w.setCell ⟨B1, 0, none⟩ x).setCell ⟨B1, 1, none⟩ y).setCell ⟨B1, 2, none⟩ z).setCell ⟨B1, 3, none⟩ u) 0 S' vL vF ∧
    IsSlab ((((w.setCell ⟨B1, 0, none⟩ x).setCell ⟨B1, 1, none⟩ y).setCell ⟨B1, 2, none⟩ z).setCell ⟨B1, 3, none⟩ u) lo b S' ∧
    Keep Ki lo w0 ((((w.setCell ⟨B1, 0, none⟩ x).setCell ⟨B1, 1, none⟩ y).setCell ⟨B1, 2, none⟩ z).setCell ⟨B1, 3, none⟩ u) :=
  ⟨head_set (head_set (head_set (head_set hB 0 x) 1 y) 2 z) 3 u, (((h.setB hB).setB (head_set hB 0 x)).setB (head_set (head_set hB 0 x) 1 y)).setB (head_set (head_set (head_set hB 0 x) 1 y) 2 z),
    (((hc.setB hB).setB (head_set hB 0 x)).setB (head_set (head_set hB 0 x) 1 y)).setB (head_set (head_set (head_set hB 0 x) 1 y) 2 z), (((hk.setNew h1 0 x).setNew h1 1 y).setNew h1 2 z).setNew h1 3 u⟩
set_option maxHeartbeats 4000000 in
theorem step_free_no (hc : IsSlab w lo b S) (h : RefAt w 0 S vL vF) (p t v : Int) (hp : -2147483648 ≤ p ∧ p < 2147483648) (ht : 0 ≤ t ∧ t < 4294967296) (hnm : S.names p t = none) :
    Calls Try.prog 10 #[.pointer (some ⟨b, 0, none⟩), refVal S vL vF, actV 2 p t v] w (StepPost w lo b S) := by
  have hfa := hc.facts
  have h6 : S.L.length ≤ 65536 := by omega
  have hgd := hc.good
  have hf6 : S.fr.length ≤ 65536 := by have := hgd.fr_le; omega
  obtain ⟨AF, capF, rfl⟩ := owns_slice h.rowF
  obtain ⟨AL, capL, rfl⟩ := h.slice
  have c29 := fun w' (hg : w.grownBy w' none) => rstands_at (h.kept hg) h6 p t
  rw [hnm] at c29
  simp only [Option.isSome_none] at c29
  unfold refVal at c29
  have HRV : Hid (refVal S (.slice AL S.L.length capL) (.slice AF S.fr.length capF) = .agg #[.int .i64 (S.most : Int), .int .i64 (S.c : Int), .slice AL S.L.length capL, .slice AF S.fr.length capF]) := Lib.hid rfl
  rw [HRV.out]
  unfold actV
  have HC := Lib.hid hc
  have HR := Lib.hid h
  obtain ⟨len, Hlen⟩ : ∃ len, Hid (S.L.length = len) := ⟨_, Lib.hid rfl⟩
  obtain ⟨lF, HlF⟩ : ∃ lF, Hid (S.fr.length = lF) := ⟨_, Lib.hid rfl⟩
  have C29 := Lib.hid c29
  clear c29
  simp only [Hlen.out, HlF.out] at C29 HRV ⊢
  obtain ⟨hg0, hz0, b0, b1, b2, b3⟩ := alloc4 w (.cells #[.int .i64 (S.most : Int), .int .i64 (S.c : Int), .slice AL len capL, .slice AF lF capF] 32) (.cells #[.int .i64 2, .int .i32 p, .int .u32 t, .int .i64 v] 37) (.cells #[.int .i64 0, .int .i64 0, .slice none 0 0, .slice none 0 0] 32) (.cells #[.int .i32 p, .int .u32 t] 35)
  have HB0 := Lib.hid b0
  have HB1 := Lib.hid b1
  have HB2 := Lib.hid b2
  have HB3 := Lib.hid b3
  have HG0 := Lib.hid hg0
  obtain ⟨c00, c01, c02, c03, l0⟩ := cells4 b0
  obtain ⟨c10, c11, c12, c13, l1⟩ := cells4 b1
  obtain ⟨c30, c31, l3⟩ := (⟨cell_of_head b3 0, cell_of_head b3 1, (Array.getElem?_eq_some_iff.1 b3).1⟩ : _ ∧ _ ∧ _)
  simp only [List.getElem?_toArray, List.getElem?_cons_zero, List.getElem?_cons_succ] at c30 c31
  have hwp : IntKind.i64.wrap p = p := by rw [IntKind.wrap_i64]; omega
  have hwt : IntKind.i64.wrap t = t := by rw [IntKind.wrap_i64]; omega
  clear hg0 hz0 b0 b1 b2 b3 hc h hfa
  go_enter Try.func10, Try.ntmps10
  go_wp2_with fail
  generalize (((w.alloc (.cells #[.int .i64 (S.most : Int), .int .i64 (S.c : Int), .slice AL len capL, .slice AF lF capF] 32)).alloc (.cells #[.int .i64 2, .int .i32 p, .int .u32 t, .int .i64 v] 37)).alloc (.cells #[.int .i64 0, .int .i64 0, .slice none 0 0, .slice none 0 0] 32)).alloc (.cells #[.int .i32 p, .int .u32 t] 35) = w4 at *
  refine (C29.out w4 HG0.out).mono ?_
  rintro e w5 ⟨rfl, hg5⟩
  have HB0a := Lib.hid (kept2 HB0.out hg5)
  have HB1a := Lib.hid (kept2 HB1.out hg5)
  have HB2a := Lib.hid (kept2 HB2.out hg5)
  have HB3a := Lib.hid (kept2 HB3.out hg5)
  have HG5 := Lib.hid (grown_trans HG0.out hg5)
  clear c00 c01 c02 c03 l0 c10 c11 c12 c13 l1 c30 c31 l3 hg5 HB0 HB1 HB2 HB3 HG0 C29
  obtain ⟨c00, c01, c02, c03, l0⟩ := cells4 HB0a.out
  obtain ⟨c10, c11, c12, c13, l1⟩ := cells4 HB1a.out
  obtain ⟨c30, c31, l3⟩ := (⟨cell_of_head HB3a.out 0, cell_of_head HB3a.out 1, (Array.getElem?_eq_some_iff.1 HB3a.out).1⟩ : _ ∧ _ ∧ _)
  simp only [List.getElem?_toArray, List.getElem?_cons_zero, List.getElem?_cons_succ] at c30 c31
  have c14 := free_is (HC.out.kept HG5.out) hp ht.1
  rw [hnm] at c14
  simp only [Option.isSome_none, Bool.false_eq_true, if_false] at c14
  unfold hdl at c14
  have C14 := Lib.hid c14
  clear c14
  go_wp2_with fail
  refine C14.out.mono ?_
  rintro e w6 ⟨rfl, hc6, hk6⟩
  have HB06 := Lib.hid (hk6.other HB0a.out (by decide))
  have HB16 := Lib.hid (hk6.other HB1a.out (by decide))
  have HB26 := Lib.hid (hk6.other HB2a.out (by decide))
  have HB36 := Lib.hid (hk6.other HB3a.out (by decide))
  have HK6 := Lib.hid ((Keep.of_new HG5.out).trans hk6)
  have HC6 := Lib.hid hc6
  have HR6 : Hid (RefAt w6 0 S (.slice AL len capL) (.slice AF lF capF)) := Lib.hid (by have := (HR.out.kept HG5.out).keep hk6; rw [Hlen.out, HlF.out] at this; exact this)
  clear c00 c01 c02 c03 l0 c10 c11 c12 c13 l1 c30 c31 l3 hk6 hc6 HB0a HB1a HB2a HB3a HG5
  obtain ⟨c00, c01, c02, c03, l0⟩ := cells4 HB06.out
  obtain ⟨c10, c11, c12, c13, l1⟩ := cells4 HB16.out
  obtain ⟨c20, c21, c22, c23, l2⟩ := cells4 HB26.out
  obtain ⟨f20, f21, f22, f23⟩ := free4 HB26.out
  obtain ⟨c30, c31, l3⟩ := (⟨cell_of_head HB36.out 0, cell_of_head HB36.out 1, (Array.getElem?_eq_some_iff.1 HB36.out).1⟩ : _ ∧ _ ∧ _)
  simp only [List.getElem?_toArray, List.getElem?_cons_zero, List.getElem?_cons_succ] at c30 c31
  go_wp2
  have hf := fin_step (x := .int .i64 (S.most : Int)) (y := .int .i64 (S.c : Int)) (z := .slice AL len capL) (u := .slice AF lF capF) (w0 := w) HK6.out (by omega) HB26.out HR6.out HC6.out
  refine bodyPost_ret (results_ref4_1 rfl _ _ _ _ _ _ _ _ _ rfl hf.1) rfl ?_
  exact ⟨S, _, _, by rw [HRV.out]; rfl, hf.2.2.1, hf.2.1, hf.2.2.2, .inl rfl⟩
set_option maxHeartbeats 4000000 in
theorem step_free_yes (hc : IsSlab w lo b S) (h : RefAt w 0 S vL vF) (p t v : Int) (hp : -2147483648 ≤ p ∧ p < 2147483648) (ht : 0 ≤ t ∧ t < 4294967296) {s : Spot Int} (hnm : S.names p t = some s) :
    Calls Try.prog 10 #[.pointer (some ⟨b, 0, none⟩), refVal S vL vF, actV 2 p t v] w (StepPost w lo b S) := by
  have hfa := hc.facts
  have h6 : S.L.length ≤ 65536 := by omega
  have hgd := hc.good
  have hf6 : S.fr.length ≤ 65536 := by have := hgd.fr_le; omega
  obtain ⟨AF, capF, rfl⟩ := owns_slice h.rowF
  obtain ⟨AL, capL, rfl⟩ := h.slice
  have c29 := fun w' (hg : w.grownBy w' none) => rstands_at (h.kept hg) h6 p t
  rw [hnm] at c29
  simp only [Option.isSome_some] at c29
  unfold refVal at c29
  have HRV : Hid (refVal S (.slice AL S.L.length capL) (.slice AF S.fr.length capF) = .agg #[.int .i64 (S.most : Int), .int .i64 (S.c : Int), .slice AL S.L.length capL, .slice AF S.fr.length capF]) := Lib.hid rfl
  rw [HRV.out]
  unfold actV
  have HC := Lib.hid hc
  have HR := Lib.hid h
  obtain ⟨len, Hlen⟩ : ∃ len, Hid (S.L.length = len) := ⟨_, Lib.hid rfl⟩
  obtain ⟨lF, HlF⟩ : ∃ lF, Hid (S.fr.length = lF) := ⟨_, Lib.hid rfl⟩
  have C29 := Lib.hid c29
  clear c29
  simp only [Hlen.out, HlF.out] at C29 HRV ⊢
  obtain ⟨hg0, hz0, b0, b1, b2, b3⟩ := alloc4 w (.cells #[.int .i64 (S.most : Int), .int .i64 (S.c : Int), .slice AL len capL, .slice AF lF capF] 32) (.cells #[.int .i64 2, .int .i32 p, .int .u32 t, .int .i64 v] 37) (.cells #[.int .i64 0, .int .i64 0, .slice none 0 0, .slice none 0 0] 32) (.cells #[.int .i32 p, .int .u32 t] 35)
  have HB0 := Lib.hid b0
  have HB1 := Lib.hid b1
  have HB2 := Lib.hid b2
  have HB3 := Lib.hid b3
  have HG0 := Lib.hid hg0
  obtain ⟨c00, c01, c02, c03, l0⟩ := cells4 b0
  obtain ⟨c10, c11, c12, c13, l1⟩ := cells4 b1
  obtain ⟨c30, c31, l3⟩ := (⟨cell_of_head b3 0, cell_of_head b3 1, (Array.getElem?_eq_some_iff.1 b3).1⟩ : _ ∧ _ ∧ _)
  simp only [List.getElem?_toArray, List.getElem?_cons_zero, List.getElem?_cons_succ] at c30 c31
  have hwp : IntKind.i64.wrap p = p := by rw [IntKind.wrap_i64]; omega
  have hwt : IntKind.i64.wrap t = t := by rw [IntKind.wrap_i64]; omega
  clear hg0 hz0 b0 b1 b2 b3 hc h hfa
  go_enter Try.func10, Try.ntmps10
  go_wp2_with fail
  generalize (((w.alloc (.cells #[.int .i64 (S.most : Int), .int .i64 (S.c : Int), .slice AL len capL, .slice AF lF capF] 32)).alloc (.cells #[.int .i64 2, .int .i32 p, .int .u32 t, .int .i64 v] 37)).alloc (.cells #[.int .i64 0, .int .i64 0, .slice none 0 0, .slice none 0 0] 32)).alloc (.cells #[.int .i32 p, .int .u32 t] 35) = w4 at *
  refine (C29.out w4 HG0.out).mono ?_
  rintro e w5 ⟨rfl, hg5⟩
  have HB0a := Lib.hid (kept2 HB0.out hg5)
  have HB1a := Lib.hid (kept2 HB1.out hg5)
  have HB2a := Lib.hid (kept2 HB2.out hg5)
  have HB3a := Lib.hid (kept2 HB3.out hg5)
  have HG5 := Lib.hid (grown_trans HG0.out hg5)
  clear c00 c01 c02 c03 l0 c10 c11 c12 c13 l1 c30 c31 l3 hg5 HB0 HB1 HB2 HB3 HG0 C29
  obtain ⟨c00, c01, c02, c03, l0⟩ := cells4 HB0a.out
  obtain ⟨c10, c11, c12, c13, l1⟩ := cells4 HB1a.out
  obtain ⟨c30, c31, l3⟩ := (⟨cell_of_head HB3a.out 0, cell_of_head HB3a.out 1, (Array.getElem?_eq_some_iff.1 HB3a.out).1⟩ : _ ∧ _ ∧ _)
  simp only [List.getElem?_toArray, List.getElem?_cons_zero, List.getElem?_cons_succ] at c30 c31
  have c14 := free_is (HC.out.kept HG5.out) hp ht.1
  rw [hnm] at c14
  simp only [Option.isSome_some, if_true] at c14
  unfold hdl at c14
  have C14 := Lib.hid c14
  clear c14
  go_wp2_with fail
  refine C14.out.mono ?_
  rintro e w6 ⟨rfl, hc6, hk6⟩
  have HB06 := Lib.hid (hk6.other HB0a.out (by decide))
  have HB16 := Lib.hid (hk6.other HB1a.out (by decide))
  have HB26 := Lib.hid (hk6.other HB2a.out (by decide))
  have HB36 := Lib.hid (hk6.other HB3a.out (by decide))
  have HK6 := Lib.hid ((Keep.of_new HG5.out).trans hk6)
  have HC6 := Lib.hid hc6
  have HR6 : Hid (RefAt w6 0 S (.slice AL len capL) (.slice AF lF capF)) := Lib.hid (by have := (HR.out.kept HG5.out).keep hk6; rw [Hlen.out, HlF.out] at this; exact this)
  clear c00 c01 c02 c03 l0 c10 c11 c12 c13 l1 c30 c31 l3 hk6 hc6 HB0a HB1a HB2a HB3a HG5
  obtain ⟨c00, c01, c02, c03, l0⟩ := cells4 HB06.out
  obtain ⟨c10, c11, c12, c13, l1⟩ := cells4 HB16.out
  obtain ⟨c20, c21, c22, c23, l2⟩ := cells4 HB26.out
  obtain ⟨f20, f21, f22, f23⟩ := free4 HB26.out
  obtain ⟨c30, c31, l3⟩ := (⟨cell_of_head HB36.out 0, cell_of_head HB36.out 1, (Array.getElem?_eq_some_iff.1 HB36.out).1⟩ : _ ∧ _ ∧ _)
  simp only [List.getElem?_toArray, List.getElem?_cons_zero, List.getElem?_cons_succ] at c30 c31
  obtain ⟨hn1, _⟩ := names_some.1 hnm
  obtain ⟨hp0, hs, _⟩ := node_some.1 hn1
  obtain ⟨x, rfl⟩ := Int.eq_ofNat_of_zero_le hp0
  rw [Int.toNat_natCast] at hs HC6
  have CREF := Lib.hid (rfree_at (by rw [← Hlen.out, ← HlF.out] at HR6; exact HR6.out) h6 hf6 hs)
  unfold refVal at CREF
  simp only [Hlen.out, HlF.out] at CREF
  clear hn1 hs
  go_wp2_with fail
  refine CREF.out.mono ?_
  rintro e w7 ⟨vL', vF', rfl, hr7, hg7⟩
  have HB07 := Lib.hid (kept2 HB06.out hg7)
  have HB27 := Lib.hid (kept2 HB26.out hg7)
  have HK7 := Lib.hid (HK6.out.trans (Keep.of_new hg7))
  have HC7 := Lib.hid (HC6.out.kept hg7)
  obtain ⟨AF', capF', hvF⟩ := owns_slice hr7.rowF
  obtain ⟨AL', capL', hvL⟩ := hr7.slice
  have HR7 := Lib.hid hr7
  have HvF := Lib.hid hvF
  have HvL := Lib.hid hvL
  clear c00 c01 c02 c03 l0 c10 c11 c12 c13 l1 c20 c21 c22 c23 l2 f20 f21 f22 f23 c30 c31 l3 hr7 hg7 hvF hvL
  obtain ⟨c20, c21, c22, c23, l2⟩ := cells4 HB27.out
  obtain ⟨f20, f21, f22, f23⟩ := free4 HB27.out
  rw [HvL.out, HvF.out]
  obtain ⟨S', HS'⟩ : ∃ S' : SI, Hid (S.free 0 x = S') := ⟨_, Lib.hid rfl⟩
  rw [HS'.out] at HR7 HC7 HvL HvF ⊢
  go_wp2
  have hf := fin_step (x := .int .i64 (S'.most : Int)) (y := .int .i64 (S'.c : Int)) (z := .slice AL' S'.L.length capL') (u := .slice AF' S'.fr.length capF') (w0 := w) HK7.out (by omega) HB27.out HR7.out HC7.out
  refine bodyPost_ret (results_ref4_1 rfl _ _ _ _ _ _ _ _ _ rfl hf.1) rfl ?_
  exact ⟨S', _, _, by unfold refVal; rw [HvL.out, HvF.out]; rfl, hf.2.2.1, hf.2.1, hf.2.2.2, .inr (.inr (.inl ⟨x, HS'.out.symm⟩))⟩
set_option maxHeartbeats 4000000 in
theorem step_set_no (hc : IsSlab w lo b S) (h : RefAt w 0 S vL vF) (p t v : Int) (hp : -2147483648 ≤ p ∧ p < 2147483648) (ht : 0 ≤ t ∧ t < 4294967296) (hnm : S.names p t = none) :
    Calls Try.prog 10 #[.pointer (some ⟨b, 0, none⟩), refVal S vL vF, actV 3 p t v] w (StepPost w lo b S) := by
  have hfa := hc.facts
  have h6 : S.L.length ≤ 65536 := by omega
  have hgd := hc.good
  have hf6 : S.fr.length ≤ 65536 := by have := hgd.fr_le; omega
  obtain ⟨AF, capF, rfl⟩ := owns_slice h.rowF
  obtain ⟨AL, capL, rfl⟩ := h.slice
  have c29 := fun w' (hg : w.grownBy w' none) => rstands_at (h.kept hg) h6 p t
  rw [hnm] at c29
  simp only [Option.isSome_none] at c29
  unfold refVal at c29
  have HRV : Hid (refVal S (.slice AL S.L.length capL) (.slice AF S.fr.length capF) = .agg #[.int .i64 (S.most : Int), .int .i64 (S.c : Int), .slice AL S.L.length capL, .slice AF S.fr.length capF]) := Lib.hid rfl
  rw [HRV.out]
  unfold actV
  have HC := Lib.hid hc
  have HR := Lib.hid h
  obtain ⟨len, Hlen⟩ : ∃ len, Hid (S.L.length = len) := ⟨_, Lib.hid rfl⟩
  obtain ⟨lF, HlF⟩ : ∃ lF, Hid (S.fr.length = lF) := ⟨_, Lib.hid rfl⟩
  have C29 := Lib.hid c29
  clear c29
  simp only [Hlen.out, HlF.out] at C29 HRV ⊢
  obtain ⟨hg0, hz0, b0, b1, b2, b3⟩ := alloc4 w (.cells #[.int .i64 (S.most : Int), .int .i64 (S.c : Int), .slice AL len capL, .slice AF lF capF] 32) (.cells #[.int .i64 3, .int .i32 p, .int .u32 t, .int .i64 v] 37) (.cells #[.int .i64 0, .int .i64 0, .slice none 0 0, .slice none 0 0] 32) (.cells #[.int .i32 p, .int .u32 t] 35)
  have HB0 := Lib.hid b0
  have HB1 := Lib.hid b1
  have HB2 := Lib.hid b2
  have HB3 := Lib.hid b3
  have HG0 := Lib.hid hg0
  obtain ⟨c00, c01, c02, c03, l0⟩ := cells4 b0
  obtain ⟨c10, c11, c12, c13, l1⟩ := cells4 b1
  obtain ⟨c30, c31, l3⟩ := (⟨cell_of_head b3 0, cell_of_head b3 1, (Array.getElem?_eq_some_iff.1 b3).1⟩ : _ ∧ _ ∧ _)
  simp only [List.getElem?_toArray, List.getElem?_cons_zero, List.getElem?_cons_succ] at c30 c31
  have hwp : IntKind.i64.wrap p = p := by rw [IntKind.wrap_i64]; omega
  have hwt : IntKind.i64.wrap t = t := by rw [IntKind.wrap_i64]; omega
  clear hg0 hz0 b0 b1 b2 b3 hc h hfa
  go_enter Try.func10, Try.ntmps10
  go_wp2_with fail
  generalize (((w.alloc (.cells #[.int .i64 (S.most : Int), .int .i64 (S.c : Int), .slice AL len capL, .slice AF lF capF] 32)).alloc (.cells #[.int .i64 3, .int .i32 p, .int .u32 t, .int .i64 v] 37)).alloc (.cells #[.int .i64 0, .int .i64 0, .slice none 0 0, .slice none 0 0] 32)).alloc (.cells #[.int .i32 p, .int .u32 t] 35) = w4 at *
  refine (C29.out w4 HG0.out).mono ?_
  rintro e w5 ⟨rfl, hg5⟩
  have HB0a := Lib.hid (kept2 HB0.out hg5)
  have HB1a := Lib.hid (kept2 HB1.out hg5)
  have HB2a := Lib.hid (kept2 HB2.out hg5)
  have HB3a := Lib.hid (kept2 HB3.out hg5)
  have HG5 := Lib.hid (grown_trans HG0.out hg5)
  clear c00 c01 c02 c03 l0 c10 c11 c12 c13 l1 c30 c31 l3 hg5 HB0 HB1 HB2 HB3 HG0 C29
  obtain ⟨c00, c01, c02, c03, l0⟩ := cells4 HB0a.out
  obtain ⟨c10, c11, c12, c13, l1⟩ := cells4 HB1a.out
  obtain ⟨c30, c31, l3⟩ := (⟨cell_of_head HB3a.out 0, cell_of_head HB3a.out 1, (Array.getElem?_eq_some_iff.1 HB3a.out).1⟩ : _ ∧ _ ∧ _)
  simp only [List.getElem?_toArray, List.getElem?_cons_zero, List.getElem?_cons_succ] at c30 c31
  have c14 := set_is (HC.out.kept HG5.out) v hp ht.1
  rw [hnm] at c14
  simp only [Option.isSome_none, Bool.false_eq_true, if_false] at c14
  unfold hdl at c14
  have C14 := Lib.hid c14
  clear c14
  go_wp2_with fail
  refine C14.out.mono ?_
  rintro e w6 ⟨rfl, hc6, hk6⟩
  have HB06 := Lib.hid (hk6.other HB0a.out (by decide))
  have HB16 := Lib.hid (hk6.other HB1a.out (by decide))
  have HB26 := Lib.hid (hk6.other HB2a.out (by decide))
  have HB36 := Lib.hid (hk6.other HB3a.out (by decide))
  have HK6 := Lib.hid ((Keep.of_new HG5.out).trans hk6)
  have HC6 := Lib.hid hc6
  have HR6 : Hid (RefAt w6 0 S (.slice AL len capL) (.slice AF lF capF)) := Lib.hid (by have := (HR.out.kept HG5.out).keep hk6; rw [Hlen.out, HlF.out] at this; exact this)
  clear c00 c01 c02 c03 l0 c10 c11 c12 c13 l1 c30 c31 l3 hk6 hc6 HB0a HB1a HB2a HB3a HG5
  obtain ⟨c00, c01, c02, c03, l0⟩ := cells4 HB06.out
  obtain ⟨c10, c11, c12, c13, l1⟩ := cells4 HB16.out
  obtain ⟨c20, c21, c22, c23, l2⟩ := cells4 HB26.out
  obtain ⟨f20, f21, f22, f23⟩ := free4 HB26.out
  obtain ⟨c30, c31, l3⟩ := (⟨cell_of_head HB36.out 0, cell_of_head HB36.out 1, (Array.getElem?_eq_some_iff.1 HB36.out).1⟩ : _ ∧ _ ∧ _)
  simp only [List.getElem?_toArray, List.getElem?_cons_zero, List.getElem?_cons_succ] at c30 c31
  go_wp2
  have hf := fin_step (x := .int .i64 (S.most : Int)) (y := .int .i64 (S.c : Int)) (z := .slice AL len capL) (u := .slice AF lF capF) (w0 := w) HK6.out (by omega) HB26.out HR6.out HC6.out
  refine bodyPost_ret (results_ref4_1 rfl _ _ _ _ _ _ _ _ _ rfl hf.1) rfl ?_
  exact ⟨S, _, _, by rw [HRV.out]; rfl, hf.2.2.1, hf.2.1, hf.2.2.2, .inl rfl⟩
set_option maxHeartbeats 4000000 in
theorem step_set_yes (hc : IsSlab w lo b S) (h : RefAt w 0 S vL vF) (p t v : Int) (hp : -2147483648 ≤ p ∧ p < 2147483648) (ht : 0 ≤ t ∧ t < 4294967296) {s : Spot Int} (hnm : S.names p t = some s) :
    Calls Try.prog 10 #[.pointer (some ⟨b, 0, none⟩), refVal S vL vF, actV 3 p t v] w (StepPost w lo b S) := by
  have hfa := hc.facts
  have h6 : S.L.length ≤ 65536 := by omega
  have hgd := hc.good
  have hf6 : S.fr.length ≤ 65536 := by have := hgd.fr_le; omega
  obtain ⟨AF, capF, rfl⟩ := owns_slice h.rowF
  obtain ⟨AL, capL, rfl⟩ := h.slice
  have c29 := fun w' (hg : w.grownBy w' none) => rstands_at (h.kept hg) h6 p t
  rw [hnm] at c29
  simp only [Option.isSome_some] at c29
  unfold refVal at c29
  have HRV : Hid (refVal S (.slice AL S.L.length capL) (.slice AF S.fr.length capF) = .agg #[.int .i64 (S.most : Int), .int .i64 (S.c : Int), .slice AL S.L.length capL, .slice AF S.fr.length capF]) := Lib.hid rfl
  rw [HRV.out]
  unfold actV
  have HC := Lib.hid hc
  have HR := Lib.hid h
  obtain ⟨len, Hlen⟩ : ∃ len, Hid (S.L.length = len) := ⟨_, Lib.hid rfl⟩
  obtain ⟨lF, HlF⟩ : ∃ lF, Hid (S.fr.length = lF) := ⟨_, Lib.hid rfl⟩
  have C29 := Lib.hid c29
  clear c29
  simp only [Hlen.out, HlF.out] at C29 HRV ⊢
  obtain ⟨hg0, hz0, b0, b1, b2, b3⟩ := alloc4 w (.cells #[.int .i64 (S.most : Int), .int .i64 (S.c : Int), .slice AL len capL, .slice AF lF capF] 32) (.cells #[.int .i64 3, .int .i32 p, .int .u32 t, .int .i64 v] 37) (.cells #[.int .i64 0, .int .i64 0, .slice none 0 0, .slice none 0 0] 32) (.cells #[.int .i32 p, .int .u32 t] 35)
  have HB0 := Lib.hid b0
  have HB1 := Lib.hid b1
  have HB2 := Lib.hid b2
  have HB3 := Lib.hid b3
  have HG0 := Lib.hid hg0
  obtain ⟨c00, c01, c02, c03, l0⟩ := cells4 b0
  obtain ⟨c10, c11, c12, c13, l1⟩ := cells4 b1
  obtain ⟨c30, c31, l3⟩ := (⟨cell_of_head b3 0, cell_of_head b3 1, (Array.getElem?_eq_some_iff.1 b3).1⟩ : _ ∧ _ ∧ _)
  simp only [List.getElem?_toArray, List.getElem?_cons_zero, List.getElem?_cons_succ] at c30 c31
  have hwp : IntKind.i64.wrap p = p := by rw [IntKind.wrap_i64]; omega
  have hwt : IntKind.i64.wrap t = t := by rw [IntKind.wrap_i64]; omega
  clear hg0 hz0 b0 b1 b2 b3 hc h hfa
  go_enter Try.func10, Try.ntmps10
  go_wp2_with fail
  generalize (((w.alloc (.cells #[.int .i64 (S.most : Int), .int .i64 (S.c : Int), .slice AL len capL, .slice AF lF capF] 32)).alloc (.cells #[.int .i64 3, .int .i32 p, .int .u32 t, .int .i64 v] 37)).alloc (.cells #[.int .i64 0, .int .i64 0, .slice none 0 0, .slice none 0 0] 32)).alloc (.cells #[.int .i32 p, .int .u32 t] 35) = w4 at *
  refine (C29.out w4 HG0.out).mono ?_
  rintro e w5 ⟨rfl, hg5⟩
  have HB0a := Lib.hid (kept2 HB0.out hg5)
  have HB1a := Lib.hid (kept2 HB1.out hg5)
  have HB2a := Lib.hid (kept2 HB2.out hg5)
  have HB3a := Lib.hid (kept2 HB3.out hg5)
  have HG5 := Lib.hid (grown_trans HG0.out hg5)
  clear c00 c01 c02 c03 l0 c10 c11 c12 c13 l1 c30 c31 l3 hg5 HB0 HB1 HB2 HB3 HG0 C29
  obtain ⟨c00, c01, c02, c03, l0⟩ := cells4 HB0a.out
  obtain ⟨c10, c11, c12, c13, l1⟩ := cells4 HB1a.out
  obtain ⟨c30, c31, l3⟩ := (⟨cell_of_head HB3a.out 0, cell_of_head HB3a.out 1, (Array.getElem?_eq_some_iff.1 HB3a.out).1⟩ : _ ∧ _ ∧ _)
  simp only [List.getElem?_toArray, List.getElem?_cons_zero, List.getElem?_cons_succ] at c30 c31
  have c14 := set_is (HC.out.kept HG5.out) v hp ht.1
  rw [hnm] at c14
  simp only [Option.isSome_some, if_true] at c14
  unfold hdl at c14
  have C14 := Lib.hid c14
  clear c14
  go_wp2_with fail
  refine C14.out.mono ?_
  rintro e w6 ⟨rfl, hc6, hk6⟩
  have HB06 := Lib.hid (hk6.other HB0a.out (by decide))
  have HB16 := Lib.hid (hk6.other HB1a.out (by decide))
  have HB26 := Lib.hid (hk6.other HB2a.out (by decide))
  have HB36 := Lib.hid (hk6.other HB3a.out (by decide))
  have HK6 := Lib.hid ((Keep.of_new HG5.out).trans hk6)
  have HC6 := Lib.hid hc6
  have HR6 : Hid (RefAt w6 0 S (.slice AL len capL) (.slice AF lF capF)) := Lib.hid (by have := (HR.out.kept HG5.out).keep hk6; rw [Hlen.out, HlF.out] at this; exact this)
  clear c00 c01 c02 c03 l0 c10 c11 c12 c13 l1 c30 c31 l3 hk6 hc6 HB0a HB1a HB2a HB3a HG5
  obtain ⟨c00, c01, c02, c03, l0⟩ := cells4 HB06.out
  obtain ⟨c10, c11, c12, c13, l1⟩ := cells4 HB16.out
  obtain ⟨c20, c21, c22, c23, l2⟩ := cells4 HB26.out
  obtain ⟨f20, f21, f22, f23⟩ := free4 HB26.out
  obtain ⟨c30, c31, l3⟩ := (⟨cell_of_head HB36.out 0, cell_of_head HB36.out 1, (Array.getElem?_eq_some_iff.1 HB36.out).1⟩ : _ ∧ _ ∧ _)
  simp only [List.getElem?_toArray, List.getElem?_cons_zero, List.getElem?_cons_succ] at c30 c31
  obtain ⟨hn1, _⟩ := names_some.1 hnm
  obtain ⟨hp0, hs, _⟩ := node_some.1 hn1
  obtain ⟨x, rfl⟩ := Int.eq_ofNat_of_zero_le hp0
  rw [Int.toNat_natCast] at hs HC6
  have CREF := Lib.hid (rset_at (by rw [← Hlen.out, ← HlF.out] at HR6; exact HR6.out) h6 hs v)
  unfold refVal at CREF
  simp only [Hlen.out, HlF.out] at CREF
  clear hn1 hs
  go_wp2_with fail
  refine CREF.out.mono ?_
  rintro e w7 ⟨vL', rfl, hr7, hg7⟩
  have HB07 := Lib.hid (kept2 HB06.out hg7)
  have HB27 := Lib.hid (kept2 HB26.out hg7)
  have HK7 := Lib.hid (HK6.out.trans (Keep.of_new hg7))
  have HC7 := Lib.hid (HC6.out.kept hg7)
  obtain ⟨AF', capF', hvF⟩ := owns_slice hr7.rowF
  obtain ⟨AL', capL', hvL⟩ := hr7.slice
  have HR7 := Lib.hid hr7
  have HvF := Lib.hid hvF
  have HvL := Lib.hid hvL
  clear c00 c01 c02 c03 l0 c10 c11 c12 c13 l1 c20 c21 c22 c23 l2 f20 f21 f22 f23 c30 c31 l3 hr7 hg7 hvF hvL
  obtain ⟨c20, c21, c22, c23, l2⟩ := cells4 HB27.out
  obtain ⟨f20, f21, f22, f23⟩ := free4 HB27.out
  rw [HvL.out, HvF.out]
  obtain ⟨S', HS'⟩ : ∃ S' : SI, Hid (S.set x v = S') := ⟨_, Lib.hid rfl⟩
  rw [HS'.out] at HR7 HC7 HvL HvF ⊢
  go_wp2
  have hf := fin_step (x := .int .i64 (S'.most : Int)) (y := .int .i64 (S'.c : Int)) (z := .slice AL' S'.L.length capL') (u := .slice AF' S'.fr.length capF') (w0 := w) HK7.out (by omega) HB27.out HR7.out HC7.out
  refine bodyPost_ret (results_ref4_1 rfl _ _ _ _ _ _ _ _ _ rfl hf.1) rfl ?_
  exact ⟨S', _, _, by unfold refVal; rw [HvL.out, HvF.out]; rfl, hf.2.2.1, hf.2.1, hf.2.2.2, .inr (.inr (.inr ⟨x, v, HS'.out.symm⟩))⟩
set_option maxHeartbeats 4000000 in
theorem step_none (hc : IsSlab w lo b S) (h : RefAt w 0 S vL vF) (kind p t v : Int) (hp : -2147483648 ≤ p ∧ p < 2147483648) (ht : 0 ≤ t ∧ t < 4294967296) (hk0 : ¬ kind = 0) (hk1 : ¬ kind = 1) (hk2 : ¬ kind = 2) (hk3 : ¬ kind = 3) (hk4 : ¬ kind = 4) :
    Calls Try.prog 10 #[.pointer (some ⟨b, 0, none⟩), refVal S vL vF, actV kind p t v] w (StepPost w lo b S) := by
  have hfa := hc.facts
  have h6 : S.L.length ≤ 65536 := by omega
  have hgd := hc.good
  have hf6 : S.fr.length ≤ 65536 := by have := hgd.fr_le; omega
  obtain ⟨AF, capF, rfl⟩ := owns_slice h.rowF
  obtain ⟨AL, capL, rfl⟩ := h.slice
  have c29 := fun w' (hg : w.grownBy w' none) => rstands_at (h.kept hg) h6 p t
  obtain ⟨bb, Hbb⟩ : ∃ bb, Hid ((S.names p t).isSome = bb) := ⟨_, Lib.hid rfl⟩
  rw [Hbb.out] at c29
  unfold refVal at c29
  have HRV : Hid (refVal S (.slice AL S.L.length capL) (.slice AF S.fr.length capF) = .agg #[.int .i64 (S.most : Int), .int .i64 (S.c : Int), .slice AL S.L.length capL, .slice AF S.fr.length capF]) := Lib.hid rfl
  rw [HRV.out]
  unfold actV
  have HC := Lib.hid hc
  have HR := Lib.hid h
  obtain ⟨len, Hlen⟩ : ∃ len, Hid (S.L.length = len) := ⟨_, Lib.hid rfl⟩
  obtain ⟨lF, HlF⟩ : ∃ lF, Hid (S.fr.length = lF) := ⟨_, Lib.hid rfl⟩
  have C29 := Lib.hid c29
  clear c29
  simp only [Hlen.out, HlF.out] at C29 HRV ⊢
  obtain ⟨hg0, hz0, b0, b1, b2, b3⟩ := alloc4 w (.cells #[.int .i64 (S.most : Int), .int .i64 (S.c : Int), .slice AL len capL, .slice AF lF capF] 32) (.cells #[.int .i64 kind, .int .i32 p, .int .u32 t, .int .i64 v] 37) (.cells #[.int .i64 0, .int .i64 0, .slice none 0 0, .slice none 0 0] 32) (.cells #[.int .i32 p, .int .u32 t] 35)
  have HB0 := Lib.hid b0
  have HB1 := Lib.hid b1
  have HB2 := Lib.hid b2
  have HB3 := Lib.hid b3
  have HG0 := Lib.hid hg0
  obtain ⟨c00, c01, c02, c03, l0⟩ := cells4 b0
  obtain ⟨c10, c11, c12, c13, l1⟩ := cells4 b1
  obtain ⟨c30, c31, l3⟩ := (⟨cell_of_head b3 0, cell_of_head b3 1, (Array.getElem?_eq_some_iff.1 b3).1⟩ : _ ∧ _ ∧ _)
  simp only [List.getElem?_toArray, List.getElem?_cons_zero, List.getElem?_cons_succ] at c30 c31
  have hwp : IntKind.i64.wrap p = p := by rw [IntKind.wrap_i64]; omega
  have hwt : IntKind.i64.wrap t = t := by rw [IntKind.wrap_i64]; omega
  have e0 : (kind == 0) = false := by simpa using hk0
  have e1 : (kind == 1) = false := by simpa using hk1
  have e2 : (kind == 2) = false := by simpa using hk2
  have e3 : (kind == 3) = false := by simpa using hk3
  have e4 : (kind == 4) = false := by simpa using hk4
  clear hg0 hz0 b0 b1 b2 b3 hc h hfa
  go_enter Try.func10, Try.ntmps10
  go_wp2_with fail
  generalize (((w.alloc (.cells #[.int .i64 (S.most : Int), .int .i64 (S.c : Int), .slice AL len capL, .slice AF lF capF] 32)).alloc (.cells #[.int .i64 kind, .int .i32 p, .int .u32 t, .int .i64 v] 37)).alloc (.cells #[.int .i64 0, .int .i64 0, .slice none 0 0, .slice none 0 0] 32)).alloc (.cells #[.int .i32 p, .int .u32 t] 35) = w4 at *
  refine (C29.out w4 HG0.out).mono ?_
  rintro e w5 ⟨rfl, hg5⟩
  have HB0a := Lib.hid (kept2 HB0.out hg5)
  have HB1a := Lib.hid (kept2 HB1.out hg5)
  have HB2a := Lib.hid (kept2 HB2.out hg5)
  have HB3a := Lib.hid (kept2 HB3.out hg5)
  have HG5 := Lib.hid (grown_trans HG0.out hg5)
  clear c00 c01 c02 c03 l0 c10 c11 c12 c13 l1 c30 c31 l3 hg5 HB0 HB1 HB2 HB3 HG0 C29
  obtain ⟨c00, c01, c02, c03, l0⟩ := cells4 HB0a.out
  obtain ⟨c10, c11, c12, c13, l1⟩ := cells4 HB1a.out
  obtain ⟨c30, c31, l3⟩ := (⟨cell_of_head HB3a.out 0, cell_of_head HB3a.out 1, (Array.getElem?_eq_some_iff.1 HB3a.out).1⟩ : _ ∧ _ ∧ _)
  simp only [List.getElem?_toArray, List.getElem?_cons_zero, List.getElem?_cons_succ] at c30 c31
  obtain ⟨c20, c21, c22, c23, l2⟩ := cells4 HB2a.out
  obtain ⟨f20, f21, f22, f23⟩ := free4 HB2a.out
  have HR5 : Hid (RefAt w5 0 S (.slice AL len capL) (.slice AF lF capF)) := Lib.hid (by have := HR.out.kept HG5.out; rw [Hlen.out, HlF.out] at this; exact this)
  go_wp2
  have hf := fin_step (x := .int .i64 (S.most : Int)) (y := .int .i64 (S.c : Int)) (z := .slice AL len capL) (u := .slice AF lF capF) (w0 := w) (Keep.of_new HG5.out) (by omega) HB2a.out HR5.out (HC.out.kept HG5.out)
  refine bodyPost_ret (results_ref4_1 rfl _ _ _ _ _ _ _ _ _ rfl hf.1) rfl ?_
  exact ⟨S, _, _, by rw [HRV.out]; rfl, hf.2.2.1, hf.2.1, hf.2.2.2, .inl rfl⟩
end
end Go.Proofs.Ytoopfoapkbjdkaa
