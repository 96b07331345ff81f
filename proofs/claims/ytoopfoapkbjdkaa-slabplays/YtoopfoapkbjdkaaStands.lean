/-
  The law's look at a handle: it is the document's.
-/
import Derived.Test.YtoopfoapkbjdkaaRefE
import Derived.BigQuiet
import Derived.Deep.QuietTactic
namespace Go.Proofs.Ytoopfoapkbjdkaa
open Go.ChangeShapes Go.WideShapes Go.ChangeAt Go.RowKit
set_option linter.unusedVariables false
set_option maxRecDepth 100000

theorem cells2 {w : World} {B : Nat} {x y : Value} {t : TypeId} (h : w.heap[B]? = some (.cells #[x, y] t (0, 0))) : w.cell? ⟨B, 0, none⟩ = some x ∧ w.cell? ⟨B, 1, none⟩ = some y ∧ B < w.heap.size :=
  ⟨cell_of_head h 0, cell_of_head h 1, (Array.getElem?_eq_some_iff.1 h).1⟩
section
variable {w w' : World} {lo b : Nat} {S : SI} {vL vF : Value}
set_option maxHeartbeats 4000000 in
theorem stands_is (hc : IsSlab w lo b S) (h : RefAt w 0 S vL vF) {x : Nat} {t : Int} {s : Spot Int} (hx : (x : Int) < 2147483648) (ht : 0 ≤ t ∧ t < 4294967296) (hs : S.L[x]? = some s) (hst : s.stands = true) (htn : (s.turn : Int) = t) :
    Calls Try.prog 11 #[.pointer (some ⟨b, 0, none⟩), refVal S vL vF, .agg #[.int .i32 (x : Int), .int .u32 t]] w fun e w' => e = .returned (.bool true) ∧ w.grownBy w' none := by
  have hfa := hc.facts
  have h6 : S.L.length ≤ 65536 := by omega
  have hnode : S.node (x : Int) = some s := node_some.2 ⟨by omega, by simpa using hs, hst⟩
  have hnm : S.names (x : Int) t = some s := names_some.2 ⟨hnode, htn⟩
  obtain ⟨AF, capF, rfl⟩ := owns_slice h.rowF
  obtain ⟨g, capL, rfl, hgl, d0, d1, d2⟩ := h.cell hs
  obtain ⟨hg0, hz0, b0, b1⟩ := alloc2 w (.cells #[.int .i64 (S.most : Int), .int .i64 (S.c : Int), .slice (some ⟨g, 0, none⟩) S.L.length capL, .slice AF S.fr.length capF] 32) (.cells #[.int .i32 (x : Int), .int .u32 t] 35)
  have hl := List.getElem?_eq_some_iff.1 hs |>.1
  have hlen : S.len ≤ 65536 := Nat.le_trans (by unfold Slb.len; exact List.countP_le_length) h6
  have c15 := fun w' (hg : w.grownBy w' none) => get_is (hc.kept hg) (p := (x : Int)) (t := t) ⟨by omega, hx⟩ ht.1
  have c16 := fun w' (hg : w.grownBy w' none) => at_is (hc.kept hg) (p := (x : Int)) ⟨by omega, hx⟩
  have c29 := fun w' (hg : w.grownBy w' none) => rstands_at (h.kept hg) h6 (x : Int) t
  have c33 := fun w' (hg : w.grownBy w' none) => rlen_at (h.kept hg) h6
  have c26 := fun w' (hg : w.grownBy w' none) => len_is (hc.kept hg)
  have c27 := fun w' (hg : w.grownBy w' none) => room_is (hc.kept hg)
  have hlm : S.len ≤ S.most := by have : S.len ≤ S.L.length := (by unfold Slb.len; exact List.countP_le_length); omega
  obtain ⟨R, HRR⟩ : ∃ R : Int, Hid (((S.most - S.len : Nat) : Int) = R) := ⟨_, Lib.hid rfl⟩
  have hwR : IntKind.i64.wrap ((S.most : Int) - (S.len : Int)) = R := by rw [← HRR.out, IntKind.wrap_i64]; omega
  have q5 : (R == R) = true := by simp
  have c28 := fun w' (hg : w.grownBy w' none) => chunks_is (hc.kept hg)
  have c34 := fun w' (hg : w.grownBy w' none) => rchunks_at (h.kept hg) h6 (by omega) (by omega)
  rw [HRR.out] at c27
  obtain ⟨K, HK⟩ : ∃ K : Nat, Hid (nch S.c S.L.length = K) := ⟨_, Lib.hid rfl⟩
  rw [HK.out] at c28 c34
  have q6 : ((K : Int) == (K : Int)) = true := by simp
  unfold hdl at c15
  rw [hnm] at c15 c29
  rw [hnode] at c16
  unfold hdlOf hdl at c16
  simp only [Option.isSome_some] at c15 c16 c29
  unfold refVal at c29 c33 c34 ⊢
  have C15 := Lib.hid c15
  have C16 := Lib.hid c16
  have C29 := Lib.hid c29
  have C33 := Lib.hid c33
  have C26 := Lib.hid c26
  have C27 := Lib.hid c27
  have C28 := Lib.hid c28
  have C34 := Lib.hid c34
  have HD0 := Lib.hid d0
  have HD1 := Lib.hid d1
  have HD2 := Lib.hid d2
  have q1 : (s.has != s.has) = false := by simp
  have q2 : ((s.turn : Int) != (s.turn : Int)) = false := by simp
  have q3 : ((x : Int) != (x : Int)) = false := by simp
  have q4 : ((S.len : Int) == (S.len : Int)) = true := by simp
  clear d0 d1 d2
  have HH := Lib.hid h
  have Hs := Lib.hid hs
  have HB0 := Lib.hid b0
  have HB1 := Lib.hid b1
  have HG0 := Lib.hid hg0
  obtain ⟨len, Hlen⟩ : ∃ len, Hid (S.L.length = len) := ⟨_, Lib.hid rfl⟩
  obtain ⟨lF, HlF⟩ : ∃ lF, Hid (S.fr.length = lF) := ⟨_, Lib.hid rfl⟩
  simp only [Hlen.out, HlF.out] at C29 C33 C34 C28 HB0 HB1 HG0 hl h6 ⊢
  clear c15 c16 c29 c33 c26 c27 c28 c34 hc h b0 b1 hg0 hz0 hs hnode hnm
  obtain ⟨c00, c01, c02, c03, l0⟩ := cells4 HB0.out
  obtain ⟨c10, c11, l1⟩ := cells2 HB1.out
  go_enter Try.func11, Try.ntmps11
  go_wp2_with fail
  generalize ((w.alloc (.cells #[.int .i64 (S.most : Int), .int .i64 (S.c : Int), .slice (some ⟨g, 0, none⟩) len capL, .slice AF lF capF] 32)).alloc (.cells #[.int .i32 (x : Int), .int .u32 t] 35)) = w0 at *
  refine (C15.out w0 HG0.out).mono ?_
  rintro e w1 ⟨rfl, hg1⟩
  have HB0a := Lib.hid (kept2 HB0.out hg1)
  have HB1a := Lib.hid (kept2 HB1.out hg1)
  have HG1 := Lib.hid (grown_trans HG0.out hg1)
  clear c00 c01 c02 c03 l0 c10 c11 l1 hg1 HB0 HB1 HG0 C15
  obtain ⟨c00, c01, c02, c03, l0⟩ := cells4 HB0a.out
  obtain ⟨c10, c11, l1⟩ := cells2 HB1a.out
  go_wp2_with fail
  refine (C29.out w1 HG1.out).mono ?_
  rintro e w2 ⟨rfl, hg1⟩
  have HB0b := Lib.hid (kept2 HB0a.out hg1)
  have HB1b := Lib.hid (kept2 HB1a.out hg1)
  have HG2 := Lib.hid (grown_trans HG1.out hg1)
  clear c00 c01 c02 c03 l0 c10 c11 l1 hg1 HB0a HB1a HG1 C29
  obtain ⟨c00, c01, c02, c03, l0⟩ := cells4 HB0b.out
  obtain ⟨c10, c11, l1⟩ := cells2 HB1b.out
  have d0 := HG2.out.cell HD0.out (by simp)
  have d1 := HG2.out.cell HD1.out (by simp)
  have d2 := HG2.out.cell HD2.out (by simp)
  have hxI : (x : Int) < (len : Int) := by omega
  rw [hst] at d1 HD1
  go_wp2_with fail
  refine (C16.out w2 HG2.out).mono ?_
  rintro e w3 ⟨rfl, hg1⟩
  have hga := World.grownBy_alloc w3 (.cells #[.int .i32 (x : Int), .int .u32 (s.turn : Int)] 35) none
  have HB0c := Lib.hid (kept2 HB0b.out (grown_trans hg1 hga))
  have HB1c := Lib.hid (kept2 HB1b.out (grown_trans hg1 hga))
  have HB2c := Lib.hid (heap_alloc_new w3 (.cells #[.int .i32 (x : Int), .int .u32 (s.turn : Int)] 35))
  have HG3 := Lib.hid (grown_trans HG2.out hg1)
  have HG4 := Lib.hid (grown_trans (grown_trans HG2.out hg1) hga)
  clear c00 c01 c02 c03 l0 c10 c11 l1 hg1 hga HB0b HB1b HG2 C16 d0 d1 d2
  obtain ⟨B2, HBe⟩ : ∃ B2, Hid (w3.heap.size = B2) := ⟨_, Lib.hid rfl⟩
  rw [HBe.out] at HB2c
  have hst' := Lib.hid hst
  have htn' := Lib.hid htn
  have htl : s.turn < 4294967296 := by omega
  have hwt : IntKind.i64.wrap (s.turn : Int) = (s.turn : Int) := by rw [IntKind.wrap_i64]; omega
  have hwx : IntKind.i64.wrap (x : Int) = (x : Int) := by rw [IntKind.wrap_i64]; omega
  clear hst htn
  obtain ⟨c00, c01, c02, c03, l0⟩ := cells4 HB0c.out
  obtain ⟨c10, c11, l1⟩ := cells2 HB1c.out
  obtain ⟨c20, c21, l2⟩ := cells2 HB2c.out
  have d0 := HG4.out.cell HD0.out (by simp)
  have d1 := HG4.out.cell HD1.out (by simp)
  have d2 := HG4.out.cell HD2.out (by simp)
  go_wp2_with fail
  rw [HBe.out]
  generalize w3.alloc (.cells #[.int .i32 (x : Int), .int .u32 (s.turn : Int)] 35) = w4 at *
  go_quiet (fail)
  clear c00 c01 c02 c03 l0 c10 c11 l1 c20 c21 l2 d0 d1 d2
  have HB05 := Lib.hid (kept2 HB0c.out (grown_drewN w4 nq none))
  have HG5 := Lib.hid (grown_trans HG4.out (grown_drewN w4 nq none))
  generalize w4.drewN nq = w5 at *
  obtain ⟨c00, c01, c02, c03, l0⟩ := cells4 HB05.out
  go_wp2_with fail
  refine (C33.out w5 HG5.out).mono ?_
  rintro e w6 ⟨rfl, hw6⟩
  have hg6 : w5.grownBy w6 none := by rw [hw6]; exact World.grownBy_alloc _ _ none
  have HB06 := Lib.hid (kept2 HB05.out hg6)
  have HG6 := Lib.hid (grown_trans HG5.out hg6)
  have HB07 := Lib.hid (kept2 HB06.out (grown_drewN w6 1 none))
  have HG7 := Lib.hid (grown_trans HG6.out (grown_drewN w6 1 none))
  clear c00 c01 c02 c03 l0 hw6 hg6 C33 HB05 HG5 HB0c HB1c HB2c
  obtain ⟨c00, c01, c02, c03, l0⟩ := cells4 HB06.out
  go_wp2_with fail
  go_region_held3 (fun w' => w'.cell? ⟨w.heap.size, 0, none⟩ = some (.int .i64 (S.most : Int)) ∧ w'.cell? ⟨w.heap.size, 1, none⟩ = some (.int .i64 (S.c : Int)) ∧ w'.cell? ⟨w.heap.size, 2, none⟩ = some (.slice (some ⟨g, 0, none⟩) len capL) ∧ w'.cell? ⟨w.heap.size, 3, none⟩ = some (.slice AF lF capF)) (first | exact ⟨c00, c01, c02, c03⟩ | exact ⟨a00, a01, a02, a03⟩ | exact ⟨b00, b01, b02, b03⟩ | exact ⟨e00, e01, e02, e03⟩ | go_keep)
    (first | (go_at_call 26; refine (C26.out _ HG7.out).mono ?_; rintro e wa ⟨rfl, qa, hqa⟩; have hga2 : (w6.drewN 1).grownBy wa none := (by rw [hqa]; exact grown_drewN _ qa none); have HGa := Lib.hid (grown_trans HG7.out hga2); have HBa := Lib.hid (kept2 HB07.out hga2); clear hga2; obtain ⟨a00, a01, a02, a03, _⟩ := cells4 HBa.out; clear hqa) | (go_at_call 27; refine (C27.out wa HGa.out).mono ?_; rintro e wb ⟨rfl, qb, hqb⟩; have hgb2 : wa.grownBy wb none := (by rw [hqb]; exact grown_drewN _ qb none); have HGb := Lib.hid (grown_trans HGa.out hgb2); have HBb := Lib.hid (kept2 HBa.out hgb2); clear hgb2; obtain ⟨b00, b01, b02, b03, _⟩ := cells4 HBb.out; clear hqb) | (go_at_call 28; refine (C28.out wb HGb.out).mono ?_; rintro e w' ⟨rfl, rfl⟩) | (go_at_call 28; refine (C28.out wc HGc.out).mono ?_; rintro e w' ⟨rfl, rfl⟩) | (go_at_call 34; refine (C34.out wb HGb.out).mono ?_; rintro e wc ⟨rfl, hgc⟩; have HGc := Lib.hid (grown_trans HGb.out hgc); have HBc := Lib.hid (kept2 HBb.out hgc); obtain ⟨e00, e01, e02, e03, _⟩ := cells4 HBc.out; clear hgc))
  go_wp2
  go_ret
  exact ⟨rfl, HGc.out⟩
set_option maxHeartbeats 4000000 in
theorem stands_old (hc : IsSlab w lo b S) (h : RefAt w 0 S vL vF) {x : Nat} {t : Int} {s : Spot Int} (hx : (x : Int) < 2147483648) (ht : 0 ≤ t ∧ t < 4294967296) (hs : S.L[x]? = some s) (hst : s.stands = true) (htn : ¬ (s.turn : Int) = t) (htl0 : s.turn < 4294967296) :
    Calls Try.prog 11 #[.pointer (some ⟨b, 0, none⟩), refVal S vL vF, .agg #[.int .i32 (x : Int), .int .u32 t]] w fun e w' => e = .returned (.bool true) ∧ w.grownBy w' none := by
  have hfa := hc.facts
  have h6 : S.L.length ≤ 65536 := by omega
  have hnode : S.node (x : Int) = some s := node_some.2 ⟨by omega, by simpa using hs, hst⟩
  have hnm : S.names (x : Int) t = none := by
    cases hh : S.names (x : Int) t with
    | none => rfl
    | some s' =>
      obtain ⟨h1, h2⟩ := names_some.1 hh
      rw [hnode] at h1
      cases h1
      exact absurd h2 htn
  obtain ⟨AF, capF, rfl⟩ := owns_slice h.rowF
  obtain ⟨g, capL, rfl, hgl, d0, d1, d2⟩ := h.cell hs
  obtain ⟨hg0, hz0, b0, b1⟩ := alloc2 w (.cells #[.int .i64 (S.most : Int), .int .i64 (S.c : Int), .slice (some ⟨g, 0, none⟩) S.L.length capL, .slice AF S.fr.length capF] 32) (.cells #[.int .i32 (x : Int), .int .u32 t] 35)
  have hl := List.getElem?_eq_some_iff.1 hs |>.1
  have hlen : S.len ≤ 65536 := Nat.le_trans (by unfold Slb.len; exact List.countP_le_length) h6
  have c15 := fun w' (hg : w.grownBy w' none) => get_is (hc.kept hg) (p := (x : Int)) (t := t) ⟨by omega, hx⟩ ht.1
  have c16 := fun w' (hg : w.grownBy w' none) => at_is (hc.kept hg) (p := (x : Int)) ⟨by omega, hx⟩
  have c29 := fun w' (hg : w.grownBy w' none) => rstands_at (h.kept hg) h6 (x : Int) t
  have c33 := fun w' (hg : w.grownBy w' none) => rlen_at (h.kept hg) h6
  have c26 := fun w' (hg : w.grownBy w' none) => len_is (hc.kept hg)
  have c27 := fun w' (hg : w.grownBy w' none) => room_is (hc.kept hg)
  have hlm : S.len ≤ S.most := by have : S.len ≤ S.L.length := (by unfold Slb.len; exact List.countP_le_length); omega
  obtain ⟨R, HRR⟩ : ∃ R : Int, Hid (((S.most - S.len : Nat) : Int) = R) := ⟨_, Lib.hid rfl⟩
  have hwR : IntKind.i64.wrap ((S.most : Int) - (S.len : Int)) = R := by rw [← HRR.out, IntKind.wrap_i64]; omega
  have q5 : (R == R) = true := by simp
  have c28 := fun w' (hg : w.grownBy w' none) => chunks_is (hc.kept hg)
  have c34 := fun w' (hg : w.grownBy w' none) => rchunks_at (h.kept hg) h6 (by omega) (by omega)
  rw [HRR.out] at c27
  obtain ⟨K, HK⟩ : ∃ K : Nat, Hid (nch S.c S.L.length = K) := ⟨_, Lib.hid rfl⟩
  rw [HK.out] at c28 c34
  have q6 : ((K : Int) == (K : Int)) = true := by simp
  unfold hdl at c15
  rw [hnm] at c15 c29
  rw [hnode] at c16
  unfold hdlOf hdl at c16
  simp only [Option.isSome_some, Option.isSome_none] at c15 c16 c29
  unfold refVal at c29 c33 c34 ⊢
  have C15 := Lib.hid c15
  have C16 := Lib.hid c16
  have C29 := Lib.hid c29
  have C33 := Lib.hid c33
  have C26 := Lib.hid c26
  have C27 := Lib.hid c27
  have C28 := Lib.hid c28
  have C34 := Lib.hid c34
  have HD0 := Lib.hid d0
  have HD1 := Lib.hid d1
  have HD2 := Lib.hid d2
  have q1 : (s.has != s.has) = false := by simp
  have q2 : ((s.turn : Int) != (s.turn : Int)) = false := by simp
  have q3 : ((x : Int) != (x : Int)) = false := by simp
  have q4 : ((S.len : Int) == (S.len : Int)) = true := by simp
  clear d0 d1 d2
  have HH := Lib.hid h
  have Hs := Lib.hid hs
  have HB0 := Lib.hid b0
  have HB1 := Lib.hid b1
  have HG0 := Lib.hid hg0
  obtain ⟨len, Hlen⟩ : ∃ len, Hid (S.L.length = len) := ⟨_, Lib.hid rfl⟩
  obtain ⟨lF, HlF⟩ : ∃ lF, Hid (S.fr.length = lF) := ⟨_, Lib.hid rfl⟩
  simp only [Hlen.out, HlF.out] at C29 C33 C34 C28 HB0 HB1 HG0 hl h6 ⊢
  clear c15 c16 c29 c33 c26 c27 c28 c34 hc h b0 b1 hg0 hz0 hs hnode hnm
  obtain ⟨c00, c01, c02, c03, l0⟩ := cells4 HB0.out
  obtain ⟨c10, c11, l1⟩ := cells2 HB1.out
  go_enter Try.func11, Try.ntmps11
  go_wp2_with fail
  generalize ((w.alloc (.cells #[.int .i64 (S.most : Int), .int .i64 (S.c : Int), .slice (some ⟨g, 0, none⟩) len capL, .slice AF lF capF] 32)).alloc (.cells #[.int .i32 (x : Int), .int .u32 t] 35)) = w0 at *
  refine (C15.out w0 HG0.out).mono ?_
  rintro e w1 ⟨rfl, hg1⟩
  have HB0a := Lib.hid (kept2 HB0.out hg1)
  have HB1a := Lib.hid (kept2 HB1.out hg1)
  have HG1 := Lib.hid (grown_trans HG0.out hg1)
  clear c00 c01 c02 c03 l0 c10 c11 l1 hg1 HB0 HB1 HG0 C15
  obtain ⟨c00, c01, c02, c03, l0⟩ := cells4 HB0a.out
  obtain ⟨c10, c11, l1⟩ := cells2 HB1a.out
  go_wp2_with fail
  refine (C29.out w1 HG1.out).mono ?_
  rintro e w2 ⟨rfl, hg1⟩
  have HB0b := Lib.hid (kept2 HB0a.out hg1)
  have HB1b := Lib.hid (kept2 HB1a.out hg1)
  have HG2 := Lib.hid (grown_trans HG1.out hg1)
  clear c00 c01 c02 c03 l0 c10 c11 l1 hg1 HB0a HB1a HG1 C29
  obtain ⟨c00, c01, c02, c03, l0⟩ := cells4 HB0b.out
  obtain ⟨c10, c11, l1⟩ := cells2 HB1b.out
  have d0 := HG2.out.cell HD0.out (by simp)
  have d1 := HG2.out.cell HD1.out (by simp)
  have d2 := HG2.out.cell HD2.out (by simp)
  have hxI : (x : Int) < (len : Int) := by omega
  rw [hst] at d1 HD1
  go_wp2_with fail
  refine (C16.out w2 HG2.out).mono ?_
  rintro e w3 ⟨rfl, hg1⟩
  have hga := World.grownBy_alloc w3 (.cells #[.int .i32 (x : Int), .int .u32 (s.turn : Int)] 35) none
  have HB0c := Lib.hid (kept2 HB0b.out (grown_trans hg1 hga))
  have HB1c := Lib.hid (kept2 HB1b.out (grown_trans hg1 hga))
  have HB2c := Lib.hid (heap_alloc_new w3 (.cells #[.int .i32 (x : Int), .int .u32 (s.turn : Int)] 35))
  have HG3 := Lib.hid (grown_trans HG2.out hg1)
  have HG4 := Lib.hid (grown_trans (grown_trans HG2.out hg1) hga)
  clear c00 c01 c02 c03 l0 c10 c11 l1 hg1 hga HB0b HB1b HG2 C16 d0 d1 d2
  obtain ⟨B2, HBe⟩ : ∃ B2, Hid (w3.heap.size = B2) := ⟨_, Lib.hid rfl⟩
  rw [HBe.out] at HB2c
  have hst' := Lib.hid hst
  have htn' := Lib.hid htn
  have htl : s.turn < 4294967296 := htl0
  have hwt : IntKind.i64.wrap (s.turn : Int) = (s.turn : Int) := by rw [IntKind.wrap_i64]; omega
  have hwx : IntKind.i64.wrap (x : Int) = (x : Int) := by rw [IntKind.wrap_i64]; omega
  clear hst htn
  obtain ⟨c00, c01, c02, c03, l0⟩ := cells4 HB0c.out
  obtain ⟨c10, c11, l1⟩ := cells2 HB1c.out
  obtain ⟨c20, c21, l2⟩ := cells2 HB2c.out
  have d0 := HG4.out.cell HD0.out (by simp)
  have d1 := HG4.out.cell HD1.out (by simp)
  have d2 := HG4.out.cell HD2.out (by simp)
  go_wp2_with fail
  rw [HBe.out]
  generalize w3.alloc (.cells #[.int .i32 (x : Int), .int .u32 (s.turn : Int)] 35) = w4 at *
  go_quiet (fail)
  clear c00 c01 c02 c03 l0 c10 c11 l1 c20 c21 l2 d0 d1 d2
  have HB05 := Lib.hid (kept2 HB0c.out (grown_drewN w4 nq none))
  have HG5 := Lib.hid (grown_trans HG4.out (grown_drewN w4 nq none))
  generalize w4.drewN nq = w5 at *
  obtain ⟨c00, c01, c02, c03, l0⟩ := cells4 HB05.out
  go_wp2_with fail
  refine (C33.out w5 HG5.out).mono ?_
  rintro e w6 ⟨rfl, hw6⟩
  have hg6 : w5.grownBy w6 none := by rw [hw6]; exact World.grownBy_alloc _ _ none
  have HB06 := Lib.hid (kept2 HB05.out hg6)
  have HG6 := Lib.hid (grown_trans HG5.out hg6)
  have HB07 := Lib.hid (kept2 HB06.out (grown_drewN w6 1 none))
  have HG7 := Lib.hid (grown_trans HG6.out (grown_drewN w6 1 none))
  clear c00 c01 c02 c03 l0 hw6 hg6 C33 HB05 HG5 HB0c HB1c HB2c
  obtain ⟨c00, c01, c02, c03, l0⟩ := cells4 HB06.out
  go_wp2_with fail
  go_region_held3 (fun w' => w'.cell? ⟨w.heap.size, 0, none⟩ = some (.int .i64 (S.most : Int)) ∧ w'.cell? ⟨w.heap.size, 1, none⟩ = some (.int .i64 (S.c : Int)) ∧ w'.cell? ⟨w.heap.size, 2, none⟩ = some (.slice (some ⟨g, 0, none⟩) len capL) ∧ w'.cell? ⟨w.heap.size, 3, none⟩ = some (.slice AF lF capF)) (first | exact ⟨c00, c01, c02, c03⟩ | exact ⟨a00, a01, a02, a03⟩ | exact ⟨b00, b01, b02, b03⟩ | exact ⟨e00, e01, e02, e03⟩ | go_keep)
    (first | (go_at_call 26; refine (C26.out _ HG7.out).mono ?_; rintro e wa ⟨rfl, qa, hqa⟩; have hga2 : (w6.drewN 1).grownBy wa none := (by rw [hqa]; exact grown_drewN _ qa none); have HGa := Lib.hid (grown_trans HG7.out hga2); have HBa := Lib.hid (kept2 HB07.out hga2); clear hga2; obtain ⟨a00, a01, a02, a03, _⟩ := cells4 HBa.out; clear hqa) | (go_at_call 27; refine (C27.out wa HGa.out).mono ?_; rintro e wb ⟨rfl, qb, hqb⟩; have hgb2 : wa.grownBy wb none := (by rw [hqb]; exact grown_drewN _ qb none); have HGb := Lib.hid (grown_trans HGa.out hgb2); have HBb := Lib.hid (kept2 HBa.out hgb2); clear hgb2; obtain ⟨b00, b01, b02, b03, _⟩ := cells4 HBb.out; clear hqb) | (go_at_call 28; refine (C28.out wb HGb.out).mono ?_; rintro e w' ⟨rfl, rfl⟩) | (go_at_call 28; refine (C28.out wc HGc.out).mono ?_; rintro e w' ⟨rfl, rfl⟩) | (go_at_call 34; refine (C34.out wb HGb.out).mono ?_; rintro e wc ⟨rfl, hgc⟩; have HGc := Lib.hid (grown_trans HGb.out hgc); have HBc := Lib.hid (kept2 HBb.out hgc); obtain ⟨e00, e01, e02, e03, _⟩ := cells4 HBc.out; clear hgc))
  go_wp2
  go_ret
  exact ⟨rfl, HGc.out⟩
end
end Go.Proofs.Ytoopfoapkbjdkaa
