/-
  The document's Add.
-/
import Derived.Test.YthgecgehelnadaaDoorAdd
namespace Go.Proofs.YthgecgehelnadaaDoor
open Go.Shelf Go.RowKit Go.Sort
open Go.Lib hiding intOf
set_option linter.unusedVariables false
theorem rlist_some (c : List Int) (hc : c.length = 10) (w : World) : Calls Tryd.prog 13 #[cv c] w fun e w' => ∃ g, e = .returned (.slice (some ⟨g, 0, none⟩) 10 10) ∧ URow w' g c ∧ w.heap.size ≤ g ∧ Below w.heap.size w w' :=
  (rlist_at c hc w).mono fun e w' ⟨h1, h2, h3⟩ => ⟨_, h1, h2, by omega, h3⟩
set_option maxHeartbeats 1000000 in
set_option maxRecDepth 100000 in
theorem radd_at (a b : List Int) (ha : a.length = 10) (hb : b.length = 10) (w : World) : Calls Tryd.prog 16 #[cv a, cv b] w fun e w' => e = .returned (cv (List.zipWith addf a b)) ∧ Below w.heap.size w w' := by
  have hA := row_alloc w a
  have b1 := (Below.refl w.heap.size w).alloc (Nat.le_refl _) (.cells (ca a) 24)
  have b2 := (Below.refl (w.alloc (.cells (ca a) 24)).heap.size (w.alloc (.cells (ca a) 24))).alloc (Nat.le_refl _) (.cells (ca b) 24)
  have hB := row_alloc (w.alloc (.cells (ca a) 24)) b
  have b3 := (Below.refl ((w.alloc (.cells (ca a) 24)).alloc (.cells (ca b) 24)).heap.size ((w.alloc (.cells (ca a) 24)).alloc (.cells (ca b) 24))).alloc (Nat.le_refl _) (.cells (ca zs) 24)
  have hZ := row_alloc ((w.alloc (.cells (ca a) 24)).alloc (.cells (ca b) 24)) zs
  have hA3 := (hA.kept b2 hA.lt).kept b3 (hA.kept b2 hA.lt).lt
  have hB3 := hB.kept b3 hB.lt
  have hs3 : (((w.alloc (.cells (ca a) 24)).alloc (.cells (ca b) 24)).alloc (.cells (ca zs) 24)).heap.size = w.heap.size + 3 := by simp only [World.size_alloc]
  have q3 := (b1.trans (b2.mono b1.size)).trans (b3.mono (b1.trans (b2.mono b1.size)).size)
  obtain ⟨w3, hw3⟩ : ∃ w3, w3 = ((w.alloc (.cells (ca a) 24)).alloc (.cells (ca b) 24)).alloc (.cells (ca zs) 24) := ⟨_, rfl⟩
  rw [← hw3] at hA3 hB3 hZ q3 hs3
  simp only [World.size_alloc] at hB3 hZ
  have HW := Lib.hid hw3
  have H3 := Lib.hid (And.intro hA3 (And.intro hB3 (And.intro hZ q3)))
  have HL := Lib.hid (And.intro ha hb)
  have HS := Lib.hid hs3
  clear hA b1 b2 hB b3 hZ hA3 hB3 hs3 q3 hw3 ha hb
  go_enter Tryd.func16, Tryd.ntmps16
  go_wp2_with (first | fail | (rw [show ((w.alloc (.cells (ca a) 24)).alloc (.cells (ca b) 24)).alloc (.cells #[.int .u64 0, .int .u64 0, .int .u64 0, .int .u64 0, .int .u64 0, .int .u64 0, .int .u64 0, .int .u64 0, .int .u64 0, .int .u64 0] 24) = w3 from HW.out.symm]; refine ld24 rfl (.tmp 2) rfl _ rfl _ H3.out.1 HL.out.1 ?_))
  refine (rlist_some a HL.out.1 _).mono ?_
  rintro e w4 ⟨g1, rfl, hX4, hg1, hb4⟩
  obtain ⟨hA3, hB3, hZ3, q3⟩ := H3.out
  have hB4 := hB3.kept hb4 hB3.lt
  have hZ4 := hZ3.kept hb4 hZ3.lt
  have q4 := q3.trans (hb4.mono q3.size)
  rw [HS.out] at hg1
  have H4 := Lib.hid (And.intro hX4 (And.intro hB4 (And.intro hZ4 q4)))
  have HG1 := Lib.hid hg1
  clear hb4 hA3 hB3 hZ3 q3 hX4 hB4 hZ4 q4 hg1 H3 HS HW
  go_wp2_with (first | fail | refine ld24 rfl (.tmp 3) rfl _ rfl _ H4.out.2.1 HL.out.2 ?_)
  refine (rlist_some b HL.out.2 _).mono ?_
  rintro e w5 ⟨g2, rfl, hY5, hg2, hb5⟩
  obtain ⟨hX4, hB4, hZ4, q4⟩ := H4.out
  have hX5 := hX4.kept hb5 hX4.lt
  have hZ5 := hZ4.kept hb5 hZ4.lt
  have q5 := q4.trans (hb5.mono q4.size)
  have hg12 : g1 < g2 := by have := hX4.lt; omega
  have H5 := Lib.hid (And.intro hX5 (And.intro hY5 (And.intro hZ5 q5)))
  have HG2 := Lib.hid hg12
  clear hb5 hX4 hB4 hZ4 q4 hX5 hY5 hZ5 q5 hg2 hg12 H4
  go_wp2_with fail
  go_loopw [7] (fun i wr => ∃ k : Nat, k ≤ 10 ∧ i = .int .i64 (k : Int) ∧ Hid (URow wr g1 (mx addf a b k) ∧ URow wr g2 b ∧ RowAt wr (w.heap.size + 1 + 1) zs ∧ Below w.heap.size w wr)) (fun i _ => 10 - (intOf i).toNat)
  case atStart => exact ⟨0, by omega, by go_num, by rw [mx_zero]; exact H5⟩
  case round =>
    obtain ⟨k, hk, rfl, HR⟩ := hrel
    by_cases hlt : k < 10
    · go_wp2_with fail
      refine region_tail 12 (by kernel_rfl) (by kernel_rfl) ?_
      intro w7 hw7
      obtain ⟨hX, hY, hZ, q⟩ := HR.out
      have hb7 : Below wr.heap.size wr w7 := by rw [hw7]; exact below_drew (Below.refl _ _) 1
      have hX7 := hX.kept hb7 hX.lt
      have hY7 := hY.kept hb7 hY.lt
      have hZ7 := hZ.kept hb7 hZ.lt
      have q7 := q.trans (hb7.mono q.size)
      obtain ⟨ha, hb⟩ := HL.out
      have hml := mx_len addf a b (by omega) k (by omega)
      have c2 := hX7.cell k (by omega)
      rw [mx_get addf a b (by omega) k (by omega)] at c2
      have f2 := hX7.free k
      have c3 := hY7.cell k (by omega)
      have hX8 := hX7.set k (addf (a[k]'(by omega)) (b[k]'(by omega)))
      rw [← mx_succ addf a b (by omega) k (by omega)] at hX8
      have hY8 := hY7.other (p := ⟨g1, k, none⟩) (v := .int .u64 (addf (a[k]'(by omega)) (b[k]'(by omega)))) (by have := HG2.out; simp; omega)
      have hZ8 := hZ7.cellOther (p := ⟨g1, k, none⟩) (v := .int .u64 (addf (a[k]'(by omega)) (b[k]'(by omega)))) (by have := HG1.out; simp; omega)
      have q8 := q7.setCell (p := ⟨g1, k, none⟩) (by have := HG1.out; show w.heap.size ≤ g1; omega) (.int .u64 (addf (a[k]'(by omega)) (b[k]'(by omega))))
      obtain ⟨x, hx⟩ : ∃ x, x = a[k]'(by omega) := ⟨_, rfl⟩
      obtain ⟨y, hy⟩ : ∃ y, y = b[k]'(by omega) := ⟨_, rfl⟩
      rw [← hx, ← hy] at hX8 hY8 hZ8 q8
      rw [← hx] at c2
      rw [← hy] at c3
      have H8 := Lib.hid (And.intro hX8 (And.intro hY8 (And.intro hZ8 q8)))
      clear hX hY hZ q hb7 hX7 hY7 hZ7 q7 ha hb hml hX8 hY8 hZ8 q8 hx hy hw7 H5 HR
      simp only [List.take_succ_cons, List.take_zero, List.drop_succ_cons, List.drop_zero]
      repeat still_step
      refine wpStill_nil ?_
      go_wp2
      go_round
      case rel => exact ⟨k + 1, by omega, by go_num, H8⟩
      case measure => simp only [intOf]; omega
    · obtain rfl : k = 10 := by omega
      obtain ⟨hX, hY, hZ, q⟩ := HR.out
      obtain ⟨ha, hb⟩ := HL.out
      have e10 : mx addf a b 10 = List.zipWith addf a b := by rw [← ha]; exact mx_all addf a b (by omega)
      rw [e10] at hX
      have HR2 := Lib.hid (And.intro hX (And.intro hZ q))
      have HC : Hid ((List.zipWith addf a b).length = 10) := Lib.hid (by simp [ha, hb])
      clear hX hY hZ q ha hb e10 HR H5
      go_wp2_with fail
      refine (rof_at _ HC.out g1 10 (by omega) _ HR2.out.1.ten).mono ?_
      rintro e w8 ⟨rfl, hb8⟩
      have hZ8 := HR2.out.2.1.kept hb8 HR2.out.2.1.lt
      have q8 := HR2.out.2.2.trans (hb8.mono HR2.out.2.2.size)
      have H8 := Lib.hid (And.intro hZ8 q8)
      clear hb8 hZ8 q8 HR2
      go_wp2_with (refine st24 rfl (.tmp 4) (.tmp 31) rfl _ _ rfl rfl _ H8.out.1 rfl HC.out ?_)
      refine bodyPost_ret (results_cnt rfl _ _ _ _ rfl H8.out.1.rowSet HC.out) rfl ?_
      exact ⟨rfl, below_setRow H8.out.2 (by omega)⟩
end Go.Proofs.YthgecgehelnadaaDoor
