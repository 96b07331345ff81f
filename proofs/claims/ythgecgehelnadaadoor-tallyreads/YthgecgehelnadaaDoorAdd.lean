/-
  Sums and differences: Since.
-/
import Derived.Test.YthgecgehelnadaaDoorRefC
import Derived.Deep.WholeRow
import Derived.IntWalk
namespace Go.Proofs.YthgecgehelnadaaDoor
open Go.Shelf Go.RowKit Go.Sort
open Go.Lib hiding intOf
set_option linter.unusedVariables false
/-- the row of pointers in a block of its own -/
def PRow (w : World) (g b : Nat) : Prop := w.heap[g]? = some (.cells (pa b) 48 (0, 0))
theorem PRow.kept {w w' : World} {g b B : Nat} (h : PRow w g b) (hb : Below B w w') (hB : g < B) : PRow w' g b := by
  unfold PRow; rw [hb.block g hB]; exact h
theorem PRow.lt {w : World} {g b : Nat} (h : PRow w g b) : g < w.heap.size := (Array.getElem?_eq_some_iff.1 h).1
theorem pa_get (b k : Nat) (hk : k < 10) : (pa b)[k]? = some (.pointer (some ⟨b, k, none⟩)) := by
  have hk' : k = 0 ∨ k = 1 ∨ k = 2 ∨ k = 3 ∨ k = 4 ∨ k = 5 ∨ k = 6 ∨ k = 7 ∨ k = 8 ∨ k = 9 := by omega
  rcases hk' with rfl | rfl | rfl | rfl | rfl | rfl | rfl | rfl | rfl | rfl <;> rfl
theorem PRow.cell {w : World} {g b : Nat} (h : PRow w g b) (k : Nat) (hk : k < 10) : w.cell? ⟨g, k, none⟩ = some (.pointer (some ⟨b, k, none⟩)) := by
  rw [cell_of_row (w := w) g k (pa b) 48 (0, 0) h]
  exact pa_get b k hk
theorem PRow.cellOther {w : World} {g b : Nat} {p : Addr} {v : Value} (h : PRow w g b) (hne : g ≠ p.block) : PRow (w.setCell p v) g b := by
  unfold PRow at h ⊢
  rw [Below.heap_setCell w p v g hne]
  exact h
theorem prow_alloc (w : World) (b : Nat) : PRow (w.alloc (.cells (pa b) 48)) w.heap.size b := by
  show (w.heap.push _)[w.heap.size]? = _
  simp
theorem info48 : (Tryd.prog.info? 48).map (·.size) = some 10 := by kernel_rfl
/-- the row of pointers is stored into a block that was just made -/
theorem st48 {ops : Array Oper} {rest : List Oper} {o : Oper} {a : Act} {w : World} {Q : Exit → Act → World → Prop} (hgd : o.guard = none) (x y : Operand) (ho : o.op = .store 48 x y) (b : Nat) (hx : a.eval x = .pointer (some ⟨w.heap.size, 0, none⟩)) (hy : a.eval y = ptrs b) (old : Array Value) (hold : old.size = 10)
    (hK : wpList Tryd.prog ops Q rest (a.put o.dst undef) (w.alloc (.cells (pa b) 48))) : wpList Tryd.prog ops Q (o :: rest) a (w.alloc (.cells old 48)) :=
  wpList_store_row hgd 48 x y ho w.heap.size (pa b) hx hy 48 old (by show (w.heap.push _)[w.heap.size]? = _; simp) info48 hold (by simp [pa, Value.oneCell']) (by rw [World.setRow_alloc_new]; exact hK)
/-- a struct is stored into a block that was just made -/
theorem st24n {ops : Array Oper} {rest : List Oper} {o : Oper} {a : Act} {w : World} {Q : Exit → Act → World → Prop} (hgd : o.guard = none) (x y : Operand) (ho : o.op = .store 24 x y) (c : List Int) (hc : c.length = 10) (hx : a.eval x = .pointer (some ⟨w.heap.size, 0, none⟩)) (hy : a.eval y = cv c) (old : Array Value) (hold : old.size = 10)
    (hK : wpList Tryd.prog ops Q rest (a.put o.dst undef) (w.alloc (.cells (ca c) 24))) : wpList Tryd.prog ops Q (o :: rest) a (w.alloc (.cells old 24)) :=
  wpList_store_row hgd 24 x y ho w.heap.size (ca c) hx hy 24 old (by show (w.heap.push _)[w.heap.size]? = _; simp) (by rw [ca_len, hc]; exact info24) (by rw [ca_len, hc, hold]) (by simp [ca, Value.oneCell']) (by rw [World.setRow_alloc_new]; exact hK)
/-- the first k numbers are done -/
def mx (f : Int → Int → Int) (a b : List Int) (k : Nat) : List Int := (List.zipWith f a b).take k ++ a.drop k
theorem mx_zero (f : Int → Int → Int) (a b : List Int) : mx f a b 0 = a := by simp [mx]
theorem mx_all (f : Int → Int → Int) (a b : List Int) (h : b.length = a.length) : mx f a b a.length = List.zipWith f a b := by rw [mx, List.drop_length, List.append_nil, List.take_of_length_le (by simp; omega)]
theorem mx_len (f : Int → Int → Int) (a b : List Int) (h : b.length = a.length) (k : Nat) (hk : k ≤ a.length) : (mx f a b k).length = a.length := by simp [mx, h]; omega
theorem mx_get (f : Int → Int → Int) (a b : List Int) (h : b.length = a.length) (k : Nat) (hk : k < a.length) : (mx f a b k)[k]'(by rw [mx_len f a b h k (by omega)]; exact hk) = a[k] := by
  simp only [mx]
  rw [List.getElem_append_right (by simp [h]; omega)]
  simp [h, show min k a.length = k by omega]
theorem mx_succ (f : Int → Int → Int) (a b : List Int) (h : b.length = a.length) (k : Nat) (hk : k < a.length) : mx f a b (k + 1) = (mx f a b k).set k (f a[k] (b[k]'(by omega))) := by
  have hz : k < (List.zipWith f a b).length := by simp [h]; omega
  simp only [mx]
  rw [List.set_append_right _ _ (by simp; omega), List.take_add_one, List.getElem?_eq_getElem hz]
  have e : k - ((List.zipWith f a b).take k).length = 0 := by simp [h]; omega
  rw [e, List.drop_eq_getElem_cons hk, List.set_cons_zero]
  simp
def subf (x y : Int) : Int := IntKind.u64.wrap (x - y)
def addf (x y : Int) : Int := IntKind.u64.wrap (x + y)
set_option maxHeartbeats 1000000 in
set_option maxRecDepth 100000 in
theorem since_at (a b : List Int) (ha : a.length = 10) (hb : b.length = 10) (w : World) : Calls Tryd.prog 17 #[cv a, cv b] w fun e w' => e = .returned (cv (List.zipWith subf a b)) ∧ Below w.heap.size w w' := by
  have hA := row_alloc w a
  have b1 := (Below.refl w.heap.size w).alloc (Nat.le_refl _) (.cells (ca a) 24)
  have b2 := (Below.refl (w.alloc (.cells (ca a) 24)).heap.size (w.alloc (.cells (ca a) 24))).alloc (Nat.le_refl _) (.cells (ca b) 24)
  have hB := row_alloc (w.alloc (.cells (ca a) 24)) b
  have b3 := (Below.refl ((w.alloc (.cells (ca a) 24)).alloc (.cells (ca b) 24)).heap.size ((w.alloc (.cells (ca a) 24)).alloc (.cells (ca b) 24))).alloc (Nat.le_refl _) (.cells (ca zs) 24)
  have hZ := row_alloc ((w.alloc (.cells (ca a) 24)).alloc (.cells (ca b) 24)) zs
  have hA3 := (hA.kept b2 hA.lt).kept b3 (hA.kept b2 hA.lt).lt
  have hB3 := hB.kept b3 hB.lt
  have hs3 : (((w.alloc (.cells (ca a) 24)).alloc (.cells (ca b) 24)).alloc (.cells (ca zs) 24)).heap.size = w.heap.size + 3 := by simp only [World.size_alloc]
  have q3 := (b1.trans (b2.mono b1.size)).trans (b3.mono (b1.trans (b2.mono b1.size)).size)
  obtain ⟨w3, hw3⟩ : ∃ w3, w3 = ((w.alloc (.cells (ca a) 24)).alloc (.cells (ca b) 24)).alloc (.cells (ca zs) 24) := ⟨_, rfl⟩
  rw [← hw3] at hA3 hB3 hZ q3 hs3
  simp only [World.size_alloc] at hB3 hZ
  have HW := Lib.hid hw3
  have H3 := Lib.hid (And.intro hA3 (And.intro hB3 (And.intro hZ q3)))
  have HL := Lib.hid (And.intro ha hb)
  have HS := Lib.hid hs3
  clear hA b1 b2 hB b3 hZ hA3 hB3 hs3 q3 hw3 ha hb
  go_enter Tryd.func17, Tryd.ntmps17
  go_wp2_with fail
  have hAA : ((w.alloc (.cells (ca a) 24)).alloc (.cells (ca b) 24)).alloc (.cells #[.int .u64 0, .int .u64 0, .int .u64 0, .int .u64 0, .int .u64 0, .int .u64 0, .int .u64 0, .int .u64 0, .int .u64 0, .int .u64 0] 24) = w3 := HW.out.symm
  rw [hAA]
  clear hAA
  refine (fields_at w.heap.size _).mono ?_
  rintro e w4 ⟨rfl, hb4⟩
  have hb4' := hb4
  rw [HS.out] at hb4'
  obtain ⟨hA3, hB3, hZ3, q3⟩ := H3.out
  have hA4 := hA3.kept hb4' (by omega)
  have hB4 := hB3.kept hb4' (by omega)
  have hZ4 := hZ3.kept hb4' (by omega)
  have q4 := q3.trans (hb4'.mono (by omega))
  have hs4 : w.heap.size + 3 ≤ w4.heap.size := by have := hb4.size; rw [HS.out] at this; exact this
  have hb5 := (Below.refl w4.heap.size w4).alloc (Nat.le_refl _) (.cells (pa w.heap.size) 48)
  have hA5 := hA4.kept hb5 hA4.lt
  have hB5 := hB4.kept hb5 hB4.lt
  have hZ5 := hZ4.kept hb5 hZ4.lt
  have hP5 := prow_alloc w4 w.heap.size
  have q5 := q4.trans (hb5.mono (by omega))
  have H5 := Lib.hid (And.intro hA5 (And.intro hB5 (And.intro hZ5 (And.intro hP5 q5))))
  have HS4 := Lib.hid hs4
  clear hb4 hb4' hA3 hB3 hZ3 q3 hA4 hB4 hZ4 q4 hs4 hb5 hA5 hB5 hZ5 hP5 q5 H3 HW HS
  go_wp2_with (first | fail | refine st48 rfl (.tmp 5) (.tmp 8) rfl w.heap.size rfl rfl _ rfl ?_)
  refine (fields_at (w.heap.size + 1) _).mono ?_
  rintro e w6 ⟨rfl, hb6⟩
  obtain ⟨p, hp⟩ : ∃ p, p = w4.heap.size := ⟨_, rfl⟩
  have hp3 : w.heap.size + 3 ≤ p := by rw [hp]; exact HS4.out
  obtain ⟨hA5, hB5, hZ5, hP5, q5⟩ := H5.out
  have hA6 := hA5.kept hb6 hA5.lt
  have hB6 := hB5.kept hb6 hB5.lt
  have hZ6 := hZ5.kept hb6 hZ5.lt
  have hP6 := hP5.kept hb6 hP5.lt
  have q6 := q5.trans (hb6.mono q5.size)
  rw [← hp] at hP6 ⊢
  have H6 := Lib.hid (And.intro hA6 (And.intro hB6 (And.intro hZ6 (And.intro hP6 q6))))
  have HP := Lib.hid hp3
  clear hb6 hA5 hB5 hZ5 hP5 q5 hA6 hB6 hZ6 hP6 q6 hp hp3 H5 HS4
  go_wp2_with fail
  go_loopw [10] (fun i wr => ∃ k : Nat, k ≤ 10 ∧ i = .int .i64 (k : Int) ∧ Hid (RowAt wr w.heap.size (mx subf a b k) ∧ RowAt wr (w.heap.size + 1) b ∧ RowAt wr (w.heap.size + 1 + 1) zs ∧ PRow wr p w.heap.size ∧ Below w.heap.size w wr)) (fun i _ => 10 - (intOf i).toNat)
  case atStart => exact ⟨0, by omega, by go_num, by rw [mx_zero]; exact H6⟩
  case round =>
    obtain ⟨k, hk, rfl, HR⟩ := hrel
    by_cases hlt : k < 10
    · have hix := fun W => ix48 (w.heap.size + 1) k hlt W
      go_wp2_with fail
      refine region_tail 10 (by kernel_rfl) (by kernel_rfl) ?_
      intro w7 hw7
      obtain ⟨hA, hB, hZ, hP, q⟩ := HR.out
      have hb7 : Below wr.heap.size wr w7 := by rw [hw7]; exact below_drew (Below.refl _ _) 1
      have hA7 := hA.kept hb7 hA.lt
      have hB7 := hB.kept hb7 hB.lt
      have hZ7 := hZ.kept hb7 hZ.lt
      have hP7 := hP.kept hb7 hP.lt
      have q7 := q.trans (hb7.mono q.size)
      obtain ⟨ha, hb⟩ := HL.out
      have hml := mx_len subf a b (by omega) k (by omega)
      have c1 := hP7.cell k hlt
      have c2 := hA7.cell k (by omega)
      rw [mx_get subf a b (by omega) k (by omega)] at c2
      have f2 := hA7.free k
      have c3 := hB7.cell k (by omega)
      have hA8 := hA7.set k (subf (a[k]'(by omega)) (b[k]'(by omega)))
      rw [← mx_succ subf a b (by omega) k (by omega)] at hA8
      have hB8 := hB7.cellOther (p := ⟨w.heap.size, k, none⟩) (v := .int .u64 (subf (a[k]'(by omega)) (b[k]'(by omega)))) (by simp)
      have hZ8 := hZ7.cellOther (p := ⟨w.heap.size, k, none⟩) (v := .int .u64 (subf (a[k]'(by omega)) (b[k]'(by omega)))) (by simp; omega)
      have hP8 := hP7.cellOther (p := ⟨w.heap.size, k, none⟩) (v := .int .u64 (subf (a[k]'(by omega)) (b[k]'(by omega)))) (by have := HP.out; simp; omega)
      have q8 := q7.setCell (p := ⟨w.heap.size, k, none⟩) (Nat.le_refl _) (.int .u64 (subf (a[k]'(by omega)) (b[k]'(by omega))))
      obtain ⟨x, hx⟩ : ∃ x, x = a[k]'(by omega) := ⟨_, rfl⟩
      obtain ⟨y, hy⟩ : ∃ y, y = b[k]'(by omega) := ⟨_, rfl⟩
      rw [← hx, ← hy] at hA8 hB8 hZ8 hP8 q8
      rw [← hx] at c2
      rw [← hy] at c3
      have H8 := Lib.hid (And.intro hA8 (And.intro hB8 (And.intro hZ8 (And.intro hP8 q8))))
      clear hA hB hZ hP q hb7 hA7 hB7 hZ7 hP7 q7 ha hb hml hA8 hB8 hZ8 hP8 q8 hx hy hw7 H6 HR hix
      simp only [List.take_succ_cons, List.take_zero, List.drop_succ_cons, List.drop_zero]
      repeat still_step
      refine wpStill_nil ?_
      go_wp2
      go_round
      case rel => exact ⟨k + 1, by omega, by go_num, H8⟩
      case measure => simp only [intOf]; omega
    · obtain rfl : k = 10 := by omega
      obtain ⟨hA, hB, hZ, hP, q⟩ := HR.out
      obtain ⟨ha, hb⟩ := HL.out
      have e10 : mx subf a b 10 = List.zipWith subf a b := by rw [← ha]; exact mx_all subf a b (by omega)
      rw [e10] at hA
      have HR2 := Lib.hid (And.intro hA (And.intro hZ q))
      have HC : Hid ((List.zipWith subf a b).length = 10) := Lib.hid (by simp [ha, hb])
      clear hA hB hZ hP q ha hb e10 HR H6
      go_wp2_with (first | refine ld24 rfl (.tmp 2) rfl _ rfl _ HR2.out.1 HC.out ?_ | refine st24 rfl (.tmp 4) (.tmp 25) rfl _ _ rfl rfl _ HR2.out.2.1 rfl HC.out ?_)
      refine bodyPost_ret (results_cnt rfl _ _ _ _ rfl HR2.out.2.1.rowSet HC.out) rfl ?_
      exact ⟨rfl, below_setRow HR2.out.2.2 (by omega)⟩
end Go.Proofs.YthgecgehelnadaaDoor
