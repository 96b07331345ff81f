/-
  A number by its name: named, Of, With; the document's List and Of.
-/
import Derived.Test.YthgecgehelnadaaDoorCnt
namespace Go.Proofs.YthgecgehelnadaaDoor
open Go.Shelf Go.RowKit Go.Sort
open Go.Lib hiding intOf
set_option linter.unusedVariables false
def ptrOf (b : Nat) (r : Int) : Value := if r < 0 then .pointer none else .pointer (some ⟨b, r.toNat, none⟩)
theorem Plc.lt {l : List (List UInt8)} {x : ByteArray} {r : Int} (h : Plc l x r) : r = -1 ∨ ∃ k : Nat, r = (k : Int) ∧ k < l.length := by
  rcases h with ⟨h, _⟩ | ⟨k, hk, h, _⟩
  · exact .inl h
  · exact .inr ⟨k, h, hk⟩
theorem ix48 (b k : Nat) (hk : k < 10) (W : World) : (Instr.index 48 (ptrs b) (.int .i64 (k : Int))).run Tryd.prog W = .ok (.pointer (some ⟨b, k, none⟩)) W := by
  have hk' : k = 0 ∨ k = 1 ∨ k = 2 ∨ k = 3 ∨ k = 4 ∨ k = 5 ∨ k = 6 ∨ k = 7 ∨ k = 8 ∨ k = 9 := by omega
  rcases hk' with rfl | rfl | rfl | rfl | rfl | rfl | rfl | rfl | rfl | rfl <;> simp [go_sem, Instr.index, asIntOf, pa, Tryd.sizeOf44, Tryd.isAgg44, Result.andThen]
set_option maxHeartbeats 1000000 in
set_option maxRecDepth 100000 in
theorem named_at (b : Nat) (x : ByteArray) (w : World) : Calls Tryd.prog 22 #[.pointer (some ⟨b, 0, none⟩), .string x] w fun e w' => ∃ r, e = .returned (ptrOf b r) ∧ Plc nms x r ∧ Below w.heap.size w w' := by
  have c31 : Calls Tryd.prog 31 #[.slice (some ⟨w.heap.size, 0, none⟩) 10 10, .string x] (w.alloc (.cells (svals nms).toArray 9)) fun e w' => ∃ r, e = .returned (.int .i64 r) ∧ Plc nms x r ∧ Below w.heap.size w w' :=
    (index_at nms (some ⟨w.heap.size, 0, none⟩) 10 10 x rfl (by omega) _ (alloc_srow w nms)).mono fun e w' ⟨r, q, h1, h2, h3⟩ => ⟨r, h1, h2, h3 ▸ below_drew ((Below.refl _ w).alloc (Nat.le_refl _) _) q⟩
  go_enter Tryd.func22, Tryd.ntmps22
  go_wp2_with fail
  refine (names_at _).mono ?_
  rintro e w1 ⟨rfl, rfl⟩
  go_wp2_with fail
  refine c31.mono ?_
  rintro e w1 ⟨r, rfl, hp, hb⟩
  clear c31
  rcases hp.lt with rfl | ⟨k, rfl, hk⟩
  · go_wp2
    go_ret
    exact ⟨-1, rfl, hp, hb⟩
  · have hk10 : k < 10 := hk
    clear hk
    have HP := Lib.hid hp
    clear hp
    go_wp2_with fail
    refine (fields_at b _).mono ?_
    rintro e w2 ⟨rfl, hb2⟩
    have HB := Lib.hid (hb.trans (hb2.mono hb.size))
    clear hb hb2
    have hix := fun W => ix48 b k hk10 W
    go_wp2
    go_ret
    exact ⟨(k : Int), by rw [ptrOf, if_neg (by omega)]; rfl, HP.out, HB.out⟩
def getc (c : List Int) (r : Int) : Int := if r < 0 then 0 else c.getD r.toNat 0
def setc (c : List Int) (r n : Int) : List Int := if r < 0 then c else c.set r.toNat n
theorem setc_len (c : List Int) (r n : Int) : (setc c r n).length = c.length := by unfold setc; split <;> simp
theorem ca_len (c : List Int) : (ca c).size = c.length := by simp [ca]
/-- a struct of ten numbers in a block of its own -/
def RowAt (w : World) (b : Nat) (c : List Int) : Prop := w.heap[b]? = some (.cells (ca c) 24 (0, 0))
theorem row_alloc (w : World) (c : List Int) : RowAt (w.alloc (.cells (ca c) 24)) w.heap.size c := by
  show (w.heap.push _)[w.heap.size]? = _
  simp
theorem RowAt.kept {w w' : World} {b B : Nat} {c : List Int} (h : RowAt w b c) (hb : Below B w w') (hB : b < B) : RowAt w' b c := by
  unfold RowAt; rw [hb.block b hB]; exact h
theorem RowAt.lt {w : World} {b : Nat} {c : List Int} (h : RowAt w b c) : b < w.heap.size := (Array.getElem?_eq_some_iff.1 h).1
theorem RowAt.cell {w : World} {b : Nat} {c : List Int} (h : RowAt w b c) (k : Nat) (hk : k < c.length) : w.cell? ⟨b, k, none⟩ = some (.int .u64 c[k]) := by
  have := cell_of_row (w := w) b k (ca c) 24 (0, 0) h
  rw [this]
  simp [ca, hk]
theorem RowAt.free {w : World} {b : Nat} {c : List Int} (h : RowAt w b c) (k : Nat) : w.frozen? ⟨b, k, none⟩ = false := by
  unfold RowAt at h
  simp [World.frozen?, h]
theorem RowAt.set {w : World} {b : Nat} {c : List Int} (h : RowAt w b c) (k : Nat) (n : Int) : RowAt (w.setCell ⟨b, k, none⟩ (.int .u64 n)) b (c.set k n) := by
  unfold RowAt at h ⊢
  simp only [World.setCell, Array.getElem?_modify, ↓reduceIte, h, Option.map_some]
  simp [ca]
theorem RowAt.load {w : World} {b : Nat} {c : List Int} (h : RowAt w b c) (hc : c.length = 10) : (loadVar 24 ⟨b, 0, none⟩).run Tryd.prog w = .ok (cv c) w :=
  run_loadVar_row (P := Tryd.prog) w b 24 24 (ca c) (0, 0) _ h Tryd.underlying24 rfl (by rw [ca_len, hc]; kernel_rfl)
theorem RowAt.store {w : World} {b : Nat} {c d : List Int} (h : RowAt w b c) (hc : c.length = 10) (hd : d.length = 10) : (storeVar 24 ⟨b, 0, none⟩ (cv d)).run Tryd.prog w = .ok () (w.setRow b (ca d)) :=
  run_storeVar_row (P := Tryd.prog) w b 24 24 (ca c) (ca d) h (by rw [ca_len, hd]; kernel_rfl) (by rw [ca_len, ca_len, hc, hd]) (by simp [ca, Value.oneCell'])
theorem RowAt.rowSet {w : World} {b : Nat} {c d : List Int} (h : RowAt w b c) : RowAt (w.setRow b (ca d)) b d := by
  unfold RowAt at h ⊢
  simp only [World.setRow, Array.getElem?_modify, ↓reduceIte, h, Option.map_some]
theorem below_setRow {w w' : World} {B b : Nat} {cs : Array Value} (h : Below B w w') (hB : B ≤ b) : Below B w (w'.setRow b cs) :=
  ⟨h.os, h.tape, h.output, by rw [size_setRow]; exact h.size, fun k hk => by
    rw [← h.block k hk]
    simp only [World.setRow, Array.getElem?_modify]
    rw [if_neg (by omega)]⟩
set_option maxHeartbeats 1000000 in
set_option maxRecDepth 100000 in
theorem of_at (c : List Int) (hc : c.length = 10) (x : ByteArray) (w : World) : Calls Tryd.prog 8 #[cv c, .string x] w fun e w' => ∃ r, e = .returned (.tuple #[.int .u64 (getc c r), .bool (decide (0 ≤ r))]) ∧ Plc nms x r ∧ Below w.heap.size w w' := by
  have HT := Lib.hid (row_alloc w c)
  have HB := Lib.hid ((Below.refl w.heap.size w).alloc (Nat.le_refl _) (.cells (ca c) 24))
  have HC := Lib.hid hc
  clear hc
  go_enter Tryd.func8, Tryd.ntmps8
  go_wp2_with fail
  refine (named_at _ x _).mono ?_
  rintro e w1 ⟨r, rfl, hp, hb⟩
  have HT1 := Lib.hid (HT.out.kept hb (by simp))
  have HB1 := Lib.hid (HB.out.trans (hb.mono (by simp)))
  have HP := Lib.hid hp
  rcases hp.lt with rfl | ⟨k, rfl, hk⟩
  · clear hb hp
    rw [ptrOf, if_pos (by decide)]
    go_wp2
    go_ret2
    exact ⟨-1, rfl, HP.out, HB1.out⟩
  · have hk10 : k < 10 := hk
    have hcell : w1.cell? ⟨w.heap.size, k, none⟩ = some (.int .u64 (getc c k)) := by
      rw [HT1.out.cell k (by rw [HC.out]; exact hk10), getc, if_neg (by omega), Int.toNat_natCast, List.getD_eq_getElem?_getD, List.getElem?_eq_getElem]
      rfl
    obtain ⟨g, hg⟩ : ∃ g, g = getc c k := ⟨_, rfl⟩
    rw [← hg] at hcell
    have HG := Lib.hid hg
    clear hb hp hk hg
    rw [ptrOf, if_neg (by omega), Int.toNat_natCast]
    go_wp2
    go_ret2
    exact ⟨k, by rw [← HG.out]; simp, HP.out, HB1.out⟩
theorem RowAt.loadC {w : World} {b : Nat} {c : List Int} (h : RowAt w b c) (hc : c.length = 10) : (loadCellsFrom ⟨b, 0, none⟩ 0 10 #[]).run Tryd.prog w = .ok (ca c) w := by
  have := run_loadCells_list (P := Tryd.prog) w ⟨b, 0, none⟩ (ca c).toList (fun j v hv => by
    rw [Lib.add_plain, Nat.zero_add, cell_of_row _ _ j (ca c) 24 (0, 0) h]
    simpa using hv)
  rw [Array.length_toList, ca_len, hc] at this
  simpa [loadCells] using this
theorem RowAt.storeC {w : World} {b : Nat} {c d : List Int} (h : RowAt w b c) (hc : c.length = 10) (hd : d.length = 10) : (storeCells ⟨b, 0, none⟩ (ca d).toList 0).run Tryd.prog w = .ok () (w.setRow b (ca d)) := by
  have := h.store hc hd
  cases hq : Tryd.prog.info? 24 with
  | none => 
    have h2 : (Tryd.prog.info? 24).map (·.size) = some 10 := by kernel_rfl
    simp [hq] at h2
  | some i =>
    have h2 : (Tryd.prog.info? 24).map (·.size) = some 10 := by kernel_rfl
    have hs : (ca d).size = i.size := by rw [ca_len, hd]; simp [hq] at h2; omega
    simpa [storeVar, sizeOf, typeInfo, hq, Value.cells, hs] using this
theorem info24 : (Tryd.prog.info? 24).map (·.size) = some 10 := by kernel_rfl
theorem ld24 {ops : Array Oper} {rest : List Oper} {o : Oper} {a : Act} {w : World} {Q : Exit → Act → World → Prop} (hgd : o.guard = none) (x : Operand) (ho : o.op = .load 24 x) (g : Nat) (hx : a.eval x = .pointer (some ⟨g, 0, none⟩)) (c : List Int) (h : RowAt w g c) (hc : c.length = 10)
    (hK : wpList Tryd.prog ops Q rest (a.put o.dst (cv c)) w) : wpList Tryd.prog ops Q (o :: rest) a w :=
  wpList_load_row hgd 24 x ho g hx 24 (ca c) (0, 0) _ h Tryd.underlying24 rfl (by rw [ca_len, hc]; exact info24) hK
theorem st24 {ops : Array Oper} {rest : List Oper} {o : Oper} {a : Act} {w : World} {Q : Exit → Act → World → Prop} (hgd : o.guard = none) (x y : Operand) (ho : o.op = .store 24 x y) (g : Nat) (d : List Int) (hx : a.eval x = .pointer (some ⟨g, 0, none⟩)) (hy : a.eval y = cv d) (c : List Int) (h : RowAt w g c) (hc : c.length = 10) (hd : d.length = 10)
    (hK : wpList Tryd.prog ops Q rest (a.put o.dst undef) (w.setRow g (ca d))) : wpList Tryd.prog ops Q (o :: rest) a w :=
  wpList_store_row hgd 24 x y ho g (ca d) hx hy 24 (ca c) h (by rw [ca_len, hd]; exact info24) (by rw [ca_len, ca_len, hc, hd]) (by simp [ca, Value.oneCell']) hK
theorem RowAt.other {w : World} {b g : Nat} {c : List Int} (h : RowAt w b c) (hne : g ≠ b) (cs : Array Value) : RowAt (w.setRow g cs) b c := by
  unfold RowAt at h ⊢
  simp only [World.setRow, Array.getElem?_modify]
  rw [if_neg hne]
  exact h
theorem RowAt.cellOther {w : World} {b : Nat} {c : List Int} {p : Addr} {v : Value} (h : RowAt w b c) (hne : b ≠ p.block) : RowAt (w.setCell p v) b c := by
  unfold RowAt at h ⊢
  rw [Below.heap_setCell w p v b hne]
  exact h
theorem results_cnt {fn : Func} {p : Tmp} (h : fn.results = #[.cell p 24]) (tmps : Array Value) (w : World) (g : Nat) (c : List Int)
    (hp : tmps.getD p undef = .pointer (some ⟨g, 0, none⟩)) (hg : RowAt w g c) (hc : c.length = 10) : (results fn tmps).run Tryd.prog w = .ok (cv c) w := by
  have hp' : tmps[p]?.getD undef = .pointer (some ⟨g, 0, none⟩) := by simpa using hp
  simp only [results, h]
  simp [hp', asAddr, hg.load hc]
theorem results_cnt2 {fn : Func} {p u : Tmp} (h : fn.results = #[.cell p 24, .tmp u]) (tmps : Array Value) (w : World) (g : Nat) (c : List Int)
    (hp : tmps.getD p undef = .pointer (some ⟨g, 0, none⟩)) (hg : RowAt w g c) (hc : c.length = 10) : (results fn tmps).run Tryd.prog w = .ok (.tuple #[cv c, tmps.getD u undef]) w := by
  rw [results_cell_tmp h, hp]
  simp [asAddr, hg.load hc, Result.andThen]
def zs : List Int := [0, 0, 0, 0, 0, 0, 0, 0, 0, 0]
set_option maxHeartbeats 1000000 in
set_option maxRecDepth 100000 in
theorem with_at (c : List Int) (hc : c.length = 10) (x : ByteArray) (n : Int) (w : World) : Calls Tryd.prog 9 #[cv c, .string x, .int .u64 n] w fun e w' => ∃ r, e = .returned (.tuple #[cv (setc c r n), .bool (decide (0 ≤ r))]) ∧ Plc nms x r ∧ Below w.heap.size w w' := by
  have hT := row_alloc w c
  have hB := (Below.refl w.heap.size w).alloc (Nat.le_refl _) (.cells (ca c) 24)
  have hT2 := hT.kept ((Below.refl _ _).alloc (Nat.le_refl _) (.cells (ca zs) 24)) (World.size_alloc .. ▸ Nat.lt_succ_self _)
  have hZ := row_alloc (w.alloc (.cells (ca c) 24)) zs
  have hB2 := hB.alloc hB.size (.cells (ca zs) 24)
  simp only [World.size_alloc] at hZ
  have H := Lib.hid (And.intro hT2 (And.intro hZ hB2))
  have HC := Lib.hid hc
  clear hc hT hB hT2 hZ hB2
  go_enter Tryd.func9, Tryd.ntmps9
  go_wp2_with fail
  refine (named_at _ x _).mono ?_
  rintro e w1 ⟨r, rfl, hp, hb⟩
  obtain ⟨hT, hZ, hB⟩ := H.out
  have hT1 := hT.kept hb (by simp only [World.size_alloc]; omega)
  have hZ1 := hZ.kept hb (by simp)
  have hB1 := hB.trans (hb.mono (by simp only [World.size_alloc]; omega))
  have HP := Lib.hid hp
  rcases hp.lt with rfl | ⟨k, rfl, hk⟩
  · have HB1 := Lib.hid (And.intro hZ1 hB1)
    have HL := Lib.hid hT1
    clear hb hp H hT hZ hB hT1 hZ1 hB1
    rw [ptrOf, if_pos (by decide)]
    go_wp2_with (first | refine ld24 rfl (.tmp 3) rfl _ rfl _ HL.out HC.out ?_ | refine st24 rfl (.tmp 6) (.tmp 13) rfl _ _ rfl rfl _ HB1.out.1 rfl HC.out ?_)
    refine bodyPost_ret (results_cnt2 rfl _ _ _ _ rfl HB1.out.1.rowSet HC.out) rfl ?_
    exact ⟨-1, rfl, HP.out, below_setRow HB1.out.2 (by omega)⟩
  · have hk10 : k < 10 := hk
    have hkc : k < c.length := by rw [HC.out]; exact hk10
    have hcell := hT1.cell k hkc
    have hfr := hT1.free k
    have HT3 := Lib.hid (hT1.set k n)
    have HZ3 := Lib.hid (hZ1.cellOther (p := ⟨w.heap.size, k, none⟩) (v := .int .u64 n) (by simp))
    have HB3 := Lib.hid (hB1.setCell (p := ⟨w.heap.size, k, none⟩) (Nat.le_refl _) (.int .u64 n))
    have HC3 : Hid ((c.set k n).length = 10) := Lib.hid (by rw [List.length_set]; exact HC.out)
    obtain ⟨g, hg⟩ : ∃ g, g = c[k] := ⟨_, rfl⟩
    rw [← hg] at hcell
    clear hb hp hk H hT hZ hB hT1 hZ1 hB1 hg
    rw [ptrOf, if_neg (by omega), Int.toNat_natCast]
    go_wp2_with (first | refine ld24 rfl (.tmp 3) rfl _ rfl _ HT3.out HC3.out ?_ | refine st24 rfl (.tmp 6) (.tmp 17) rfl _ _ rfl rfl _ HZ3.out rfl HC3.out ?_)
    refine bodyPost_ret (results_cnt2 rfl _ _ _ _ rfl HZ3.out.rowSet HC3.out) rfl ?_
    exact ⟨k, by rw [setc, if_neg (by omega)]; simp, HP.out, below_setRow HB3.out (by omega)⟩
end Go.Proofs.YthgecgehelnadaaDoor
