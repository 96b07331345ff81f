/-
  What is stored into a dial; a node is laid in: layAlone, layAhead.
-/
import Derived.Test.YtjligfgaahcogaaReads
namespace Go.Proofs.Ytjligfgaahcogaa
open Go.ChangeShapes Go.WideShapes Go.ChangeAt Go.RowKit
set_option linter.unusedVariables false

theorem run_storeVar_cell {P : Program} (w : World) (g o : Nat) (ty : TypeId) (v v0 : Value) (hc : w.cell? ⟨g, o, none⟩ = some v0) (hf : w.frozen? ⟨g, o, none⟩ = false) (hi : (P.info? ty).map (·.size) = some 1)
    (h1 : v.oneCell' = true) : (storeVar ty ⟨g, o, none⟩ v).run P w = .ok () (w.setCell ⟨g, o, none⟩ v) := by
  have := run_storeCells_cells (P := P) g o [v] 0 w (fun j hj => by
      simp only [List.length_cons, List.length_nil] at hj
      obtain rfl : j = 0 := by omega
      show (w.cell? ⟨g, o, none⟩).isSome = true
      rw [hc]; rfl) (fun j hj => by
      simp only [List.length_cons, List.length_nil] at hj
      obtain rfl : j = 0 := by omega
      exact hf) (fun x hx => by simp at hx; subst hx; exact h1)
  have hcc : v.cells = #[v] := by cases v <;> first | rfl | cases h1
  cases hq : P.info? ty with
  | none => simp [hq] at hi
  | some i =>
    have hs : i.size = 1 := by simpa [hq] using hi
    simp only [Nat.add_zero, World.setCells] at this
    simp [storeVar, sizeOf, typeInfo, hq, hcc, hs, this]
theorem wpList_store_cell {P : Program} {ops : Array Oper} {rest : List Oper} {op : Oper} {a : Act} {w : World} {Q : Exit → Act → World → Prop} (hgd : op.guard = none) (ty : TypeId) (x y : Operand) (ho : op.op = .store ty x y)
    {g o : Nat} {v v0 : Value} (hx : a.eval x = .pointer (some ⟨g, o, none⟩)) (hy : a.eval y = v) (h1 : v.oneCell' = true) (hi : (P.info? ty).map (·.size) = some 1) (hc : w.cell? ⟨g, o, none⟩ = some v0) (hf : w.frozen? ⟨g, o, none⟩ = false)
    (h : wpList P ops Q rest (a.put op.dst undef) (w.setCell ⟨g, o, none⟩ v)) : wpList P ops Q (op :: rest) a w := by
  refine wpList_plain hgd fun K hK => ?_
  unfold Oper.wp execOp
  simp only [ho, hx, hy, Instr.storeAt, Instr.sureAddr, Sem.run_bind, Sem.run_pure, Result.andThen_ok, run_storeVar_cell w g o ty v v0 hc hf hi h1]
  exact hK _ _ h

section
variable {w : World} {lo b N M gL gH : Nat} {lk : Nat → Lk} {hd : Nat → Nat} {cnt : Nat} {P : Program}
/-- a whole link is stored -/
theorem store_link (hM : Mem w lo b N M gL gH lk hd cnt) {ops : Array Oper} {rest : List Oper} {op : Oper} {a : Act} {Q : Exit → Act → World → Prop} (i p n : Nat) (s : Bool) (hi : i < N)
    (hgd : op.guard = none) (x y : Operand) (ho : op.op = .store 72 x y)
    (hx : a.eval x = .pointer (some ⟨gL, i * 3, none⟩)) (hy : a.eval y = .agg #[.int .i32 (p : Int), .int .i32 (n : Int), .bool s]) (hs : (P.info? 72).map (·.size) = some 3)
    (h : ∀ w', Mem w' lo b N M gL gH (put lk i ⟨p, n, s⟩) hd cnt → Kp b gL gH w w' → wpList P ops Q rest (a.put op.dst undef) w') : wpList P ops Q (op :: rest) a w := by
  refine wpList_store_mid hgd 72 x y ho gL (i * 3) _ hx hy (fun j hj => ?_) hs (by simp [Value.oneCell']) (h _ (hM.onL (grown_setCells w gL _ _) (hM.links.storeAll ⟨p, n, s⟩)) (Kp.of_row (grown_setCells w gL _ _) (.inr (.inl rfl))))
  have hj : j < 3 := hj
  refine ⟨?_, hM.links.free _⟩
  rw [hM.links.cell hi hj, List.getElem?_eq_getElem (show j < (lk i).cells.length by simpa [Lk.cells] using hj)]; rfl
/-- one field of a link is stored -/
theorem store_next (hM : Mem w lo b N M gL gH lk hd cnt) {ops : Array Oper} {rest : List Oper} {op : Oper} {a : Act} {Q : Exit → Act → World → Prop} (i u : Nat) (hi : i < N)
    (hgd : op.guard = none) (x y : Operand) (ho : op.op = .store 21 x y)
    (hx : a.eval x = .pointer (some ⟨gL, i * 3 + 1, none⟩)) (hy : a.eval y = .int .i32 (u : Int)) (hs : (P.info? 21).map (·.size) = some 1)
    (h : ∀ w', Mem w' lo b N M gL gH (put lk i ⟨(lk i).p, u, (lk i).s⟩) hd cnt → Kp b gL gH w w' → wpList P ops Q rest (a.put op.dst undef) w') : wpList P ops Q (op :: rest) a w := by
  refine wpList_store_cell hgd 21 x y ho hx hy rfl hs (hM.links.cell hi (by decide)) (hM.links.free _) (h _ (hM.onL (grown_setCell w gL _ _) (hM.links.store (by decide) _ _ rfl)) (Kp.of_row (grown_setCell w gL _ _) (.inr (.inl rfl))))
theorem store_prev (hM : Mem w lo b N M gL gH lk hd cnt) {ops : Array Oper} {rest : List Oper} {op : Oper} {a : Act} {Q : Exit → Act → World → Prop} (i u : Nat) (hi : i < N)
    (hgd : op.guard = none) (x y : Operand) (ho : op.op = .store 21 x y)
    (hx : a.eval x = .pointer (some ⟨gL, i * 3, none⟩)) (hy : a.eval y = .int .i32 (u : Int)) (hs : (P.info? 21).map (·.size) = some 1)
    (h : ∀ w', Mem w' lo b N M gL gH (put lk i ⟨u, (lk i).n, (lk i).s⟩) hd cnt → Kp b gL gH w w' → wpList P ops Q rest (a.put op.dst undef) w') : wpList P ops Q (op :: rest) a w := by
  refine wpList_store_cell hgd 21 x y ho hx hy rfl hs (hM.links.cell (t := 0) hi (by decide)) (hM.links.free _) (h _ (hM.onL (grown_setCell w gL _ _) (hM.links.store (t := 0) (by decide) _ _ rfl)) (Kp.of_row (grown_setCell w gL _ _) (.inr (.inl rfl))))
theorem store_hand (hM : Mem w lo b N M gL gH lk hd cnt) {ops : Array Oper} {rest : List Oper} {op : Oper} {a : Act} {Q : Exit → Act → World → Prop} (i v : Nat) (hi : i < M)
    (hgd : op.guard = none) (x y : Operand) (ho : op.op = .store 21 x y)
    (hx : a.eval x = .pointer (some ⟨gH, i, none⟩)) (hy : a.eval y = .int .i32 (v : Int)) (hs : (P.info? 21).map (·.size) = some 1)
    (h : ∀ w', Mem w' lo b N M gL gH lk (put hd i v) cnt → Kp b gL gH w w' → wpList P ops Q rest (a.put op.dst undef) w') : wpList P ops Q (op :: rest) a w := by
  refine wpList_store_cell hgd 21 x y ho hx hy rfl hs (hM.hands.cell hi) (hM.hands.free _) (h _ (hM.onH (grown_setCell w gH _ _) (hM.hands.store i v)) (Kp.of_row (grown_setCell w gH _ _) (.inr (.inr rfl))))
theorem store_count (hM : Mem w lo b N M gL gH lk hd cnt) {ops : Array Oper} {rest : List Oper} {op : Oper} {a : Act} {Q : Exit → Act → World → Prop} (v : Nat) (z : Int) (hz : z = (v : Int))
    (hgd : op.guard = none) (x y : Operand) (ho : op.op = .store 3 x y)
    (hx : a.eval x = .pointer (some ⟨b, 2, none⟩)) (hy : a.eval y = .int .i64 z) (hs : (P.info? 3).map (·.size) = some 1)
    (h : ∀ w', Mem w' lo b N M gL gH lk hd v → Kp b gL gH w w' → wpList P ops Q rest (a.put op.dst undef) w') : wpList P ops Q (op :: rest) a w := by
  subst hz
  refine wpList_store_cell hgd 3 x y ho hx hy rfl hs hM.count2 (hM.bfree _) (h _ (hM.onC v) (Kp.of_row (grown_setCell w b _ _) (.inl rfl)))
end
theorem size72 : (Try.prog.info? 72).map (·.size) = some 3 := by kernel_rfl
theorem size21 : (Try.prog.info? 21).map (·.size) = some 1 := by kernel_rfl
theorem size3 : (Try.prog.info? 3).map (·.size) = some 1 := by kernel_rfl

/-- the links behind layAhead -/
def layLk (lk : Nat → Lk) (x a pv : Nat) : Nat → Lk :=
  let k1 := put lk x ⟨pv, a, true⟩
  let k2 := put k1 pv ⟨(k1 pv).p, x, (k1 pv).s⟩
  put k2 a ⟨x, (k2 a).n, (k2 a).s⟩
/-- the first k hands are at x -/
def allAt (hd : Nat → Nat) (x k : Nat) : Nat → Nat := fun j => if j < k then x else hd j
theorem allAt_succ (hd : Nat → Nat) (x k : Nat) : put (allAt hd x k) k x = allAt hd x (k + 1) := by
  funext j
  unfold put allAt
  by_cases h1 : j = k
  · rw [if_pos h1, if_pos (by omega)]
  · rw [if_neg h1]
    by_cases h2 : j < k
    · rw [if_pos h2, if_pos (by omega)]
    · rw [if_neg h2, if_neg (by omega)]

section
variable {w : World} {lo b N M gL gH : Nat} {lk : Nat → Lk} {hd : Nat → Nat} {cnt : Nat}
set_option maxHeartbeats 1000000 in
theorem ahead_raw (h : Mem w lo b N M gL gH lk hd cnt) (x a pv : Nat) (hx : x < N) (ha : a < N) (hpv : (lk a).p = pv) (hpn : pv < N) :
    Calls Try.prog 35 #[.pointer (some ⟨b, 0, none⟩), .int .i32 (x : Int), .int .i32 (a : Int)] w fun e w' => e = .returned (.tuple #[]) ∧ Mem w' lo b N M gL gH (layLk lk x a pv) hd cnt ∧ Kp b gL gH w w' := by
  have h1 := h.links0
  have c1 := h.links.cell (i := a) (t := 0) (by omega) (by decide)
  simp only [Lk.cells, List.getElem?_cons_zero, Nat.add_zero, hpv] at c1
  have HM := Lib.hid h
  clear h hpv
  go_enter Try.func35, Try.ntmps35
  go_wp2_with (refine store_link HM.out x pv a true hx rfl _ _ rfl rfl rfl size72 ?_)
  intro w1 hm1 hk1
  have HM1 := Lib.hid hm1
  have HK1 := Lib.hid hk1
  have h1 := HM1.out.links0
  clear hm1 hk1 HM c1
  go_wp2_with (refine store_next HM1.out pv x hpn rfl _ _ rfl rfl rfl size21 ?_)
  intro w2 hm2 hk2
  have HM2 := Lib.hid hm2
  have HK2 := Lib.hid (HK1.out.trans hk2)
  have h1 := HM2.out.links0
  clear hm2 hk2 HM1 HK1
  go_wp2_with (refine store_prev HM2.out a x ha rfl _ _ rfl rfl rfl size21 ?_)
  intro w3 hm3 hk3
  have HM3 := Lib.hid hm3
  have HK3 := Lib.hid (HK2.out.trans hk3)
  clear hm3 hk3 HM2 HK2
  go_wp2
  go_end0
  exact ⟨rfl, HM3.out, HK3.out⟩
set_option maxHeartbeats 1000000 in
theorem alone_raw (h : Mem w lo b N M gL gH lk hd cnt) (x : Nat) (hx : x < N) :
    Calls Try.prog 34 #[.pointer (some ⟨b, 0, none⟩), .int .i32 (x : Int)] w fun e w' => e = .returned (.tuple #[]) ∧ Mem w' lo b N M gL gH (put lk x ⟨x, x, true⟩) (allAt hd x M) cnt ∧ Kp b gL gH w w' := by
  have h1 := h.links0
  have m8 := h.m8
  have HM := Lib.hid h
  clear h
  go_enter Try.func34, Try.ntmps34
  go_wp2_with (refine store_link HM.out x x x true hx rfl _ _ rfl rfl rfl size72 ?_)
  intro w1 hm1 hk1
  have HM1 : Hid (Mem w1 lo b N M gL gH (put lk x ⟨x, x, true⟩) (allAt hd x 0) cnt) := Lib.hid hm1
  have HK1 := Lib.hid hk1
  have h1 := HM1.out.hands1
  clear hm1 hk1 HM
  go_wp2_with fail
  go_loopw [19] (fun k wr => ∃ k' : Nat, k' ≤ M ∧ k = .int .i64 (k' : Int) ∧ Hid (Mem wr lo b N M gL gH (put lk x ⟨x, x, true⟩) (allAt hd x k') cnt) ∧ Hid (Kp b gL gH w wr)) (fun k _ => M - (intOf k).toNat)
  case atStart => exact ⟨0, by omega, by go_num, HM1, HK1⟩
  case round =>
    obtain ⟨k, hk, rfl, HM2, HK2⟩ := hrel
    clear HM1 HK1 h1
    by_cases hlt : k < M
    · have h1 := HM2.out.hands1
      have HE := Lib.hid (allAt_succ hd x k)
      go_wp2_with (refine store_hand HM2.out k x hlt rfl _ _ rfl rfl rfl size21 ?_; intro w3 hm3 hk3; have HM3 := Lib.hid hm3; have HK3 := Lib.hid (HK2.out.trans hk3); clear hm3 hk3)
      go_roundw
      case rel => exact ⟨k + 1, by omega, by go_num, Lib.hid (by rw [← HE.out]; exact HM3.out), HK3⟩
      case measure => simp [intOf]; omega
    · obtain rfl : k = M := by omega
      go_wp2
      go_end0
      exact ⟨rfl, HM2.out, HK2.out⟩
end
end Go.Proofs.Ytjligfgaahcogaa
