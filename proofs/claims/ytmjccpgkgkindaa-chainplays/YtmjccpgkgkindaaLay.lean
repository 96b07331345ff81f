/-
  A node is laid behind another one: layBehind.
-/
import Derived.Test.YtmjccpgkgkindaaReads
namespace Go.Proofs.Ytmjccpgkgkindaa
open Go.ChangeShapes Go.WideShapes Go.ChangeAt Go.RowKit
set_option linter.unusedVariables false

theorem run_storeVar_cell {P : Program} (w : World) (g o : Nat) (ty : TypeId) (v v0 : Value) (hc : w.cell? ⟨g, o, none⟩ = some v0) (hf : w.frozen? ⟨g, o, none⟩ = false) (hi : (P.info? ty).map (·.size) = some 1)
    (h1 : v.oneCell' = true) : (storeVar ty ⟨g, o, none⟩ v).run P w = .ok () (w.setCell ⟨g, o, none⟩ v) := by
  have := run_storeCells_cells (P := P) g o [v] 0 w (fun j hj => by
      simp only [List.length_cons, List.length_nil] at hj
      obtain rfl : j = 0 := by omega
      show (w.cell? ⟨g, o, none⟩).isSome = true
      rw [hc]; rfl) (fun j hj => by
      simp only [List.length_cons, List.length_nil] at hj
      obtain rfl : j = 0 := by omega
      exact hf) (fun x hx => by simp at hx; subst hx; exact h1)
  have hcc : v.cells = #[v] := by cases v <;> first | rfl | cases h1
  cases hq : P.info? ty with
  | none => simp [hq] at hi
  | some i =>
    have hs : i.size = 1 := by simpa [hq] using hi
    simp only [Nat.add_zero, World.setCells] at this
    simp [storeVar, sizeOf, typeInfo, hq, hcc, hs, this]
theorem wpList_store_cell {P : Program} {ops : Array Oper} {rest : List Oper} {op : Oper} {a : Act} {w : World} {Q : Exit → Act → World → Prop} (hgd : op.guard = none) (ty : TypeId) (x y : Operand) (ho : op.op = .store ty x y)
    {g o : Nat} {v v0 : Value} (hx : a.eval x = .pointer (some ⟨g, o, none⟩)) (hy : a.eval y = v) (h1 : v.oneCell' = true) (hi : (P.info? ty).map (·.size) = some 1) (hc : w.cell? ⟨g, o, none⟩ = some v0) (hf : w.frozen? ⟨g, o, none⟩ = false)
    (h : wpList P ops Q rest (a.put op.dst undef) (w.setCell ⟨g, o, none⟩ v)) : wpList P ops Q (op :: rest) a w := by
  refine wpList_plain hgd fun K hK => ?_
  unfold Oper.wp execOp
  simp only [ho, hx, hy, Instr.storeAt, Instr.sureAddr, Sem.run_bind, Sem.run_pure, Result.andThen_ok, run_storeVar_cell w g o ty v v0 hc hf hi h1]
  exact hK _ _ h

section
variable {w : World} {lo b N M gL gN : Nat} {lk : Nat → Lk} {ln : Nat → Nat} {P : Program}
/-- a whole link is stored -/
theorem store_link (hM : Mem w lo b N M gL gN lk ln) {ops : Array Oper} {rest : List Oper} {op : Oper} {a : Act} {Q : Exit → Act → World → Prop} (i p n l : Nat) (s : Bool) (hi : i < N + M)
    (hgd : op.guard = none) (x y : Operand) (ho : op.op = .store 69 x y)
    (hx : a.eval x = .pointer (some ⟨gL, i * 4, none⟩)) (hy : a.eval y = .agg #[.int .i32 (p : Int), .int .i32 (n : Int), .int .i64 (l : Int), .bool s]) (hs : (P.info? 69).map (·.size) = some 4)
    (h : ∀ w', Mem w' lo b N M gL gN (put lk i ⟨p, n, l, s⟩) ln → Kp gL gN w w' → wpList P ops Q rest (a.put op.dst undef) w') : wpList P ops Q (op :: rest) a w := by
  refine wpList_store_mid hgd 69 x y ho gL (i * 4) _ hx hy (fun j hj => ?_) hs (by simp [Value.oneCell']) (h _ (hM.onL (grown_setCells w gL _ _) (hM.links.storeAll ⟨p, n, l, s⟩)) (Stay.of_grown (grown_setCells w gL _ _) ?_))
  · have hj : j < 4 := hj
    refine ⟨?_, hM.links.free _⟩
    rw [hM.links.cell hi hj, List.getElem?_eq_getElem (show j < (lk i).cells.length by simpa [Lk.cells] using hj)]; rfl
  · intro r e _ h; cases e; exact h.1 rfl
/-- one field of a link is stored -/
theorem store_next (hM : Mem w lo b N M gL gN lk ln) {ops : Array Oper} {rest : List Oper} {op : Oper} {a : Act} {Q : Exit → Act → World → Prop} (i u : Nat) (hi : i < N + M)
    (hgd : op.guard = none) (x y : Operand) (ho : op.op = .store 21 x y)
    (hx : a.eval x = .pointer (some ⟨gL, i * 4 + 1, none⟩)) (hy : a.eval y = .int .i32 (u : Int)) (hs : (P.info? 21).map (·.size) = some 1)
    (h : ∀ w', Mem w' lo b N M gL gN (put lk i ⟨(lk i).p, u, (lk i).l, (lk i).s⟩) ln → Kp gL gN w w' → wpList P ops Q rest (a.put op.dst undef) w') : wpList P ops Q (op :: rest) a w := by
  refine wpList_store_cell hgd 21 x y ho hx hy rfl hs (hM.links.cell hi (by decide)) (hM.links.free _) (h _ (hM.onL (grown_setCell w gL _ _) (hM.links.store (by decide) _ _ rfl)) (Kp.of_setL _ _ _))
theorem store_prev (hM : Mem w lo b N M gL gN lk ln) {ops : Array Oper} {rest : List Oper} {op : Oper} {a : Act} {Q : Exit → Act → World → Prop} (i u : Nat) (hi : i < N + M)
    (hgd : op.guard = none) (x y : Operand) (ho : op.op = .store 21 x y)
    (hx : a.eval x = .pointer (some ⟨gL, i * 4, none⟩)) (hy : a.eval y = .int .i32 (u : Int)) (hs : (P.info? 21).map (·.size) = some 1)
    (h : ∀ w', Mem w' lo b N M gL gN (put lk i ⟨u, (lk i).n, (lk i).l, (lk i).s⟩) ln → Kp gL gN w w' → wpList P ops Q rest (a.put op.dst undef) w') : wpList P ops Q (op :: rest) a w := by
  refine wpList_store_cell hgd 21 x y ho hx hy rfl hs (hM.links.cell (t := 0) hi (by decide)) (hM.links.free _) (h _ (hM.onL (grown_setCell w gL _ _) (hM.links.store (t := 0) (by decide) _ _ rfl)) (Kp.of_setL _ _ _))
theorem store_len (hM : Mem w lo b N M gL gN lk ln) {ops : Array Oper} {rest : List Oper} {op : Oper} {a : Act} {Q : Exit → Act → World → Prop} (i v : Nat) (z : Int) (hz : z = (v : Int)) (hi : i < M)
    (hgd : op.guard = none) (x y : Operand) (ho : op.op = .store 3 x y)
    (hx : a.eval x = .pointer (some ⟨gN, i, none⟩)) (hy : a.eval y = .int .i64 z) (hs : (P.info? 3).map (·.size) = some 1)
    (h : ∀ w', Mem w' lo b N M gL gN lk (put ln i v) → Kp gL gN w w' → wpList P ops Q rest (a.put op.dst undef) w') : wpList P ops Q (op :: rest) a w := by
  subst hz
  refine wpList_store_cell hgd 3 x y ho hx hy rfl hs (hM.lens.cell hi) (hM.lens.free _) (h _ (hM.onN (grown_setCell w gN _ _) (hM.lens.store i v)) (Kp.of_setN _ _ _))
end
theorem size69 : (Try.prog.info? 69).map (·.size) = some 4 := by kernel_rfl
theorem size21 : (Try.prog.info? 21).map (·.size) = some 1 := by kernel_rfl
theorem size3 : (Try.prog.info? 3).map (·.size) = some 1 := by kernel_rfl

/-- the links behind it -/
def layLk (lk : Nat → Lk) (x a nx li : Nat) : Nat → Lk :=
  let k1 := put lk x ⟨a, nx, li, true⟩
  let k2 := put k1 a ⟨(k1 a).p, x, (k1 a).l, (k1 a).s⟩
  put k2 nx ⟨x, (k2 nx).n, (k2 nx).l, (k2 nx).s⟩

section
variable {w : World} {lo b N M gL gN : Nat} {lk : Nat → Lk} {ln : Nat → Nat}
set_option maxHeartbeats 1000000 in
theorem lay_raw (h : Mem w lo b N M gL gN lk ln) (x a nx li : Nat) (hx : x < N) (ha : a < N + M) (hnx : (lk a).n = nx) (hnn : nx < N + M) (hli : (lk a).l = li) (hlm : li < M) (hln : ln li < 9223372036854775807) :
    Calls Try.prog 37 #[.pointer (some ⟨b, 0, none⟩), .int .i32 (x : Int), .int .i32 (a : Int)] w fun e w' => e = .returned (.tuple #[]) ∧ Mem w' lo b N M gL gN (layLk lk x a nx li) (put ln li (ln li + 1)) ∧ Kp gL gN w w' := by
  have h1 := h.links1
  have h2 := h.lens2
  have c1 := h.links.cell (i := a) (t := 1) (by omega) (by decide)
  have c2 := h.links.cell (i := a) (t := 2) (by omega) (by decide)
  simp only [Lk.cells, List.getElem?_cons_succ, List.getElem?_cons_zero, hnx, hli] at c1 c2
  have hxl : x < N + M := by omega
  have hw : wrap64 ((ln li : Int) + 1) = ((ln li + 1 : Nat) : Int) := by unfold wrap64; omega
  have HM := Lib.hid h
  clear h hnx hli
  go_enter Try.func37, Try.ntmps37
  go_wp2
  go_quiet (fail)
  have HM0 : Hid (Mem (w.drewN nq) lo b N M gL gN lk ln) := Lib.hid (HM.out.kept (grown_drewN w nq none))
  have HK0 : Hid (Kp gL gN w (w.drewN nq)) := Lib.hid (Kp.of_new (grown_drewN w nq none))
  have h1 := HM0.out.links1
  clear HM c1 c2
  generalize w.drewN nq = w0 at *
  go_wp2_with (refine store_link HM0.out x a nx li true (by omega) rfl _ _ rfl rfl rfl size69 ?_)
  intro w1 hm1 hk1
  have HM1 := Lib.hid hm1
  have HK1 := Lib.hid (HK0.out.trans hk1)
  have h1 := HM1.out.links1
  clear hm1 hk1 HM0 HK0
  go_wp2_with (refine store_next HM1.out a x ha rfl _ _ rfl rfl rfl size21 ?_)
  intro w2 hm2 hk2
  have HM2 := Lib.hid hm2
  have HK2 := Lib.hid (HK1.out.trans hk2)
  have h1 := HM2.out.links1
  clear hm2 hk2 HM1 HK1
  go_wp2_with (refine store_prev HM2.out nx x hnn rfl _ _ rfl rfl rfl size21 ?_)
  intro w3 hm3 hk3
  have HM3 := Lib.hid hm3
  have HK3 := Lib.hid (HK2.out.trans hk3)
  have h2 := HM3.out.lens2
  have c3 := HM3.out.lens.cell hlm
  clear hm3 hk3 HM2 HK2
  go_wp2_with (refine store_len HM3.out li (ln li + 1) _ (by first | exact hw | exact (Int.natCast_add _ _).symm) hlm rfl _ _ rfl rfl rfl size3 ?_)
  intro w4 hm4 hk4
  have HM4 := Lib.hid hm4
  have HK4 := Lib.hid (HK3.out.trans hk4)
  clear hm4 hk4 HM3 HK3
  go_wp2
  go_end0
  exact ⟨rfl, HM4.out, HK4.out⟩
end
end Go.Proofs.Ytmjccpgkgkindaa
