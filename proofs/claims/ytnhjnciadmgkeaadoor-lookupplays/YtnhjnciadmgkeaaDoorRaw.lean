/-
  A table in the midst of a Put: the count has turned, the key is not yet laid. No function is walked here but makeAnew and New.
-/
import Derived.Test.YtnhjnciadmgkeaaDoorSome2
import Derived.Deep.OwnRows
namespace Go.Proofs.YtnhjnciadmgkeaaDoor
open Go.ChangeShapes Go.WideShapes Go.ChangeAt Go.RowKit
set_option linter.unusedVariables false

theorem some_any {w : World} {lo b gN gO : Nat} {T : Tb} (u : FrameMode) (h : TAt w lo b gN gO T) (ht : Tab w) (hlo : 1 < lo) (hm : T.mv + 4 ≤ 1099511627776) :
    CallsD Tryd.prog 24 #[.pointer (some ⟨b, 0, none⟩)] u w fun e u' w' => u' = u ∧ (e = .returned (.tuple #[]) ∧ SomePost w lo b gN gO T w') := by
  cases hj : T.o with
  | none => exact some_none u h hj
  | some j => exact some_some u h ht hlo hj hm

structure TRaw (w : World) (lo b gN gO : Nat) (T : Tb) (c : Nat) : Prop where
  k3 : 3 ≤ T.k
  k30 : T.k ≤ 30
  blo : lo ≤ b
  head : w.heap[b]? = some (.cells #[.slice (some ⟨gN, 0, none⟩) (2 ^ T.k) (2 ^ T.k), vold T gO, .int .i64 (T.nx : Int), .int .i64 (c : Int), .int .u64 (T.mv : Int)] 49 (0, 0))
  now : Arr w lo gN T.k T.bn
  old : ∀ j, T.o = some j → OldAt w lo gO T j
  gNO : T.o ≠ none → gO ≠ gN
  nxb : T.nx ≤ 1073741824
  mb : T.mv ≤ 1099511627776
section
variable {w w' : World} {lo b gN gO c : Nat} {T : Tb}
theorem TAt.raw (h : TAt w lo b gN gO T) : TRaw w lo b gN gO T T.cnt := ⟨h.k3, h.k30, h.blo, h.head, h.now, h.old, h.gNO, h.nxb, h.mb⟩
theorem TRaw.done (h : TRaw w lo b gN gO T c) (ht : c = tot T.bn (2 ^ T.k) + tot T.bo T.so) (hc : c ≤ 1073741824) : TAt w lo b gN gO { T with cnt := c } :=
  ⟨h.k3, h.k30, h.blo, h.head, h.now, fun j hj => ⟨(h.old j hj).jk, (h.old j hj).arr, (h.old j hj).nx, (h.old j hj).gone, (h.old j hj).dis⟩, h.gNO, ht, h.nxb, hc, h.mb⟩
theorem TRaw.blt (h : TRaw w lo b gN gO T c) : b < w.heap.size := (Array.getElem?_eq_some_iff.1 h.head).1
theorem TRaw.c0 (h : TRaw w lo b gN gO T c) : w.cell? ⟨b, 0, none⟩ = some (.slice (some ⟨gN, 0, none⟩) (2 ^ T.k) (2 ^ T.k)) := by rw [cell_of_head h.head]; rfl
theorem TRaw.c1 (h : TRaw w lo b gN gO T c) : w.cell? ⟨b, 1, none⟩ = some (vold T gO) := by rw [cell_of_head h.head]; rfl
theorem TRaw.c2 (h : TRaw w lo b gN gO T c) : w.cell? ⟨b, 2, none⟩ = some (.int .i64 (T.nx : Int)) := by rw [cell_of_head h.head]; rfl
theorem TRaw.c3 (h : TRaw w lo b gN gO T c) : w.cell? ⟨b, 3, none⟩ = some (.int .i64 (c : Int)) := by rw [cell_of_head h.head]; rfl
theorem TRaw.free (h : TRaw w lo b gN gO T c) (i : Nat) : w.frozen? ⟨b, i, none⟩ = false := frozen_of_head h.head i
theorem TRaw.ent_ne_head (h : TRaw w lo b gN gO T c) {e : Ent} {a : Option Addr} (he : EntAt w e a) : e.blk ≠ b := by
  intro e2
  unfold EntAt at he
  rw [e2] at he
  exact absurd (type_eq he h.head) (by decide)
theorem TRaw.row_ne (h : TRaw w lo b gN gO T c) : gN ≠ b := by
  obtain ⟨cur, hc⟩ := h.now.row.head
  intro e2
  rw [e2] at hc
  exact absurd (type_eq hc h.head) (by decide)
theorem TRaw.old_ne (h : TRaw w lo b gN gO T c) {j : Nat} (ho : T.o = some j) : gO ≠ b := by
  obtain ⟨cur, hc⟩ := (h.old j ho).arr.row.head
  intro e2
  rw [e2] at hc
  exact absurd (type_eq hc h.head) (by decide)
theorem TRaw.kept (h : TRaw w lo b gN gO T c) (hg : w.grownBy w' none) : TRaw w' lo b gN gO T c := by
  refine ⟨h.k3, h.k30, h.blo, (hg.block b h.blt (by simp)).trans h.head, h.now.stay (hg.block gN h.now.row.lt (by simp)) fun e he => ?_, fun j hj => ?_, h.gNO, h.nxb, h.mb⟩
  · obtain ⟨a, ha⟩ := h.now.ent he
    exact hg.block _ ha.lt (by simp)
  · have ho := h.old j hj
    refine ⟨ho.jk, ho.arr.stay (hg.block gO ho.arr.row.lt (by simp)) fun e he => ?_, ho.nx, ho.gone, ho.dis⟩
    obtain ⟨a, ha⟩ := ho.arr.ent he
    exact hg.block _ ha.lt (by simp)
theorem TRaw.setCnt (h : TRaw w lo b gN gO T c) (n : Nat) : TRaw (w.setCell ⟨b, 3, none⟩ (.int .i64 (n : Int))) lo b gN gO T n ∧ Keep lo w (w.setCell ⟨b, 3, none⟩ (.int .i64 (n : Int))) := by
  have hst : ∀ x, x ≠ b → (w.setCell ⟨b, 3, none⟩ (.int .i64 (n : Int))).heap[x]? = w.heap[x]? := fun x hx => heap_setCell_other _ _ _ _ hx
  refine ⟨⟨h.k3, h.k30, h.blo, by rw [head_set h.head]; rfl, h.now.stay (hst _ h.row_ne) fun e he => ?_, fun j hj => ?_, h.gNO, h.nxb, h.mb⟩, Keep.of_block (grown_setCell w b 3 _) h.blo h.head rfl⟩
  · obtain ⟨a, ha⟩ := h.now.ent he
    exact hst _ (h.ent_ne_head ha)
  · have ho' := h.old j hj
    refine ⟨ho'.jk, ho'.arr.stay (hst _ (h.old_ne hj)) fun e he => ?_, ho'.nx, ho'.gone, ho'.dis⟩
    obtain ⟨a, ha⟩ := ho'.arr.ent he
    exact hst _ (h.ent_ne_head ha)
/-- a key is laid -/
def Tb.laid (T : Tb) (e : Ent) : Tb := { T with bn := put T.bn (slotN T.k e.key) (e :: T.bn (slotN T.k e.key)) }
theorem TRaw.laid (h : TRaw w lo b gN gO T c) {e : Ent} {a : Option Addr} (he : EntAt w e a) (hl : lo ≤ e.blk) (hwd : Wd e.key) (hf : ∀ x, T.In x → x.key ≠ e.key) {r : Ending} (hp : LayPost w lo gN T.k T.bn e r w') :
    TRaw w' lo b gN gO (T.laid e) c ∧ Keep lo w w' := by
  obtain ⟨_, hn, hb⟩ := hp
  have hsl := slotN_lt (k := T.k) hwd (by have := h.k3; omega) h.k30
  refine ⟨⟨h.k3, h.k30, h.blo, ?_, hn, fun j hj => ?_, h.gNO, h.nxb, h.mb⟩, hb.keep ?_⟩
  · rw [hb.block b h.blt (by rintro (h1 | h1); exact h.row_ne h1.symm; exact h.ent_ne_head he h1.symm)]; exact h.head
  · have ho := h.old j hj
    refine ⟨ho.jk, ho.arr.stay (hb.block gO ho.arr.row.lt ?_) fun x hx => ?_, ho.nx, ho.gone, fun x y hx hy => ?_⟩
    · rintro (h1 | h1)
      · exact h.gNO (by have : T.o = some j := hj; rw [this]; simp) h1
      · obtain ⟨cur, hc⟩ := ho.arr.row.head
        unfold EntAt at he
        rw [← h1] at he
        exact absurd (type_eq he hc) (by decide)
    · obtain ⟨a', ha'⟩ := ho.arr.ent hx
      refine hb.block _ ha'.lt ?_
      rintro (h1 | h1)
      · obtain ⟨cur, hc⟩ := h.now.row.head
        unfold EntAt at ha'
        rw [h1] at ha'
        exact absurd (type_eq ha' hc) (by decide)
      · exact hf x (.inr (by have : T.o = some j := hj; rw [so_some this]; exact hx)) (ha'.key_eq he h1)
    · rcases inB_put hx with ⟨_, hm⟩ | ⟨i, hi1, hi2, hm⟩
      · rcases List.mem_cons.1 hm with rfl | hm
        · exact fun h2 => hf y (.inr (by have : T.o = some j := hj; rw [so_some this]; exact hy)) h2.symm
        · exact ho.dis x y ⟨_, hsl, hm⟩ hy
      · exact ho.dis x y ⟨i, hi2, hm⟩ hy
  · rintro x hx (rfl | rfl)
    · obtain ⟨cur, hc⟩ := h.now.row.head
      exact ⟨h.now.glo, _, _, _, hc, rfl⟩
    · exact ⟨hl, _, _, _, he, rfl⟩
theorem laid_tot (h : TRaw w lo b gN gO T c) (e : Ent) (hwd : Wd e.key) : tot (T.laid e).bn (2 ^ T.k) = tot T.bn (2 ^ T.k) + 1 := by
  have hsl := slotN_lt (k := T.k) hwd (by have := h.k3; omega) h.k30
  have := tot_put T.bn (slotN T.k e.key) (e :: T.bn (slotN T.k e.key)) (2 ^ T.k) hsl
  simp only [List.length_cons] at this
  show tot (put T.bn _ _) _ = _
  omega
theorem laid_fnd (T : Tb) (e : Ent) (key : Int) : (T.laid e).fnd key = if key = e.key then some e else T.fnd key := by
  unfold Tb.fnd
  have e1 : (T.laid e).fo key = T.fo key := rfl
  rw [e1]
  show (fndB T.k (put T.bn (slotN T.k e.key) (e :: T.bn (slotN T.k e.key))) key).or _ = _
  unfold fndB
  by_cases hk : key = e.key
  · subst hk; rw [if_pos rfl, put_same, fnd_cons, if_pos rfl]; rfl
  · rw [if_neg hk]
    congr 1
    by_cases hs : slotN T.k key = slotN T.k e.key
    · rw [hs, put_same, fnd_cons, if_neg (fun h => hk h.symm)]
    · rw [put_other hs]

/-! ### slots are made anew -/
def Tb.anew (T : Tb) : Tb := ⟨T.k + 1, fun _ => [], some T.k, T.bn, 0, T.cnt, T.mv⟩
def anewW (w : World) (b gN n m : Nat) : World :=
  (((w.setCell ⟨b, 1, none⟩ (.slice (some ⟨gN, 0, none⟩) n n)).setCell ⟨b, 2, none⟩ (.int .i64 0)).alloc (.cells (madeCells #[.pointer none] m) 59)).setCell ⟨b, 0, none⟩ (.slice (some ⟨w.heap.size, 0, none⟩) m m)
theorem info59 : (Tryd.prog.info? 59).map (fun i => (i.zero, i.size, i.bytes)) = some (some (.pointer none), 1, 8) := by kernel_rfl
theorem made_row {w : World} {g n : Nat} (hg : w.heap[g]? = some (.cells (madeCells #[.pointer none] n) 59 (0, 0))) : RowAt w g n (fun _ => []) := by
  refine ⟨_, hg, ?_, fun i hi => ?_⟩
  · have := congrArg List.length (toList_madeCells_one (Value.pointer none) n)
    simpa using this
  · have := toList_madeCells_one (Value.pointer none) n
    rw [← Array.getElem?_toList, this, List.getElem?_replicate, if_pos hi]; rfl
theorem made_arr {w : World} {lo g k : Nat} (hl : lo ≤ g) (hg : w.heap[g]? = some (.cells (madeCells #[.pointer none] (2 ^ k)) 59 (0, 0))) : Arr w lo g k (fun _ => []) :=
  ⟨hl, made_row hg, fun _ _ => trivial, (fun _ _ _ h => nomatch h), fun _ _ => List.nodup_nil, (fun _ _ _ h => nomatch h)⟩
theorem TRaw.anew (h : TRaw w lo b gN gO T c) (hk : T.k ≤ 29) : TRaw (anewW w b gN (2 ^ T.k) (2 ^ (T.k + 1))) lo b w.heap.size gN T.anew c ∧ Keep lo w (anewW w b gN (2 ^ T.k) (2 ^ (T.k + 1))) ∧ (anewW w b gN (2 ^ T.k) (2 ^ (T.k + 1))).heap.size = w.heap.size + 1 := by
  have hb := h.blt
  have hlb : lo ≤ w.heap.size := by have := h.blo; omega
  have hsz : (anewW w b gN (2 ^ T.k) (2 ^ (T.k + 1))).heap.size = w.heap.size + 1 := by simp [anewW]
  have hst : ∀ x, x < w.heap.size → x ≠ b → (anewW w b gN (2 ^ T.k) (2 ^ (T.k + 1))).heap[x]? = w.heap[x]? := by
    intro x hx hxb
    unfold anewW
    rw [heap_setCell_other _ _ _ _ hxb, Below.heap_alloc _ _ _ (by simpa using hx), heap_setCell_other _ _ _ _ hxb, heap_setCell_other _ _ _ _ hxb]
  have hhd : (anewW w b gN (2 ^ T.k) (2 ^ (T.k + 1))).heap[b]? = some (.cells #[.slice (some ⟨w.heap.size, 0, none⟩) (2 ^ (T.k + 1)) (2 ^ (T.k + 1)), .slice (some ⟨gN, 0, none⟩) (2 ^ T.k) (2 ^ T.k), .int .i64 0, .int .i64 (c : Int), .int .u64 (T.mv : Int)] 49 (0, 0)) := by
    have h1 := head_set h.head 1 (.slice (some ⟨gN, 0, none⟩) (2 ^ T.k) (2 ^ T.k))
    have h2 := head_set h1 2 (.int .i64 0)
    have h3 : (((w.setCell ⟨b, 1, none⟩ (.slice (some ⟨gN, 0, none⟩) (2 ^ T.k) (2 ^ T.k))).setCell ⟨b, 2, none⟩ (.int .i64 0)).alloc (.cells (madeCells #[.pointer none] (2 ^ (T.k + 1))) 59)).heap[b]? = _ :=
      (Below.heap_alloc _ _ _ (by simpa using hb)).trans h2
    exact head_set h3 0 _
  have hrow : (anewW w b gN (2 ^ T.k) (2 ^ (T.k + 1))).heap[w.heap.size]? = some (.cells (madeCells #[.pointer none] (2 ^ (T.k + 1))) 59 (0, 0)) := by
    unfold anewW
    rw [heap_setCell_other _ _ _ _ (by show w.heap.size ≠ b; omega)]
    have := heap_alloc_new ((w.setCell ⟨b, 1, none⟩ (.slice (some ⟨gN, 0, none⟩) (2 ^ T.k) (2 ^ T.k))).setCell ⟨b, 2, none⟩ (.int .i64 0)) (.cells (madeCells #[.pointer none] (2 ^ (T.k + 1))) 59)
    simpa using this
  have hk3 := h.k3
  refine ⟨⟨by show 3 ≤ T.k + 1; omega, by show T.k + 1 ≤ 30; omega, h.blo, hhd, made_arr hlb hrow, fun j hj => ?_, fun _ => by have := h.now.row.lt; omega, by show 0 ≤ _; omega, h.mb⟩, ?_, hsz⟩
  · obtain rfl : T.k = j := by injection hj
    refine ⟨rfl, h.now.stay (hst _ h.now.row.lt h.row_ne) fun e he => ?_, Nat.zero_le _, fun i hi => absurd hi (Nat.not_lt_zero i), fun e e' he _ => ?_⟩
    · obtain ⟨a, ha⟩ := h.now.ent he
      exact hst _ ha.lt (h.ent_ne_head ha)
    · obtain ⟨i, _, hm⟩ := he
      cases hm
  · refine ⟨rfl, rfl, rfl, by omega, fun x hx hc => ?_⟩
    refine hst x hx fun e => ?_
    subst e
    rcases hc with hc | hc
    · have := h.blo; omega
    · exact absurd (hc _ _ _ h.head) (by decide)
theorem anew_fnd (h : TRaw w lo b gN gO T c) (ho : T.o = none) (key : Int) : T.anew.fnd key = T.fnd key := by
  unfold Tb.fnd
  rw [fo_none ho, Option.or_none]
  show (fnd key []).or (fndB T.k T.bn key) = _
  rfl
set_option maxHeartbeats 1000000 in
theorem anew_raw (n m : Nat) (v1 v2 v0 : Value) (c0 : w.cell? ⟨b, 0, none⟩ = some (.slice (some ⟨gN, 0, none⟩) n n)) (c1 : w.cell? ⟨b, 1, none⟩ = some v1) (c2 : w.cell? ⟨b, 2, none⟩ = some v2)
    (f : ∀ i, w.frozen? ⟨b, i, none⟩ = false) (hm : m = 2 * n) (hb : m ≤ 1073741824) :
    Calls Tryd.prog 26 #[.pointer (some ⟨b, 0, none⟩)] w fun r w' => r = .returned (.tuple #[]) ∧ w' = anewW w b gN n m := by
  have hmk := run_make_row' (P := Tryd.prog) 47 59 (.pointer none) 8 Tryd.underlying47 info59 rfl .i64 .i64 m (by omega) (by omega)
  have f0 := f 0
  have f1 := f 1
  have f2 := f 2
  have em : (2 : Int) * (n : Int) = (m : Int) := by omega
  have hblt := block_lt_of_cell c0
  clear f hm
  unfold anewW
  go_enter Tryd.func26, Tryd.ntmps26
  go_wp2
  go_end0
  exact ⟨rfl, rfl⟩
end
end Go.Proofs.YtnhjnciadmgkeaaDoor
