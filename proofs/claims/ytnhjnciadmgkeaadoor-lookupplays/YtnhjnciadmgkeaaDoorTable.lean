/-
  How a table lies in memory: a head, the slots that are, and the slots that were. No function is walked here.
-/
import Derived.Test.YtnhjnciadmgkeaaDoorTaken
namespace Go.Proofs.YtnhjnciadmgkeaaDoor
open Go.ChangeShapes Go.WideShapes Go.ChangeAt Go.RowKit
set_option linter.unusedVariables false

/-- 2^k slots that are; 2^j slots that were, if there are any: from nx on -/
structure Tb where
  k : Nat
  bn : Nat → List Ent
  o : Option Nat
  bo : Nat → List Ent
  nx : Nat
  cnt : Nat
  mv : Nat
def Tb.so (T : Tb) : Nat := match T.o with
  | none => 0
  | some j => 2 ^ j
def Tb.fo (T : Tb) (key : Int) : Option Ent := match T.o with
  | none => none
  | some j => fndB j T.bo key
def Tb.fnd (T : Tb) (key : Int) : Option Ent := (fndB T.k T.bn key).or (T.fo key)
def Tb.look (T : Tb) (key : Int) : Option Int := (T.fnd key).map (·.node)
/-- what is left to do -/
def Tb.pot (T : Tb) : Nat := match T.o with
  | none => 0
  | some j => 8 * tot T.bo (2 ^ j) + (2 ^ j - T.nx)
def vold (T : Tb) (gO : Nat) : Value := match T.o with
  | none => .slice none 0 0
  | some j => .slice (some ⟨gO, 0, none⟩) (2 ^ j) (2 ^ j)

structure OldAt (w : World) (lo gO : Nat) (T : Tb) (j : Nat) : Prop where
  jk : j + 1 = T.k
  arr : Arr w lo gO j T.bo
  nx : T.nx ≤ 2 ^ j
  gone : ∀ i, i < T.nx → T.bo i = []
  dis : ∀ e e', inB T.bn (2 ^ T.k) e → inB T.bo (2 ^ j) e' → e.key ≠ e'.key
structure TAt (w : World) (lo b gN gO : Nat) (T : Tb) : Prop where
  k3 : 3 ≤ T.k
  k30 : T.k ≤ 30
  blo : lo ≤ b
  head : w.heap[b]? = some (.cells #[.slice (some ⟨gN, 0, none⟩) (2 ^ T.k) (2 ^ T.k), vold T gO, .int .i64 (T.nx : Int), .int .i64 (T.cnt : Int), .int .u64 (T.mv : Int)] 49 (0, 0))
  now : Arr w lo gN T.k T.bn
  old : ∀ j, T.o = some j → OldAt w lo gO T j
  gNO : T.o ≠ none → gO ≠ gN
  tot : T.cnt = tot T.bn (2 ^ T.k) + tot T.bo T.so
  nxb : T.nx ≤ 1073741824
  cb : T.cnt ≤ 1073741824
  mb : T.mv ≤ 1099511627776

theorem Tab.keep {w w' : World} {lo : Nat} (h : Tab w) (hk : Keep lo w w') (hl : 1 < lo) : Tab w' := fun i hi => by
  have h1 := h i hi
  have hb := hk.low hl (block_lt_of_cell h1)
  rw [← h1]; simp only [World.cell?, hb]
theorem Tab.but {w w' : World} {X : Nat → Prop} (h : Tab w) (hk : But X w w') (hl : ¬ X 1) : Tab w' := fun i hi => by
  have h1 := h i hi
  have hb := hk.block 1 (block_lt_of_cell h1) hl
  rw [← h1]; simp only [World.cell?, hb]

section
variable {w w' : World} {lo b gN gO : Nat} {T : Tb}
theorem TAt.blt (h : TAt w lo b gN gO T) : b < w.heap.size := (Array.getElem?_eq_some_iff.1 h.head).1
theorem TAt.c0 (h : TAt w lo b gN gO T) : w.cell? ⟨b, 0, none⟩ = some (.slice (some ⟨gN, 0, none⟩) (2 ^ T.k) (2 ^ T.k)) := by rw [cell_of_head h.head]; rfl
theorem TAt.c1 (h : TAt w lo b gN gO T) : w.cell? ⟨b, 1, none⟩ = some (vold T gO) := by rw [cell_of_head h.head]; rfl
theorem TAt.c2 (h : TAt w lo b gN gO T) : w.cell? ⟨b, 2, none⟩ = some (.int .i64 (T.nx : Int)) := by rw [cell_of_head h.head]; rfl
theorem TAt.c3 (h : TAt w lo b gN gO T) : w.cell? ⟨b, 3, none⟩ = some (.int .i64 (T.cnt : Int)) := by rw [cell_of_head h.head]; rfl
theorem TAt.c4 (h : TAt w lo b gN gO T) : w.cell? ⟨b, 4, none⟩ = some (.int .u64 (T.mv : Int)) := by rw [cell_of_head h.head]; rfl
theorem TAt.free (h : TAt w lo b gN gO T) (i : Nat) : w.frozen? ⟨b, i, none⟩ = false := frozen_of_head h.head i
/-- the entries of a table -/
def Tb.In (T : Tb) (e : Ent) : Prop := inB T.bn (2 ^ T.k) e ∨ inB T.bo T.so e
theorem so_some {j : Nat} (h : T.o = some j) : T.so = 2 ^ j := by unfold Tb.so; rw [h]
theorem so_none (h : T.o = none) : T.so = 0 := by unfold Tb.so; rw [h]
theorem fo_some {j : Nat} (h : T.o = some j) (key : Int) : T.fo key = fndB j T.bo key := by unfold Tb.fo; rw [h]
theorem fo_none (h : T.o = none) (key : Int) : T.fo key = none := by unfold Tb.fo; rw [h]
theorem vold_some {j : Nat} (h : T.o = some j) : vold T gO = .slice (some ⟨gO, 0, none⟩) (2 ^ j) (2 ^ j) := by unfold vold; rw [h]
theorem vold_none (h : T.o = none) : vold T gO = .slice none 0 0 := by unfold vold; rw [h]
theorem TAt.in_ent (h : TAt w lo b gN gO T) {e : Ent} (he : T.In e) : (∃ a, EntAt w e a) ∧ lo ≤ e.blk ∧ Wd e.key ∧ i32in e.node := by
  rcases he with ⟨i, hi, hm⟩ | ⟨i, hi, hm⟩
  · exact ⟨h.now.ent ⟨i, hi, hm⟩, h.now.ok i hi e hm⟩
  · cases ho : T.o with
    | none => rw [so_none ho] at hi; omega
    | some j =>
      rw [so_some ho] at hi
      exact ⟨(h.old j ho).arr.ent ⟨i, hi, hm⟩, (h.old j ho).arr.ok i hi e hm⟩
theorem TAt.ent_ne_head (h : TAt w lo b gN gO T) {e : Ent} {a : Option Addr} (he : EntAt w e a) : e.blk ≠ b := by
  intro e2
  unfold EntAt at he
  rw [e2] at he
  exact absurd (type_eq he h.head) (by decide)
theorem TAt.row_ne (h : TAt w lo b gN gO T) : gN ≠ b := by
  obtain ⟨cur, hc⟩ := h.now.row.head
  intro e2
  rw [e2] at hc
  exact absurd (type_eq hc h.head) (by decide)
theorem TAt.old_ne (h : TAt w lo b gN gO T) {j : Nat} (ho : T.o = some j) : gO ≠ b := by
  obtain ⟨cur, hc⟩ := (h.old j ho).arr.row.head
  intro e2
  rw [e2] at hc
  exact absurd (type_eq hc h.head) (by decide)
/-- the blocks of a table -/
def Tb.Blk (T : Tb) (b gN gO : Nat) (x : Nat) : Prop := x = b ∨ x = gN ∨ (T.o ≠ none ∧ x = gO) ∨ ∃ e, T.In e ∧ x = e.blk
theorem TAt.blk_own (h : TAt w lo b gN gO T) {x : Nat} (hx : T.Blk b gN gO x) : lo ≤ x ∧ ∃ cur t f, w.heap[x]? = some (.cells cur t f) ∧ ownT t = true := by
  rcases hx with rfl | rfl | ⟨ho, rfl⟩ | ⟨e, he, rfl⟩
  · exact ⟨h.blo, _, _, _, h.head, rfl⟩
  · obtain ⟨cur, hc⟩ := h.now.row.head
    exact ⟨h.now.glo, _, _, _, hc, rfl⟩
  · cases hj : T.o with
    | none => exact absurd hj ho
    | some j =>
      obtain ⟨cur, hc⟩ := (h.old j hj).arr.row.head
      exact ⟨(h.old j hj).arr.glo, _, _, _, hc, rfl⟩
  · obtain ⟨⟨a, ha⟩, hl, _⟩ := h.in_ent he
    exact ⟨hl, _, _, _, ha, rfl⟩
theorem TAt.stay (h : TAt w lo b gN gO T) (hb : ∀ x, T.Blk b gN gO x → w'.heap[x]? = w.heap[x]?) : TAt w' lo b gN gO T := by
  refine ⟨h.k3, h.k30, h.blo, (hb b (.inl rfl)).trans h.head, h.now.stay (hb gN (.inr (.inl rfl))) fun e he => hb _ (.inr (.inr (.inr ⟨e, .inl he, rfl⟩))), fun j hj => ?_, h.gNO, h.tot, h.nxb, h.cb, h.mb⟩
  have ho := h.old j hj
  exact ⟨ho.jk, ho.arr.stay (hb gO (.inr (.inr (.inl ⟨by rw [hj]; simp, rfl⟩)))) fun e he => hb _ (.inr (.inr (.inr ⟨e, .inr (by rw [so_some hj]; exact he), rfl⟩))), ho.nx, ho.gone, ho.dis⟩
theorem TAt.lt_of (h : TAt w lo b gN gO T) {x : Nat} (hx : T.Blk b gN gO x) : x < w.heap.size := by
  obtain ⟨_, cur, t, f, hc, _⟩ := h.blk_own hx
  exact (Array.getElem?_eq_some_iff.1 hc).1
theorem TAt.kept (h : TAt w lo b gN gO T) (hg : w.grownBy w' none) : TAt w' lo b gN gO T := h.stay fun x hx => hg.block x (h.lt_of hx) (by simp)
theorem TAt.keep_of (h : TAt w lo b gN gO T) {X : Nat → Prop} (hb : But X w w') (hx : ∀ x, x < w.heap.size → X x → T.Blk b gN gO x) : Keep lo w w' := hb.keep fun k hk hX => h.blk_own (hx k hk hX)

/-- a number of the head turns -/
theorem TAt.setNx (h : TAt w lo b gN gO T) (n : Nat) (hn : n ≤ 1073741824) (ho : ∀ j, T.o = some j → n ≤ 2 ^ j ∧ ∀ i, i < n → T.bo i = []) : TAt (w.setCell ⟨b, 2, none⟩ (.int .i64 (n : Int))) lo b gN gO { T with nx := n } := by
  have hst : ∀ x, x ≠ b → (w.setCell ⟨b, 2, none⟩ (.int .i64 (n : Int))).heap[x]? = w.heap[x]? := fun x hx => heap_setCell_other _ _ _ _ hx
  refine ⟨h.k3, h.k30, h.blo, by rw [head_set h.head]; rfl, h.now.stay (hst _ h.row_ne) fun e he => ?_, fun j hj => ?_, h.gNO, h.tot, hn, h.cb, h.mb⟩
  · obtain ⟨a, ha⟩ := h.now.ent he
    exact hst _ (h.ent_ne_head ha)
  · have ho' := h.old j hj
    refine ⟨ho'.jk, ho'.arr.stay (hst _ (h.old_ne hj)) fun e he => ?_, (ho j hj).1, (ho j hj).2, ho'.dis⟩
    obtain ⟨a, ha⟩ := ho'.arr.ent he
    exact hst _ (h.ent_ne_head ha)
/-- the slots that were are let go -/
theorem TAt.drop (h : TAt w lo b gN gO T) (ho : ∀ j, T.o = some j → T.nx = 2 ^ j) : TAt (w.setCell ⟨b, 1, none⟩ (.slice none 0 0)) lo b gN gO { T with o := none } := by
  have hst : ∀ x, x ≠ b → (w.setCell ⟨b, 1, none⟩ (.slice none 0 0)).heap[x]? = w.heap[x]? := fun x hx => heap_setCell_other _ _ _ _ hx
  refine ⟨h.k3, h.k30, h.blo, by rw [head_set h.head]; rfl, h.now.stay (hst _ h.row_ne) fun e he => ?_, (fun j hj => by cases hj), fun h => absurd rfl h, ?_, h.nxb, h.cb, h.mb⟩
  · obtain ⟨a, ha⟩ := h.now.ent he
    exact hst _ (h.ent_ne_head ha)
  · show T.cnt = YtnhjnciadmgkeaaDoor.tot T.bn (2 ^ T.k) + 0
    have := h.tot
    cases hj : T.o with
    | none => rw [so_none hj] at this; exact this
    | some j =>
      rw [so_some hj, tot_none (fun i hi => (h.old j hj).gone i (by rw [ho j hj]; exact hi))] at this
      exact this
theorem drop_fnd (h : TAt w lo b gN gO T) (ho : ∀ j, T.o = some j → T.nx = 2 ^ j) {key : Int} (hk : Wd key) : ({ T with o := none } : Tb).fnd key = T.fnd key := by
  unfold Tb.fnd
  congr 1
  cases hj : T.o with
  | none => rw [fo_none hj]; rfl
  | some j =>
    rw [fo_some hj]
    show none = _
    unfold fndB
    have h0 := h.old j hj
    have hjk := h0.jk
    have k3 := h.k3
    have k30 := h.k30
    rw [h0.gone _ (by rw [ho j hj]; exact slotN_lt hk (by omega) (by omega))]; rfl
theorem TAt.setMv (h : TAt w lo b gN gO T) (n : Nat) (hn : n ≤ 1099511627776) : TAt (w.setCell ⟨b, 4, none⟩ (.int .u64 (n : Int))) lo b gN gO { T with mv := n } := by
  have hst : ∀ x, x ≠ b → (w.setCell ⟨b, 4, none⟩ (.int .u64 (n : Int))).heap[x]? = w.heap[x]? := fun x hx => heap_setCell_other _ _ _ _ hx
  refine ⟨h.k3, h.k30, h.blo, by rw [head_set h.head]; rfl, h.now.stay (hst _ h.row_ne) fun e he => ?_, fun j hj => ?_, h.gNO, h.tot, h.nxb, h.cb, hn⟩
  · obtain ⟨a, ha⟩ := h.now.ent he
    exact hst _ (h.ent_ne_head ha)
  · have ho' := h.old j hj
    refine ⟨ho'.jk, ho'.arr.stay (hst _ (h.old_ne hj)) fun e he => ?_, ho'.nx, ho'.gone, ho'.dis⟩
    obtain ⟨a, ha⟩ := ho'.arr.ent he
    exact hst _ (h.ent_ne_head ha)

/-! ### an entry goes from the slots that were to those that are -/
def Tb.moved (T : Tb) (x : Ent) (t : List Ent) : Tb := { T with bn := put T.bn (slotN T.k x.key) (x :: T.bn (slotN T.k x.key)), bo := put T.bo T.nx t }
theorem pop_arr (h : TAt w lo b gN gO T) {j : Nat} (hj : T.o = some j) (hn : T.nx < 2 ^ j) {x : Ent} {t : List Ent} (hl : T.bo T.nx = x :: t) :
    Arr (w.setCell ⟨gO, T.nx, none⟩ (.pointer (hd t))) lo gO j (put T.bo T.nx t) ∧ Arr (w.setCell ⟨gO, T.nx, none⟩ (.pointer (hd t))) lo gN T.k T.bn ∧ EntAt (w.setCell ⟨gO, T.nx, none⟩ (.pointer (hd t))) x (hd t) := by
  have ho := h.old j hj
  have hx : inB T.bo (2 ^ j) x := ⟨_, hn, by rw [hl]; simp⟩
  refine ⟨ho.arr.pop hn hl, h.now.stay (heap_setCell_other _ _ _ _ (h.gNO (by rw [hj]; simp)).symm) fun e he => heap_setCell_other _ _ _ _ ?_, ?_⟩
  · obtain ⟨a, ha⟩ := h.now.ent he
    obtain ⟨cur, hc⟩ := ho.arr.row.head
    intro e2
    unfold EntAt at ha
    rw [e2] at ha
    exact absurd (type_eq ha hc) (by decide)
  · have := ho.arr.ch _ hn
    rw [hl] at this
    exact this.1.stay (heap_setCell_other _ _ _ _ (ho.arr.blk_ne_row hx))
theorem move_at (h : TAt w lo b gN gO T) {j : Nat} (hj : T.o = some j) (hn : T.nx < 2 ^ j) {x : Ent} {t : List Ent} (hl : T.bo T.nx = x :: t) {r : Ending}
    (hp : LayPost (w.setCell ⟨gO, T.nx, none⟩ (.pointer (hd t))) lo gN T.k T.bn x r w') : TAt w' lo b gN gO (T.moved x t) ∧ But (T.Blk b gN gO) w w' := by
  obtain ⟨a1, a2, a3⟩ := pop_arr h hj hn hl
  obtain ⟨_, hn', hb⟩ := hp
  have ho := h.old j hj
  have hx : inB T.bo (2 ^ j) x := ⟨_, hn, by rw [hl]; simp⟩
  have hxe : EntAt w x (hd t) := by have := ho.arr.ch _ hn; rw [hl] at this; exact this.1
  have hgNO := h.gNO (by rw [hj]; simp)
  have hxw := ho.arr.ok _ hn x (by rw [hl]; simp)
  have hsl := slotN_lt (k := T.k) hxw.2.1 (by have := h.k3; omega) h.k30
  have hst : ∀ y, y ≠ gN → y ≠ gO → y ≠ x.blk → y < w.heap.size → w'.heap[y]? = w.heap[y]? := by
    intro y h1 h2 h3 h4
    rw [hb.block y (by simpa using h4) (by intro h; rcases h with h | h; exact h1 h; exact h3 h)]
    exact heap_setCell_other _ _ _ _ h2
  have hpos : ∀ e, inB (put T.bo T.nx t) (2 ^ j) e → inB T.bo (2 ^ j) e ∧ e.key ≠ x.key := by
    intro e he
    have hnd := ho.arr.nd _ hn
    rw [hl] at hnd
    simp only [List.map_cons, List.nodup_cons] at hnd
    rcases inB_put he with ⟨_, hm⟩ | ⟨i, hi1, hi2, hm⟩
    · exact ⟨⟨_, hn, by rw [hl]; simp [hm]⟩, fun h => hnd.1 (by rw [← h]; exact List.mem_map_of_mem hm)⟩
    · refine ⟨⟨i, hi2, hm⟩, fun h => hi1 ?_⟩
      have e1 := ho.arr.sl i hi2 e hm
      have e2 := ho.arr.sl _ hn x (by rw [hl]; simp)
      rw [← e1, ← e2, h]
  refine ⟨⟨h.k3, h.k30, h.blo, ?_, hn', fun j' hj' => ?_, h.gNO, ?_, h.nxb, h.cb, h.mb⟩, ?_⟩
  · rw [hst b h.row_ne.symm (h.old_ne hj).symm (h.ent_ne_head hxe).symm h.blt]; exact h.head
  · obtain rfl : j = j' := by have : T.o = some j' := hj'; rw [hj] at this; exact Option.some.inj this
    refine ⟨ho.jk, a1.stay ?_ fun e he => ?_, ho.nx, fun i hi => ?_, fun e e' he he' => ?_⟩
    · refine hb.block gO (by simpa using ho.arr.row.lt) ?_
      rintro (h1 | h1)
      · exact hgNO h1
      · exact ho.arr.blk_ne_row hx h1.symm
    · obtain ⟨h1, h2⟩ := hpos e he
      obtain ⟨a, ha⟩ := a1.ent he
      refine hb.block e.blk ha.lt ?_
      rintro (h3 | h3)
      · obtain ⟨cur, hc⟩ := h.now.row.head
        obtain ⟨a', ha'⟩ := ho.arr.ent h1
        unfold EntAt at ha'
        rw [h3] at ha'
        exact absurd (type_eq ha' hc) (by decide)
      · obtain ⟨a', ha'⟩ := ho.arr.ent h1
        exact h2 (ha'.key_eq hxe h3)
    · show put T.bo T.nx t i = []
      rw [put_other (by have : i < T.nx := hi; omega)]; exact ho.gone i hi
    · obtain ⟨h1, h2⟩ := hpos e' he'
      rcases inB_put he with ⟨_, hm⟩ | ⟨i, hi1, hi2, hm⟩
      · rcases List.mem_cons.1 hm with rfl | hm
        · exact fun h => h2 h.symm
        · exact ho.dis e e' ⟨_, hsl, hm⟩ h1
      · exact ho.dis e e' ⟨i, hi2, hm⟩ h1
  · show T.cnt = YtnhjnciadmgkeaaDoor.tot (put T.bn _ _) (2 ^ T.k) + YtnhjnciadmgkeaaDoor.tot (put T.bo T.nx t) T.so
    have h1 := tot_put T.bn (slotN T.k x.key) (x :: T.bn (slotN T.k x.key)) (2 ^ T.k) hsl
    have h2 := tot_put T.bo T.nx t (2 ^ j) hn
    rw [hl] at h2
    have h3 := h.tot
    rw [so_some hj] at h3 ⊢
    simp only [List.length_cons] at h1 h2
    omega
  · refine ((But.of_set w gO T.nx _ ?_).trans (hb.wide ?_) : But (T.Blk b gN gO) w w')
    · exact .inr (.inr (.inl ⟨by rw [hj]; simp, rfl⟩))
    · rintro y (rfl | rfl)
      · exact .inr (.inl rfl)
      · exact .inr (.inr (.inr ⟨x, .inr (by rw [so_some hj]; exact hx), rfl⟩))
theorem moved_fnd (h : TAt w lo b gN gO T) {j : Nat} (hj : T.o = some j) (hn : T.nx < 2 ^ j) {x : Ent} {t : List Ent} (hl : T.bo T.nx = x :: t) {key : Int} (hk : Wd key) : (T.moved x t).fnd key = T.fnd key := by
  have ho := h.old j hj
  have hjk := ho.jk
  have k3 := h.k3
  have k30 := h.k30
  have hxs : slotN j x.key = T.nx := ho.arr.sl _ hn x (by rw [hl]; simp)
  have hx : inB T.bo (2 ^ j) x := ⟨_, hn, by rw [hl]; simp⟩
  have hxw := (ho.arr.ok _ hn x (by rw [hl]; simp)).2.1
  have hnd := ho.arr.nd _ hn
  rw [hl] at hnd
  simp only [List.map_cons, List.nodup_cons] at hnd
  unfold Tb.fnd
  rw [fo_some hj, fo_some (T := T.moved x t) hj]
  show (fndB T.k (put T.bn (slotN T.k x.key) (x :: T.bn (slotN T.k x.key))) key).or (fndB j (put T.bo T.nx t) key) = _
  unfold fndB
  by_cases hkey : key = x.key
  · subst hkey
    rw [put_same, fnd_cons, if_pos rfl, hxs, hl]
    have hno : fnd x.key (T.bn (slotN T.k x.key)) = none := fnd_none.2 fun e he => ho.dis e x ⟨_, slotN_lt hxw (by omega) k30, he⟩ hx
    rw [hno, fnd_cons, if_pos rfl]; rfl
  · have hkey' : ¬ x.key = key := fun e => hkey e.symm
    congr 1
    · by_cases hs : slotN T.k key = slotN T.k x.key
      · rw [hs, put_same, fnd_cons, if_neg hkey']
      · rw [put_other hs]
    · by_cases hs : slotN j key = T.nx
      · rw [hs, put_same, hl, fnd_cons, if_neg hkey']
      · rw [put_other hs]
end
end Go.Proofs.YtnhjnciadmgkeaaDoor
