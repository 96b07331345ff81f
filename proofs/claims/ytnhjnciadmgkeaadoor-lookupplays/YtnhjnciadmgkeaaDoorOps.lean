/-
  What a Put and a Drop make of a table: no function is walked here.
-/
import Derived.Test.YtnhjnciadmgkeaaDoorRaw
namespace Go.Proofs.YtnhjnciadmgkeaaDoor
open Go.ChangeShapes Go.WideShapes Go.ChangeAt Go.RowKit
set_option linter.unusedVariables false

/-- there are slots enough, and what waits will have been moved in time -/
structure Good (T : Tb) : Prop where
  half : 2 * T.cnt ≤ 2 ^ T.k
  wait : ∀ j, T.o = some j → T.nx < 2 ^ j ∧ T.pot + 32 * T.cnt ≤ 32 * 2 ^ j
structure Pre (T : Tb) : Prop where
  half : 2 * T.cnt ≤ 2 ^ T.k
  wait : ∀ j, T.o = some j → T.pot + 32 * T.cnt ≤ 32 * 2 ^ j + 32
section
variable {w w' : World} {lo b gN gO c : Nat} {T T' : Tb}
theorem pot_some {j : Nat} (h : T.o = some j) : T.pot = 8 * tot T.bo (2 ^ j) + (2 ^ j - T.nx) := by unfold Tb.pot; rw [h]
theorem Pre.good (h : Pre T) (hm : Moved T T') (ht : TAt w lo b gN gO T') : Good T' := by
  refine ⟨by rw [hm.cnt, hm.k]; exact h.half, fun j hj => ?_⟩
  rcases hm.pot with ho | ⟨ho, h1, h2⟩
  · rw [ho] at hj; cases hj
  · have h3 := h.wait j (by rw [← ho]; exact hj)
    rw [hm.cnt]
    refine ⟨?_, by omega⟩
    have h4 := (ht.old j hj).nx
    have h5 := (ht.old j hj).gone
    rw [pot_some hj] at h2
    refine Nat.lt_of_le_of_ne h4 fun e => ?_
    rw [tot_none (fun i hi => h5 i (by omega))] at h2
    omega

/-! ### a key gets another node -/
def Tb.ren (T : Tb) (key node : Int) : Tb := { T with
  bn := put T.bn (slotN T.k key) (YtnhjnciadmgkeaaDoor.ren key node (T.bn (slotN T.k key)))
  bo := match T.o with
    | none => T.bo
    | some j => put T.bo (slotN j key) (YtnhjnciadmgkeaaDoor.ren key node (T.bo (slotN j key))) }
theorem ren_bo_some {j : Nat} (h : T.o = some j) (key node : Int) : (T.ren key node).bo = put T.bo (slotN j key) (YtnhjnciadmgkeaaDoor.ren key node (T.bo (slotN j key))) := by unfold Tb.ren; rw [h]
theorem ren_bo_none (h : T.o = none) (key node : Int) : (T.ren key node).bo = T.bo := by unfold Tb.ren; rw [h]
theorem inB_ren {bk : Nat → List Ent} {n p : Nat} {key node : Int} {e : Ent} (h : inB (put bk p (YtnhjnciadmgkeaaDoor.ren key node (bk p))) n e) : ∃ e', inB bk n e' ∧ e.key = e'.key ∧ e.blk = e'.blk := by
  rcases inB_put h with ⟨hp, hm⟩ | ⟨j, _, hj, hm⟩
  · obtain ⟨z, hz, e1, e2, _⟩ := ren_mem hm
    exact ⟨z, ⟨p, hp, hz⟩, e2, e1⟩
  · exact ⟨e, ⟨j, hj, hm⟩, rfl, rfl⟩
theorem tot_ren (bk : Nat → List Ent) (p n : Nat) (key node : Int) : tot (put bk p (YtnhjnciadmgkeaaDoor.ren key node (bk p))) n = tot bk n := by
  refine tot_congr fun i _ => ?_
  by_cases h : i = p
  · subst h; rw [put_same, ren_len]
  · rw [put_other h]
theorem TAt.ren (h : TAt w lo b gN gO T) {key node : Int} (hk : Wd key) (hi : i32in node) {e : Ent} (hf : T.fnd key = some e) : TAt (w.setCell ⟨e.blk, 1, none⟩ (.int .i32 node)) lo b gN gO (T.ren key node) := by
  obtain ⟨hin, hek⟩ := fnd_in h hk hf
  obtain ⟨⟨a, ha⟩, hok⟩ := h.in_ent hin
  have k3 := h.k3
  have k30 := h.k30
  have hst : ∀ x, x ≠ e.blk → (w.setCell ⟨e.blk, 1, none⟩ (.int .i32 node)).heap[x]? = w.heap[x]? := fun x hx => heap_setCell_other _ _ _ _ hx
  have hne : ∀ x a', EntAt w x a' → x.key ≠ key → x.blk ≠ e.blk := fun x a' hx h1 h2 => h1 ((hx.key_eq ha h2).trans hek)
  have hrow : ∀ g cur, w.heap[g]? = some (.cells cur 59 (0, 0)) → g ≠ e.blk := by
    intro g cur hc e2
    unfold EntAt at ha
    rw [← e2] at ha
    exact absurd (type_eq ha hc) (by decide)
  have hsame : ∀ {g k : Nat} {bk : Nat → List Ent}, Arr w lo g k bk → (∀ x, inB bk (2 ^ k) x → x.key ≠ key) → 1 ≤ k → k ≤ 30 → Arr (w.setCell ⟨e.blk, 1, none⟩ (.int .i32 node)) lo g k (put bk (slotN k key) (YtnhjnciadmgkeaaDoor.ren key node (bk (slotN k key)))) := by
    intro g k bk hA hno h1 h2
    rw [ren_none (fun x hx => hno x ⟨_, slotN_lt hk h1 h2, hx⟩), put_self]
    obtain ⟨cur, hc⟩ := hA.row.head
    refine hA.stay (hst _ (hrow g cur hc)) fun x hx => ?_
    obtain ⟨a', ha'⟩ := hA.ent hx
    exact hst _ (hne x a' ha' (hno x hx))
  have hturn : ∀ {g k : Nat} {bk : Nat → List Ent}, Arr w lo g k bk → inB bk (2 ^ k) e → Arr (w.setCell ⟨e.blk, 1, none⟩ (.int .i32 node)) lo g k (put bk (slotN k key) (YtnhjnciadmgkeaaDoor.ren key node (bk (slotN k key)))) := by
    intro g k bk hA hin
    obtain ⟨p, hp, hm⟩ := hin
    have := hA.ren hp hm node hi
    rw [hek, ← hA.sl p hp e hm, hek] at this
    exact this
  refine ⟨k3, k30, h.blo, ?_, ?_, fun j hj => ?_, h.gNO, ?_, h.nxb, h.cb, h.mb⟩
  · rw [hst b (h.ent_ne_head ha).symm, h.head]
    cases ho : T.o <;> simp [vold, Tb.ren, ho]
  · rcases hin with hin | hin
    · exact hturn h.now hin
    · cases ho : T.o with
      | none => rw [so_none ho] at hin; obtain ⟨i, hi2, _⟩ := hin; exact absurd hi2 (Nat.not_lt_zero i)
      | some j =>
        rw [so_some ho] at hin
        exact hsame h.now (fun x hx => by rw [← hek]; exact (h.old j ho).dis x e hx hin) (show 1 ≤ T.k by omega) k30
  · have hj' : T.o = some j := hj
    have ho := h.old j hj'
    have hjk := ho.jk
    refine ⟨ho.jk, ?_, ho.nx, fun i hi2 => ?_, fun x y hx hy => ?_⟩
    · rw [ren_bo_some hj']
      rcases hin with hin | hin
      · exact hsame ho.arr (fun x hx => by rw [← hek]; exact fun e2 => ho.dis e x hin hx e2.symm) (show 1 ≤ j by omega) (show j ≤ 30 by omega)
      · rw [so_some hj'] at hin
        exact hturn ho.arr hin
    · rw [ren_bo_some hj']
      have hg := ho.gone i hi2
      by_cases hip : i = slotN j key
      · subst hip; rw [put_same, hg]; rfl
      · rw [put_other hip, hg]
    · rw [ren_bo_some hj'] at hy
      obtain ⟨x', hx', ex, _⟩ := inB_ren hx
      obtain ⟨y', hy', ey, _⟩ := inB_ren hy
      rw [ex, ey]
      exact ho.dis x' y' hx' hy'
  · show T.cnt = YtnhjnciadmgkeaaDoor.tot (put T.bn _ _) (2 ^ T.k) + YtnhjnciadmgkeaaDoor.tot (T.ren key node).bo T.so
    rw [tot_ren]
    have := h.tot
    cases ho : T.o with
    | none => rw [ren_bo_none ho]; exact this
    | some j => rw [ren_bo_some ho, tot_ren]; exact this
theorem ren_fndT (key node k2 : Int) : (T.ren key node).fnd k2 = if k2 = key then (T.fnd k2).map (fun e => ⟨e.blk, e.key, node⟩) else T.fnd k2 := by
  have hB : ∀ (k : Nat) (bk : Nat → List Ent), fndB k (put bk (slotN k key) (YtnhjnciadmgkeaaDoor.ren key node (bk (slotN k key)))) k2 = if k2 = key then (fndB k bk k2).map (fun e => ⟨e.blk, e.key, node⟩) else fndB k bk k2 := by
    intro k bk
    unfold fndB
    by_cases hs : slotN k k2 = slotN k key
    · rw [hs, put_same, ren_fnd]
    · rw [put_other hs, if_neg (fun e => hs (by rw [e]))]
  unfold Tb.fnd
  show (fndB T.k (put T.bn _ _) k2).or ((T.ren key node).fo k2) = _
  rw [hB]
  have hO : (T.ren key node).fo k2 = if k2 = key then (T.fo k2).map (fun e => ⟨e.blk, e.key, node⟩) else T.fo k2 := by
    cases ho : T.o with
    | none => rw [fo_none ho, fo_none (T := T.ren key node) ho]; simp
    | some j => rw [fo_some ho, fo_some (T := T.ren key node) ho, ren_bo_some ho, hB]
  rw [hO]
  by_cases hk : k2 = key
  · simp only [if_pos hk]
    cases fndB T.k T.bn k2 <;> rfl
  · simp only [if_neg hk]
theorem ren_pot (key node : Int) : (T.ren key node).pot = T.pot := by
  unfold Tb.pot
  have : (T.ren key node).o = T.o := rfl
  rw [this]
  cases ho : T.o with
  | none => rfl
  | some j => simp only []; rw [ren_bo_some ho, tot_ren]; rfl

/-! ### a key goes -/
def Tb.remN (T : Tb) (key : Int) : Tb := { T with bn := put T.bn (slotN T.k key) (rem key (T.bn (slotN T.k key))) }
def Tb.remO (T : Tb) (j : Nat) (key : Int) : Tb := { T with bo := put T.bo (slotN j key) (rem key (T.bo (slotN j key))) }
theorem inB_rem {bk : Nat → List Ent} {n p : Nat} {key : Int} {e : Ent} (h : inB (put bk p (rem key (bk p))) n e) : inB bk n e := by
  rcases inB_put h with ⟨hp, hm⟩ | ⟨j, _, hj, hm⟩
  · exact ⟨p, hp, (rem_mem.1 hm).1⟩
  · exact ⟨j, hj, hm⟩
theorem fndB_rem (k : Nat) (bk : Nat → List Ent) (key k2 : Int) : fndB k (put bk (slotN k key) (rem key (bk (slotN k key)))) k2 = if k2 = key then none else fndB k bk k2 := by
  unfold fndB
  by_cases hs : slotN k k2 = slotN k key
  · rw [hs, put_same, rem_fnd]
  · rw [put_other hs, if_neg (fun e => hs (by rw [e]))]
theorem TRaw.remN (h : TRaw w lo b gN gO T c) {key : Int} (hk : Wd key) {r : Ending} (hp : TakePost w lo gN T.k T.bn key r w') : TRaw w' lo b gN gO (T.remN key) c ∧ Keep lo w w' := by
  obtain ⟨_, hn, hb⟩ := hp
  have k3 := h.k3
  have hsl := slotN_lt (k := T.k) hk (by omega) h.k30
  have hX : ∀ x, (x = gN ∨ ∃ y, y ∈ T.bn (slotN T.k key) ∧ x = y.blk) → lo ≤ x ∧ ((∃ cur, w.heap[x]? = some (.cells cur 59 (0, 0))) ∨ ∃ y a, inB T.bn (2 ^ T.k) y ∧ EntAt w y a ∧ x = y.blk) := by
    rintro x (rfl | ⟨y, hy, rfl⟩)
    · exact ⟨h.now.glo, .inl h.now.row.head⟩
    · obtain ⟨a, ha⟩ := h.now.ent ⟨_, hsl, hy⟩
      exact ⟨(h.now.ok _ hsl y hy).1, .inr ⟨y, a, ⟨_, hsl, hy⟩, ha, rfl⟩⟩
  refine ⟨⟨h.k3, h.k30, h.blo, ?_, hn, fun j hj => ?_, h.gNO, h.nxb, h.mb⟩, hb.keep ?_⟩
  · rw [hb.block b h.blt ?_]; exact h.head
    intro hx
    rcases (hX b hx).2 with ⟨cur, hc⟩ | ⟨y, a, _, ha, e⟩
    · exact absurd (type_eq hc h.head) (by decide)
    · exact h.ent_ne_head ha e.symm
  · have ho := h.old j hj
    refine ⟨ho.jk, ho.arr.stay (hb.block gO ho.arr.row.lt ?_) fun x hx => ?_, ho.nx, ho.gone, fun x y hx hy => ho.dis x y (inB_rem hx) hy⟩
    · rintro (h1 | ⟨y, hy, h1⟩)
      · exact h.gNO (by have : T.o = some j := hj; rw [this]; simp) h1
      · obtain ⟨a, ha⟩ := h.now.ent ⟨_, hsl, hy⟩
        obtain ⟨cur, hc⟩ := ho.arr.row.head
        unfold EntAt at ha
        rw [← h1] at ha
        exact absurd (type_eq ha hc) (by decide)
    · obtain ⟨a', ha'⟩ := ho.arr.ent hx
      refine hb.block _ ha'.lt ?_
      rintro (h1 | ⟨y, hy, h1⟩)
      · obtain ⟨cur, hc⟩ := h.now.row.head
        unfold EntAt at ha'
        rw [h1] at ha'
        exact absurd (type_eq ha' hc) (by decide)
      · obtain ⟨a, ha⟩ := h.now.ent ⟨_, hsl, hy⟩
        exact ho.dis y x ⟨_, hsl, hy⟩ hx (ha.key_eq ha' h1.symm)
  · intro x _ hx
    refine ⟨(hX x hx).1, ?_⟩
    rcases (hX x hx).2 with ⟨cur, hc⟩ | ⟨y, a, _, ha, e⟩
    · exact ⟨_, _, _, hc, rfl⟩
    · unfold EntAt at ha; rw [← e] at ha; exact ⟨_, _, _, ha, rfl⟩
theorem TRaw.remO (h : TRaw w lo b gN gO T c) {key : Int} (hk : Wd key) {j : Nat} (hj : T.o = some j) {r : Ending} (hp : TakePost w lo gO j T.bo key r w') : TRaw w' lo b gN gO (T.remO j key) c ∧ Keep lo w w' := by
  obtain ⟨_, hn, hb⟩ := hp
  have k3 := h.k3
  have k30 := h.k30
  have ho := h.old j hj
  have hjk := ho.jk
  have hsl := slotN_lt (k := j) hk (by omega) (by omega)
  have hX : ∀ x, (x = gO ∨ ∃ y, y ∈ T.bo (slotN j key) ∧ x = y.blk) → lo ≤ x ∧ ((∃ cur, w.heap[x]? = some (.cells cur 59 (0, 0))) ∨ ∃ y a, inB T.bo (2 ^ j) y ∧ EntAt w y a ∧ x = y.blk) := by
    rintro x (rfl | ⟨y, hy, rfl⟩)
    · exact ⟨ho.arr.glo, .inl ho.arr.row.head⟩
    · obtain ⟨a, ha⟩ := ho.arr.ent ⟨_, hsl, hy⟩
      exact ⟨(ho.arr.ok _ hsl y hy).1, .inr ⟨y, a, ⟨_, hsl, hy⟩, ha, rfl⟩⟩
  refine ⟨⟨h.k3, h.k30, h.blo, ?_, h.now.stay (hb.block gN h.now.row.lt ?_) fun x hx => ?_, fun j' hj' => ?_, h.gNO, h.nxb, h.mb⟩, hb.keep ?_⟩
  · rw [hb.block b h.blt ?_]; exact h.head
    intro hx
    rcases (hX b hx).2 with ⟨cur, hc⟩ | ⟨y, a, _, ha, e⟩
    · exact absurd (type_eq hc h.head) (by decide)
    · exact h.ent_ne_head ha e.symm
  · rintro (h1 | ⟨y, hy, h1⟩)
    · exact h.gNO (by rw [hj]; simp) h1.symm
    · obtain ⟨a, ha⟩ := ho.arr.ent ⟨_, hsl, hy⟩
      obtain ⟨cur, hc⟩ := h.now.row.head
      unfold EntAt at ha
      rw [← h1] at ha
      exact absurd (type_eq ha hc) (by decide)
  · obtain ⟨a', ha'⟩ := h.now.ent hx
    refine hb.block _ ha'.lt ?_
    rintro (h1 | ⟨y, hy, h1⟩)
    · obtain ⟨cur, hc⟩ := ho.arr.row.head
      unfold EntAt at ha'
      rw [h1] at ha'
      exact absurd (type_eq ha' hc) (by decide)
    · obtain ⟨a, ha⟩ := ho.arr.ent ⟨_, hsl, hy⟩
      exact ho.dis x y hx ⟨_, hsl, hy⟩ (ha'.key_eq ha h1)
  · obtain rfl : j = j' := by have : T.o = some j' := hj'; rw [hj] at this; exact Option.some.inj this
    refine ⟨ho.jk, hn, ho.nx, fun i hi2 => ?_, fun x y hx hy => ho.dis x y hx (inB_rem hy)⟩
    show put T.bo (slotN j key) (rem key (T.bo (slotN j key))) i = []
    have hg := ho.gone i hi2
    by_cases hip : i = slotN j key
    · subst hip; rw [put_same, hg]; rfl
    · rw [put_other hip, hg]
  · intro x _ hx
    refine ⟨(hX x hx).1, ?_⟩
    rcases (hX x hx).2 with ⟨cur, hc⟩ | ⟨y, a, _, ha, e⟩
    · exact ⟨_, _, _, hc, rfl⟩
    · unfold EntAt at ha; rw [← e] at ha; exact ⟨_, _, _, ha, rfl⟩
theorem tot_rem {g k : Nat} {bk : Nat → List Ent} (h : Arr w lo g k bk) {key : Int} (hk : Wd key) (h0 : 1 ≤ k) (h1 : k ≤ 30) :
    tot (put bk (slotN k key) (rem key (bk (slotN k key)))) (2 ^ k) + (if (fndB k bk key).isSome then 1 else 0) = tot bk (2 ^ k) := by
  have hsl := slotN_lt (k := k) hk h0 h1
  have h2 := tot_put bk (slotN k key) (rem key (bk (slotN k key))) (2 ^ k) hsl
  have h3 := rem_len (key := key) (h.nd _ hsl)
  unfold fndB
  omega
end
end Go.Proofs.YtnhjnciadmgkeaaDoor
