/-
  What take comes to; an entry gets another node; the first entry of a slot goes.
-/
import Derived.Test.YtnhjnciadmgkeaaDoorTake
namespace Go.Proofs.YtnhjnciadmgkeaaDoor
open Go.ChangeShapes Go.WideShapes Go.ChangeAt Go.RowKit
set_option linter.unusedVariables false

theorem put_self {α : Type} (f : Nat → α) (i : Nat) : put f i (f i) = f := by
  funext j; unfold put; split
  · rename_i h; rw [h]
  · rfl
section
variable {w : World} {lo g k : Nat} {bk : Nat → List Ent}
/-- a cell of one entry turns: the others' chains stay -/
theorem chain_other {b i : Nat} {v : Value} : ∀ {l : List Ent}, ChainAt w l → (∀ e ∈ l, e.blk ≠ b) → ChainAt (w.setCell ⟨b, i, none⟩ v) l := fun h hb =>
  h.stay fun e he => heap_setCell_other _ _ _ _ (hb e he)
theorem chain_skip : ∀ {q t t' : List Ent} {y : Ent}, ChainAt w (q ++ y :: t') → ChainAt w t → (∀ e ∈ q, e.blk ≠ y.blk) → (∀ e ∈ t, e.blk ≠ y.blk) →
    ChainAt (w.setCell ⟨y.blk, 2, none⟩ (.pointer (hd t))) (q ++ y :: t)
  | [], t, t', y, h, ht, _, h2 => ⟨h.1.next _, chain_other ht h2⟩
  | z :: q, t, t', y, h, ht, h1, h2 => by
    refine ⟨?_, chain_skip (q := q) h.2 ht (fun e he => h1 e (by simp [he])) h2⟩
    have : hd (q ++ y :: t) = hd (q ++ y :: t') := by cases q <;> rfl
    show EntAt _ z (hd (q ++ y :: t))
    rw [this]
    exact EntAt.stay h.1 (heap_setCell_other _ _ _ _ (h1 z (by simp)))
theorem Arr.blk_ne (h : Arr w lo g k bk) {e e' : Ent} (he : inB bk (2 ^ k) e) (he' : inB bk (2 ^ k) e') (hk : e.key ≠ e'.key) : e.blk ≠ e'.blk := by
  intro hb
  obtain ⟨a, ha⟩ := h.ent he
  obtain ⟨a', ha'⟩ := h.ent he'
  exact hk (ha.key_eq ha' hb)
theorem keys_mid {q t : List Ent} {y : Ent} (hn : ((q ++ y :: t).map (·.key)).Nodup) : (∀ e ∈ q, e.key ≠ y.key) ∧ (∀ e ∈ t, e.key ≠ y.key) := by
  simp only [List.map_append, List.map_cons, List.nodup_append, List.nodup_cons] at hn
  exact ⟨fun x hx h => hn.2.2 _ (List.mem_map_of_mem hx) _ (List.mem_cons_self ..) h, fun x hx h => hn.2.1.1 (by rw [← h]; exact List.mem_map_of_mem hx)⟩
/-- an entry is cut out of a chain -/
theorem Arr.cut (h : Arr w lo g k bk) {p : Nat} (hp : p < 2 ^ k) {pre t : List Ent} {x : Ent} (hl : bk p = pre ++ x :: t) :
    Arr (w.setCell ⟨(lead g p pre).1, (lead g p pre).2, none⟩ (.pointer (hd t))) lo g k (put bk p (pre ++ t)) := by
  have hnd := h.nd p hp
  have hch := h.ch p hp
  have hin : ∀ e, e ∈ bk p → inB bk (2 ^ k) e := fun e he => ⟨p, hp, he⟩
  rw [hl] at hnd hch
  have hsub : ∀ e, e ∈ pre ++ t → e ∈ bk p := by
    intro e he; rw [hl]
    rcases List.mem_append.1 he with he | he <;> simp [he]
  have hnd2 : ((pre ++ t).map (·.key)).Nodup := by
    have hs : (pre ++ t).Sublist (pre ++ x :: t) := List.Sublist.append (List.Sublist.refl _) (List.sublist_cons_self _ _)
    exact hnd.sublist (hs.map _)
  have hsl : ∀ e ∈ pre ++ t, slotN k e.key = p := fun e he => h.sl p hp e (hsub e he)
  have hok : ∀ e ∈ pre ++ t, lo ≤ e.blk ∧ Wd e.key ∧ i32in e.node := fun e he => h.ok p hp e (hsub e he)
  rcases snoc_cases (l := pre) with rfl | ⟨q, y, rfl⟩
  · refine h.onBucket ?_ ?_ ?_ hsl hnd2 hok
    · exact h.row.store p t
    · exact chain_other (hch.2) fun e he => h.blk_ne_row (hin e (hsub e he))
    · intro j hj1 hj2 e he
      exact heap_setCell_other _ _ _ _ (h.blk_ne_row ⟨j, hj2, he⟩)
  · rw [lead_snoc]
    have hy : y ∈ bk p := hsub y (by simp)
    rw [show q ++ [y] ++ x :: t = q ++ y :: (x :: t) by simp] at hnd hch hl
    obtain ⟨k1, k2⟩ := keys_mid hnd
    have b1 : ∀ e ∈ q, e.blk ≠ y.blk := fun e he => h.blk_ne (hin e (by rw [hl]; simp [he])) (hin y hy) (k1 e he)
    have b2 : ∀ e ∈ t, e.blk ≠ y.blk := fun e he => h.blk_ne (hin e (by rw [hl]; simp [he])) (hin y hy) (k2 e (by simp [he]))
    refine h.onBucket ?_ ?_ ?_ hsl hnd2 hok
    · refine RowAt.stay ?_ (heap_setCell_other _ _ _ _ (h.blk_ne_row (hin y hy)).symm)
      refine h.row.congr fun i hi => ?_
      by_cases hip : i = p
      · subst hip; rw [put_same, hl]; cases q <;> rfl
      · rw [put_other hip]
    · have ht : ChainAt w t := by
        have := ChainAt.right (p := q ++ [y]) (l := x :: t) (by simpa using hch)
        exact this.2
      have := chain_skip hch ht b1 b2
      simpa using this
    · intro j hj1 hj2 e he
      refine heap_setCell_other _ _ _ _ (h.blk_ne ⟨j, hj2, he⟩ (hin y hy) fun hk => hj1 ?_)
      rw [← h.sl j hj2 e he, hk]; exact h.sl p hp y hy
theorem lead_but (w : World) {p : Nat} {pre t : List Ent} {x : Ent} (hl : bk p = pre ++ x :: t) (v : Value) : But (fun b => b = g ∨ ∃ x, x ∈ bk p ∧ b = x.blk) w (w.setCell ⟨(lead g p pre).1, (lead g p pre).2, none⟩ v) := by
  refine But.of_set _ _ _ _ ?_
  rcases snoc_cases (l := pre) with rfl | ⟨q, y, rfl⟩
  · exact .inl rfl
  · rw [lead_snoc]; exact .inr ⟨y, by rw [hl]; simp, rfl⟩
/-- what take comes to -/
def TakePost (w : World) (lo g k : Nat) (bk : Nat → List Ent) (key : Int) (r : Ending) (w' : World) : Prop :=
  r = .returned (.bool (fndB k bk key).isSome) ∧ Arr w' lo g k (put bk (slotN k key) (rem key (bk (slotN k key)))) ∧ But (fun b => b = g ∨ ∃ x, x ∈ bk (slotN k key) ∧ b = x.blk) w w'
theorem take_at (h : Arr w lo g k bk) (h0 : 1 ≤ k) (h1 : k ≤ 30) (key : Int) (hk : Wd key) (ht : Tab w) :
    Calls Tryd.prog 28 #[.slice (some ⟨g, 0, none⟩) (2 ^ k) (2 ^ k), .int .u64 key] w (TakePost w lo g k bk key) := by
  have hs := slotN_lt hk h0 h1
  refine (take_raw (slotN k key) (2 ^ k) key _ hs (h.row.cell hs) (h.row.free _) (h.ch _ hs) (place_at g k key w h0 h1 hk ht)).mono ?_
  rintro r w' (⟨rfl, rfl, hno⟩ | ⟨pre, x, t, hl, hx, hpre, rfl, rfl⟩)
  · refine ⟨?_, ?_, But.refl _ _⟩
    · unfold fndB; rw [fnd_none.2 hno]; rfl
    · rw [rem_none hno, put_self]; exact h
  · have hnd := h.nd _ hs
    rw [hl] at hnd
    refine ⟨?_, ?_, lead_but w hl _⟩
    · unfold fndB; rw [hl, fnd_skip hpre, fnd_cons, if_pos hx]; rfl
    · have e : rem key (bk (slotN k key)) = pre ++ t := by rw [hl]; exact rem_at hnd hx
      rw [e]
      exact h.cut hs hl
/-- the first entry of a slot goes -/
theorem Arr.pop (h : Arr w lo g k bk) {p : Nat} (hp : p < 2 ^ k) {t : List Ent} {x : Ent} (hl : bk p = x :: t) : Arr (w.setCell ⟨g, p, none⟩ (.pointer (hd t))) lo g k (put bk p t) :=
  h.cut (pre := []) hp hl
/-- an entry gets another node -/
theorem chain_ren (key node : Int) : ∀ {l : List Ent} {x : Ent}, ChainAt w l → (l.map (·.key)).Nodup → x ∈ l → x.key = key → (∀ e ∈ l, e.key ≠ key → e.blk ≠ x.blk) → ChainAt (w.setCell ⟨x.blk, 1, none⟩ (.int .i32 node)) (ren key node l)
  | z :: t, x, h, hn, hx, hk, hb => by
    simp only [List.map_cons, List.nodup_cons] at hn
    rcases List.mem_cons.1 hx with rfl | hx'
    · have hno : ∀ e ∈ t, e.key ≠ key := fun e he h2 => hn.1 (by rw [hk, ← h2]; exact List.mem_map_of_mem he)
      have e1 : ren key node (x :: t) = ⟨x.blk, x.key, node⟩ :: t := by
        show (if x.key = key then _ else _) :: ren key node t = _
        rw [if_pos hk, ren_none hno]
      rw [e1]
      exact ⟨h.1.node' node, chain_other h.2 fun e he => hb e (by simp [he]) (hno e he)⟩
    · have hz : z.key ≠ key := fun h2 => hn.1 (by rw [h2, ← hk]; exact List.mem_map_of_mem hx')
      have e1 : ren key node (z :: t) = z :: ren key node t := by
        show (if z.key = key then _ else _) :: ren key node t = _
        rw [if_neg hz]
      rw [e1]
      refine ⟨?_, chain_ren key node h.2 hn.2 hx' hk fun e he => hb e (by simp [he])⟩
      rw [ren_hd]
      exact h.1.stay (heap_setCell_other _ _ _ _ (hb z (by simp) hz))
theorem Arr.ren (h : Arr w lo g k bk) {x : Ent} {p : Nat} (hp : p < 2 ^ k) (hx : x ∈ bk p) (node : Int) (hi : i32in node) : Arr (w.setCell ⟨x.blk, 1, none⟩ (.int .i32 node)) lo g k (put bk p (ren x.key node (bk p))) := by
  have hin : ∀ e, e ∈ bk p → inB bk (2 ^ k) e := fun e he => ⟨p, hp, he⟩
  refine h.onBucket ?_ ?_ ?_ ?_ ?_ ?_
  · refine RowAt.stay ?_ (heap_setCell_other _ _ _ _ (h.blk_ne_row (hin x hx)).symm)
    refine h.row.congr fun i hi => ?_
    by_cases hip : i = p
    · subst hip; rw [put_same, ren_hd]
    · rw [put_other hip]
  · exact chain_ren _ _ (h.ch p hp) (h.nd p hp) hx rfl fun e he hk => h.blk_ne (hin e he) (hin x hx) hk
  · intro j hj1 hj2 e he
    refine heap_setCell_other _ _ _ _ (h.blk_ne ⟨j, hj2, he⟩ (hin x hx) fun hk => hj1 ?_)
    rw [← h.sl j hj2 e he, hk]; exact h.sl p hp x hx
  · intro e he
    obtain ⟨z, hz, _, e2, _⟩ := ren_mem he
    rw [e2]; exact h.sl p hp z hz
  · rw [ren_key]; exact h.nd p hp
  · intro e he
    obtain ⟨z, hz, e1, e2, e3⟩ := ren_mem he
    have := h.ok p hp z hz
    rw [e1, e2]
    refine ⟨this.1, this.2.1, ?_⟩
    rcases e3 with e3 | e3 <;> rw [e3]
    · exact this.2.2
    · exact hi
end
end Go.Proofs.YtnhjnciadmgkeaaDoor
