/-
  A table and the document's: what holds between two acts; no function is walked here.
-/
import Derived.Test.YtnhjnciadmgkeaaDoorRefF
namespace Go.Proofs.YtnhjnciadmgkeaaDoor
open Go.ChangeShapes Go.WideShapes Go.ChangeAt Go.RowKit
set_option linter.unusedVariables false

theorem pfind_pdrop (key k2 : Int) : ∀ ps : List (Int × Int), pfind k2 (pdrop key ps) = if k2 = key then none else pfind k2 ps
  | [] => by simp [pdrop, pfind]
  | p :: t => by
    have ih := pfind_pdrop key k2 t
    unfold pdrop at ih ⊢
    by_cases h : p.1 = key
    · rw [List.filter_cons_of_neg (by simp [h]), ih]
      by_cases h2 : k2 = key
      · rw [if_pos h2, if_pos h2]
      · rw [if_neg h2, if_neg h2]
        show _ = if p.1 = k2 then some p.2 else pfind k2 t
        rw [if_neg (by rw [h]; exact fun e => h2 e.symm)]
    · rw [List.filter_cons_of_pos (by simp [h])]
      show (if p.1 = k2 then some p.2 else pfind k2 _) = if k2 = key then none else if p.1 = k2 then some p.2 else pfind k2 t
      rw [ih]
      by_cases h2 : p.1 = k2
      · rw [if_pos h2, if_pos h2, if_neg (by rw [← h2]; exact h)]
      · rw [if_neg h2, if_neg h2]
theorem pfind_append (k : Int) : ∀ a b : List (Int × Int), pfind k (a ++ b) = (pfind k a).or (pfind k b)
  | [], b => by simp [pfind]
  | p :: t, b => by
    show (if p.1 = k then some p.2 else pfind k (t ++ b)) = ((if p.1 = k then some p.2 else pfind k t).or (pfind k b))
    by_cases h : p.1 = k
    · rw [if_pos h, if_pos h]; rfl
    · rw [if_neg h, if_neg h]; exact pfind_append k t b
theorem pfind_put (key node k2 : Int) (ps : List (Int × Int)) : pfind k2 (pput key node ps) = if k2 = key then some node else pfind k2 ps := by
  have h0 := pfind_pdrop key k2 ps
  have h1 : pfind k2 (pdrop key ps) = (pfind k2 ((pdrop key ps).takeWhile fun p => decide (p.1 < key))).or (pfind k2 ((pdrop key ps).dropWhile fun p => decide (p.1 < key))) := by
    rw [← pfind_append, List.takeWhile_append_dropWhile]
  unfold pput
  rw [pfind_append]
  by_cases h : k2 = key
  · subst h
    rw [if_pos rfl] at h0 ⊢
    rw [h0] at h1
    have h2 := (Option.or_eq_none_iff.1 h1.symm).1
    rw [h2]
    show (if k2 = k2 then some node else _) = some node
    rw [if_pos rfl]
  · rw [if_neg h] at h0 ⊢
    rw [← h0, h1]
    congr 1
    show (if key = k2 then some node else pfind k2 _) = _
    rw [if_neg (fun e => h e.symm)]
theorem pput_len (key node : Int) (ps : List (Int × Int)) : (pput key node ps).length = (pdrop key ps).length + 1 := by
  have h : (pdrop key ps).length = ((pdrop key ps).takeWhile fun p => decide (p.1 < key)).length + ((pdrop key ps).dropWhile fun p => decide (p.1 < key)).length := by
    rw [← List.length_append, List.takeWhile_append_dropWhile]
  unfold pput
  rw [List.length_append, List.length_cons]
  omega
def Rise (ps : List (Int × Int)) : Prop := ps.Pairwise fun a b => a.1 < b.1
theorem Rise.drop {ps : List (Int × Int)} (h : Rise ps) (key : Int) : Rise (pdrop key ps) := List.Pairwise.sublist List.filter_sublist h
theorem pfind_none {k : Int} : ∀ {ps : List (Int × Int)}, (∀ p ∈ ps, p.1 ≠ k) → pfind k ps = none
  | [], _ => rfl
  | p :: t, h => by
    show (if p.1 = k then some p.2 else pfind k t) = none
    rw [if_neg (h p (by simp))]
    exact pfind_none fun q hq => h q (by simp [hq])
theorem pdrop_id {key : Int} : ∀ {ps : List (Int × Int)}, (∀ p ∈ ps, p.1 ≠ key) → pdrop key ps = ps := fun {ps} h => by
  unfold pdrop
  rw [List.filter_eq_self]
  intro p hp
  simpa using h p hp
theorem pdrop_count {key : Int} : ∀ {ps : List (Int × Int)}, Rise ps → (pdrop key ps).length + (if (pfind key ps).isSome then 1 else 0) = ps.length
  | [], _ => rfl
  | p :: t, h => by
    obtain ⟨h1, h2⟩ := List.pairwise_cons.1 h
    by_cases hk : p.1 = key
    · have ht : ∀ q ∈ t, q.1 ≠ key := fun q hq => by have := h1 q hq; omega
      have e : pdrop key (p :: t) = t := by
        have := pdrop_id ht
        unfold pdrop at this ⊢
        rw [List.filter_cons_of_neg (by simp [hk]), this]
      rw [e]
      show t.length + (if (if p.1 = key then some p.2 else pfind key t).isSome then 1 else 0) = _
      rw [if_pos hk]
      simp
    · have ih := pdrop_count (key := key) h2
      have e : pdrop key (p :: t) = p :: pdrop key t := by
        unfold pdrop
        rw [List.filter_cons_of_pos (by simp [hk])]
      rw [e]
      show (pdrop key t).length + 1 + (if (if p.1 = key then some p.2 else pfind key t).isSome then 1 else 0) = t.length + 1
      rw [if_neg hk]
      omega
theorem pdrop_mem {key : Int} {ps : List (Int × Int)} {p : Int × Int} (h : p ∈ pdrop key ps) : p ∈ ps ∧ p.1 ≠ key := by
  unfold pdrop at h
  simpa using List.mem_filter.1 h
theorem take_lt {key : Int} {d : List (Int × Int)} {p : Int × Int} (h : p ∈ d.takeWhile fun p => decide (p.1 < key)) : p.1 < key := by
  induction d with
  | nil => simp at h
  | cons a t ih =>
    by_cases ha : a.1 < key
    · rw [List.takeWhile_cons_of_pos (by simpa using ha)] at h
      rcases List.mem_cons.1 h with rfl | h
      · exact ha
      · exact ih h
    · rw [List.takeWhile_cons_of_neg (by simpa using ha)] at h
      simp at h
theorem drop_ge {key : Int} {d : List (Int × Int)} (hr : Rise d) {p : Int × Int} (h : p ∈ d.dropWhile fun p => decide (p.1 < key)) : ¬ p.1 < key := by
  induction d with
  | nil => simp at h
  | cons a t ih =>
    obtain ⟨h1, h2⟩ := List.pairwise_cons.1 hr
    by_cases ha : a.1 < key
    · rw [List.dropWhile_cons_of_pos (by simpa using ha)] at h
      exact ih h2 h
    · rw [List.dropWhile_cons_of_neg (by simpa using ha)] at h
      rcases List.mem_cons.1 h with rfl | h
      · exact ha
      · have := h1 p h; omega
theorem Rise.put {ps : List (Int × Int)} (h : Rise ps) (key node : Int) : Rise (pput key node ps) := by
  have hd := h.drop key
  unfold pput Rise
  have hT : Rise ((pdrop key ps).takeWhile fun p => decide (p.1 < key)) := List.Pairwise.sublist (List.takeWhile_sublist _) hd
  have hD : Rise ((pdrop key ps).dropWhile fun p => decide (p.1 < key)) := List.Pairwise.sublist (List.dropWhile_sublist _) hd
  have hge : ∀ p ∈ (pdrop key ps).dropWhile (fun p => decide (p.1 < key)), key < p.1 := fun p hp => by
    have h1 := drop_ge hd hp
    have h2 := (pdrop_mem ((List.dropWhile_sublist _).subset hp)).2
    omega
  refine List.pairwise_append.2 ⟨hT, List.pairwise_cons.2 ⟨fun p hp => hge p hp, hD⟩, fun a ha b hb => ?_⟩
  have h1 := take_lt ha
  rcases List.mem_cons.1 hb with rfl | hb
  · exact h1
  · have := hge b hb; omega
theorem pput_mem {key node : Int} {ps : List (Int × Int)} {p : Int × Int} (h : p ∈ pput key node ps) : p = (key, node) ∨ p ∈ ps := by
  unfold pput at h
  rcases List.mem_append.1 h with h | h
  · exact .inr (pdrop_mem ((List.takeWhile_sublist _).subset h)).1
  · rcases List.mem_cons.1 h with h | h
    · exact .inl h
    · exact .inr (pdrop_mem ((List.dropWhile_sublist _).subset h)).1
/-- the table has the document's pairs -/
structure RL (T : Tb) (ps : List (Int × Int)) : Prop where
  rise : Rise ps
  wd : ∀ p ∈ ps, Wd p.1
  look : ∀ k, Wd k → T.look k = pfind k ps
  cnt : T.cnt = ps.length
theorem RL.new : RL Tb.new [] := ⟨List.Pairwise.nil, by simp, fun k _ => new_look k, rfl⟩
theorem RL.drop {T T' : Tb} {ps : List (Int × Int)} (h : RL T ps) {key : Int} (hk : Wd key) (hd : DropRel T key T') : RL T' (pdrop key ps) ∧ (T.look key).isSome = decide ((pdrop key ps).length < ps.length) := by
  have hc := pdrop_count (key := key) h.rise
  have hl := h.look key hk
  refine ⟨⟨h.rise.drop key, fun p hp => h.wd p (pdrop_mem hp).1, fun k2 hk2 => ?_, ?_⟩, ?_⟩
  · rw [hd.look k2 hk2, pfind_pdrop, h.look k2 hk2]
  · have := hd.cnt
    rw [hl, h.cnt] at this
    omega
  · rw [hl]
    cases hs : (pfind key ps).isSome with
    | true => rw [hs] at hc; simp at hc; symm; simp; omega
    | false => rw [hs] at hc; simp at hc; symm; simp; omega
theorem RL.put {T T' : Tb} {ps : List (Int × Int)} (h : RL T ps) (hG : 2 * T.cnt ≤ 2 ^ T.k) {key node : Int} (hk : Wd key) (hp : PutRel T key node T') :
    RL T' (pput key node ps) ∧ (T.look key).isSome = decide ((pdrop key ps).length < ps.length) ∧ pslots ((2 ^ T.k : Nat) : Int) (pput key node ps).length = ((2 ^ T'.k : Nat) : Int) := by
  have hc := pdrop_count (key := key) h.rise
  have hl := h.look key hk
  have hlen := pput_len key node ps
  refine ⟨⟨h.rise.put key node, fun p hp' => ?_, fun k2 hk2 => ?_, ?_⟩, ?_, ?_⟩
  · rcases pput_mem hp' with rfl | hp'
    · exact hk
    · exact h.wd p hp'
  · rw [hp.look k2 hk2, pfind_put, h.look k2 hk2]
  · rw [hp.cnt, hl, h.cnt, hlen]
    cases hs : (pfind key ps).isSome with
    | true => rw [hs] at hc; simp at hc ⊢; omega
    | false => rw [hs] at hc; simp at hc ⊢; omega
  · rw [hl]
    cases hs : (pfind key ps).isSome with
    | true => rw [hs] at hc; simp at hc; symm; simp; omega
    | false => rw [hs] at hc; simp at hc; symm; simp; omega
  · unfold pslots
    rw [hp.k, hl, h.cnt]
    rw [h.cnt] at hG
    cases hs : (pfind key ps).isSome with
    | true =>
      rw [hs] at hc; simp at hc
      rw [if_pos rfl, if_neg (by rw [hlen]; omega)]
    | false =>
      rw [hs] at hc; simp at hc
      rw [show (if false = true then T.k else if 2 ^ T.k < 2 * (ps.length + 1) then T.k + 1 else T.k) = if 2 ^ T.k < 2 * (ps.length + 1) then T.k + 1 else T.k by simp]
      by_cases h2 : 2 ^ T.k < 2 * (ps.length + 1)
      · rw [if_pos h2, if_pos (by rw [hlen]; omega), Nat.pow_succ]; omega
      · rw [if_neg h2, if_neg (by rw [hlen]; omega)]
theorem pfind_mem : ∀ {ps : List (Int × Int)} {p : Int × Int}, p ∈ ps → (pfind p.1 ps).isSome = true
  | a :: t, p, hp => by
    show (if a.1 = p.1 then some a.2 else pfind p.1 t).isSome = true
    by_cases e : a.1 = p.1
    · rw [if_pos e]; rfl
    · rw [if_neg e]
      rcases List.mem_cons.1 hp with rfl | hp
      · exact absurd rfl e
      · exact pfind_mem hp
/-- the keys, in their order -/
theorem RL.keys {w : World} {lo b gN gO : Nat} {T : Tb} {ps : List (Int × Int)} (h : RL T ps) (ht : TAt w lo b gN gO T) {zs : List Int} (hp : zs.Perm T.keys) (hs : zs.Pairwise (· ≤ ·)) : zs = ps.map (·.1) := by
  have hn : zs.Nodup := hp.nodup_iff.2 (keys_nodup ht)
  have hwd : ∀ x ∈ T.keys, Wd x := fun x hx => by
    unfold Tb.keys at hx
    rcases List.mem_append.1 hx with hx | hx
    · obtain ⟨e, he, rfl⟩ := kcat_mem.1 hx
      exact (ht.in_ent (.inl he)).2.2.1
    · obtain ⟨e, he, rfl⟩ := kcat_mem.1 hx
      exact (ht.in_ent (.inr he)).2.2.1
  have hps : ∀ {x : Int}, (pfind x ps).isSome = true ↔ x ∈ ps.map (·.1) := fun {x} => by
    constructor
    · intro hx
      by_cases hm : x ∈ ps.map (·.1)
      · exact hm
      · rw [pfind_none (fun p hp e => hm (List.mem_map.2 ⟨p, hp, e⟩))] at hx
        cases hx
    · intro hx
      obtain ⟨p, hp, rfl⟩ := List.mem_map.1 hx
      exact pfind_mem hp
  refine sorted_one (rises hs hn) ?_ fun x => ?_
  · exact List.pairwise_map.2 h.rise
  · rw [hp.mem_iff]
    constructor
    · intro hx
      rw [← hps, ← h.look x (hwd x hx)]
      exact (keys_mem ht (hwd x hx)).1 hx
    · intro hx
      have hw : Wd x := by
        obtain ⟨p, hp, rfl⟩ := List.mem_map.1 hx
        exact h.wd p hp
      rw [keys_mem ht hw, h.look x hw]
      exact hps.2 hx
end Go.Proofs.YtnhjnciadmgkeaaDoor
