/-
  What is true of a vault: a new one, a block that is let go, a gap more, and a block's number. No walk.
-/
import Derived.Test.YthpcjgfbngemiaaVok
namespace Go.Proofs.Ythpcjgfbngemiaa
set_option linter.unusedVariables false
theorem sum_set {l : List (Int × Int × Int)} {i : Nat} {t : Int × Int × Int} (h : l[i]? = some t) (t' : Int × Int × Int) : ((l.set i t').map wt).sum + wt t = (l.map wt).sum + wt t' := by
  obtain ⟨l1, l2, rfl, rfl⟩ := split_at h
  have hs : (l1 ++ t :: l2).set l1.length t' = l1 ++ t' :: l2 := by simp
  rw [hs]
  simp only [List.map_append, List.map_cons, List.sum_append, List.sum_cons]
  omega
theorem wt_dead (a m : Int) : wt (-1, a, m) = 0 := if_pos rfl
theorem wt_blk (k a m : Nat) : wt ((k : Int), (a : Int), (m : Int)) = m := by
  unfold wt
  rw [if_neg (by dsimp only; omega)]
  simp
theorem set_get {α : Type} {l : List α} {i : Nat} {t : α} (h : l[i]? = some t) (t' : α) : (l.set i t')[i]? = some t' := by
  rw [List.getElem?_set_self (List.getElem?_eq_some_iff.1 h).1]
/-- a new vault -/
theorem VM.new (r : Nat) (hr : r ≤ 1048576) : VM ⟨r, [], [], [], if r = 0 then [] else [(0, (r : Int))], 0, 0, 0⟩ 0 0 := by
  have hno : ∀ k a m, ¬ Blk ⟨r, [], [], [], if r = 0 then [] else [(0, (r : Int))], 0, 0, 0⟩ k a m := fun k a m h => by unfold Blk at h; simp at h
  refine ⟨hr, ?_, fun p hp => ?_, fun k t ht => by simp at ht, fun k k' a m a' m' _ h1 => absurd h1 (hno _ _ _), fun x hx k a m h1 => absurd h1 (hno _ _ _), fun x h1 h2 => by omega, fun x h1 h2 => by omega, fun x hx => .inl ?_, Nat.zero_le _, rfl, Nat.zero_le _, ⟨fun _ => 0, 0, rfl, fun i h1 h2 => absurd h2 (Nat.not_lt_zero i)⟩, fun i => ?_, List.nodup_nil, Nat.zero_le _⟩
  · show GOk (if r = 0 then [] else [(0, (r : Int))])
    split
    · exact ⟨fun q hq => by simp at hq, List.Pairwise.nil⟩
    · exact ⟨fun q hq => by simp at hq; subst hq; dsimp only; omega, List.pairwise_singleton _ _⟩
  · dsimp only at hp ⊢
    split at hp
    · simp at hp
    · simp at hp; subst hp; dsimp only; omega
  · dsimp only at hx ⊢
    rw [if_neg (by omega)]
    exact ⟨_, List.mem_singleton_self _, by dsimp only; omega, by dsimp only; omega⟩
  · simp
/-- a block is let go: its bytes are nobody's -/
theorem VM.leave {V : Vl} (h : VM V 0 0) {i a m : Nat} (hi : Blk V i a m) {fr' : List Int} (hheap : ∃ d n, fr' = vals d n ∧ Heap n d) (hperm : fr'.Perm ((i : Int) :: V.fr)) :
    VM { V with bk := V.bk.set i (-1, (a : Int), (m : Int)), fr := fr', used := V.used - m } a m ∧ m ≤ V.used := by
  have hw := sum_set hi (-1, (a : Int), (m : Int))
  rw [wt_dead, wt_blk] at hw
  have hu := h.used
  have hself := set_get hi (-1, (a : Int), (m : Int))
  have hoth : ∀ k, k ≠ i → (V.bk.set i (-1, (a : Int), (m : Int)))[k]? = V.bk[k]? := fun k hk => List.getElem?_set_ne (Ne.symm hk)
  have hb : ∀ k a' m', Blk { V with bk := V.bk.set i (-1, (a : Int), (m : Int)), fr := fr', used := V.used - m } k a' m' → k ≠ i ∧ Blk V k a' m' := fun k a' m' hk => by
    unfold Blk at hk
    dsimp only at hk
    by_cases hki : k = i
    · subst hki
      rw [hself] at hk
      injection hk with hk
      injection hk with hk
      omega
    · rw [hoth k hki] at hk
      exact ⟨hki, hk⟩
  have hnot : (i : Int) ∉ V.fr := fun hc => by
    obtain ⟨k, t, e1, e2, e3⟩ := (h.fr _).1 hc
    obtain rfl : i = k := by omega
    unfold Blk at hi
    rw [hi] at e2
    injection e2 with e2
    rw [← e2] at e3
    dsimp only at e3
    omega
  have hend : a + m ≤ V.bs.length := by
    rcases h.kin i _ hi with h1 | ⟨a', m', he, h1, _⟩
    · dsimp only at h1; omega
    · injection he with _ he
      injection he with e1 e2
      omega
  have hbsl := h.bsl
  have hur := h.ur
  refine ⟨⟨h.room, h.g, h.gend, fun k t ht => ?_, fun k k' a1 m1 a2 m2 hne h1 h2 => h.dis k k' a1 m1 a2 m2 hne (hb _ _ _ h1).2 (hb _ _ _ h2).2, fun x hx k a1 m1 h1 => h.gb x hx k a1 m1 (hb _ _ _ h1).2, fun x h1 h2 hx => h.gb x hx i a m hi ⟨h1, h2⟩, fun x h1 h2 k a1 m1 h3 h4 => h.dis i k a m a1 m1 (Ne.symm (hb _ _ _ h3).1) hi (hb _ _ _ h3).2 x ⟨h1, h2, h4.1, h4.2⟩, fun x hx => ?_, by show a + m ≤ V.room; omega, ?_, ?_, hheap, fun j => ?_, ?_, h.bsl⟩, by omega⟩
  · dsimp only at ht
    by_cases hki : k = i
    · subst hki
      rw [hself] at ht
      injection ht with ht
      exact .inl (by rw [← ht])
    · rw [hoth k hki] at ht
      exact h.kin k t ht
  · rcases h.all x hx with h1 | ⟨k, a1, m1, h1, h2⟩ | h1
    · exact .inl h1
    · by_cases hki : k = i
      · subst hki
        obtain ⟨rfl, rfl⟩ := hi.eq h1
        exact .inr (.inr h2)
      · refine .inr (.inl ⟨k, a1, m1, ?_, h2⟩)
        unfold Blk
        dsimp only
        rw [hoth k hki]
        exact h1
    · omega
  · show V.used - m = ((V.bk.set i (-1, (a : Int), (m : Int))).map wt).sum
    omega
  · show V.used - m + m ≤ V.room
    omega
  · show j ∈ fr' ↔ _
    rw [hperm.mem_iff, List.mem_cons, h.fr j]
    constructor
    · rintro (rfl | ⟨k, t, rfl, h1, h2⟩)
      · exact ⟨i, _, rfl, hself, rfl⟩
      · by_cases hki : k = i
        · subst hki
          exact ⟨k, _, rfl, hself, rfl⟩
        · refine ⟨k, t, rfl, ?_, h2⟩
          dsimp only
          rw [hoth k hki]
          exact h1
    · rintro ⟨k, t, rfl, h1, h2⟩
      by_cases hki : k = i
      · exact .inl (by rw [hki])
      · dsimp only at h1
        rw [hoth k hki] at h1
        exact .inr ⟨k, t, rfl, h1, h2⟩
  · show fr'.Nodup
    exact hperm.nodup_iff.2 (List.nodup_cons.2 ⟨hnot, h.nod⟩)
/-- nobody's bytes are a gap -/
theorem VM.addGap {V : Vl} {a m : Nat} (h : VM V a m) (hm : 0 < m) {gi : Nat} (hs : SP V.gp (a : Int) gi) :
    VM { V with gp := jn (jn (ins V.gp gi ((a : Int), (m : Int))) (gi : Int)) ((gi : Int) - 1) } 0 0 := by
  obtain ⟨g1, g2⟩ := add_ok h.g (a := (a : Int)) (m := (m : Int)) (by omega) (by omega) (fun x h1 h2 => by
    obtain ⟨n, rfl⟩ : ∃ n : Nat, x = (n : Int) := ⟨x.toNat, by omega⟩
    exact h.fg n (by omega) (by omega)) hs
  have hf := h.fend
  have hur := h.ur
  refine ⟨h.room, g1, fun p hp => ?_, h.kin, h.dis, fun x hx => ?_, fun x h1 h2 => by omega, fun x h1 h2 => by omega, fun x hx => ?_, Nat.zero_le _, h.used, by show V.used + 0 ≤ V.room; omega, h.heap, h.fr, h.nod, h.bsl⟩
  · have hp2 := g1.pos p hp
    show p.1 + p.2 ≤ (V.room : Int)
    rcases (g2 (p.1 + p.2 - 1)).1 ⟨p, hp, by omega, by omega⟩ with ⟨q, hq, h4, h5⟩ | h4
    · have := h.gend q hq
      omega
    · omega
  · rcases (g2 _).1 hx with h1 | h1
    · exact h.gb x h1
    · exact h.fb x (by omega) (by omega)
  · rcases h.all x hx with h1 | h1 | h1
    · exact .inl ((g2 _).2 (.inl h1))
    · exact .inr (.inl h1)
    · exact .inl ((g2 _).2 (.inr (by omega)))
/-- no bytes are nobody's -/
theorem VM.none {V : Vl} {a : Nat} (h : VM V a 0) : VM V 0 0 :=
  ⟨h.room, h.g, h.gend, h.kin, h.dis, h.gb, fun x h1 h2 => by omega, fun x h1 h2 => by omega, fun x hx => (h.all x hx).elim .inl fun h1 => h1.elim (fun h2 => .inr (.inl h2)) (fun h2 => by omega), Nat.zero_le _, h.used, h.ur, h.heap, h.fr, h.nod, h.bsl⟩
/-- a number that is new -/
theorem num_new (bk : List (Int × Int × Int)) (ga m : Nat) : let bk' := (bk ++ [(0, 0, 0)]).set bk.length ((bk.length : Int), (ga : Int), (m : Int))
    bk'[bk.length]? = some ((bk.length : Int), (ga : Int), (m : Int)) ∧ (∀ k, k ≠ bk.length → bk'[k]? = bk[k]?) ∧ (∀ t, bk[bk.length]? = some t → t.1 = -1) ∧ (bk'.map wt).sum = (bk.map wt).sum + m := by
  intro bk'
  have he : bk' = bk ++ [((bk.length : Int), (ga : Int), (m : Int))] := by simp [bk']
  rw [he]
  refine ⟨by simp, fun k hk => ?_, fun t ht => by simp at ht, ?_⟩
  · by_cases h1 : k < bk.length
    · rw [List.getElem?_append_left h1]
    · rw [List.getElem?_eq_none (by simp; omega), List.getElem?_eq_none (by omega)]
  · rw [List.map_append, List.sum_append, List.map_cons, List.map_nil, wt_blk]
    simp
/-- a number that was free -/
theorem VM.num_free {V : Vl} {fa fm : Nat} (h : VM V fa fm) {num : Nat} {fr' : List Int} (hp : V.fr.Perm ((num : Int) :: fr')) (ga m : Nat) : let bk' := V.bk.set num ((num : Int), (ga : Int), (m : Int))
    bk'[num]? = some ((num : Int), (ga : Int), (m : Int)) ∧ (∀ k, k ≠ num → bk'[k]? = V.bk[k]?) ∧ (∀ t, V.bk[num]? = some t → t.1 = -1) ∧ (bk'.map wt).sum = (V.bk.map wt).sum + m ∧
    (∀ i : Int, i ∈ fr' ↔ i ∈ V.fr ∧ i ≠ (num : Int)) ∧ fr'.Nodup := by
  intro bk'
  obtain ⟨k, t, e1, e2, e3⟩ := (h.fr (num : Int)).1 (hp.mem_iff.2 List.mem_cons_self)
  obtain rfl : num = k := by omega
  have hnd := List.nodup_cons.1 (hp.nodup_iff.1 h.nod)
  refine ⟨set_get e2 _, fun k hk => List.getElem?_set_ne (Ne.symm hk), fun t' ht' => ?_, ?_, fun i => ?_, hnd.2⟩
  · rw [e2] at ht'
    injection ht' with ht'
    rw [← ht']; exact e3
  · have hw := sum_set e2 ((num : Int), (ga : Int), (m : Int))
    rw [wt_blk] at hw
    have : wt t = 0 := if_pos e3
    show ((V.bk.set num ((num : Int), (ga : Int), (m : Int))).map wt).sum = _
    omega
  · rw [hp.mem_iff, List.mem_cons]
    constructor
    · intro hi
      exact ⟨.inr hi, fun hc => hnd.1 (hc ▸ hi)⟩
    · rintro ⟨h1 | h1, h2⟩
      · exact absurd h1 h2
      · exact h1
end Go.Proofs.Ythpcjgfbngemiaa
