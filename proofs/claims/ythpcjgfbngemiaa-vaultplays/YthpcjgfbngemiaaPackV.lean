/-
  A vault that is packed. No walk.
-/
import Derived.Test.YthpcjgfbngemiaaPackM
namespace Go.Proofs.Ythpcjgfbngemiaa
set_option linter.unusedVariables false
theorem alive_mem {l : List (Int × Int × Int)} {p : Int × Int × Int} : p ∈ alive l ↔ p ∈ l ∧ p.1 ≠ -1 := by
  unfold alive
  rw [List.mem_filter]
  simp
theorem lens_alive : ∀ l : List (Int × Int × Int), lens (alive l) = (l.map wt).sum
  | [] => rfl
  | p :: l => by
    have ih := lens_alive l
    unfold alive at ih ⊢
    rw [List.filter_cons, List.map_cons, List.sum_cons]
    by_cases h : p.1 = -1
    · rw [if_neg (by simp [h]), ih]
      have : wt p = 0 := if_pos h
      omega
    · rw [if_pos (by simp [h]), lens_cons, ih]
      have : wt p = p.2.2.toNat := if_neg h
      omega
theorem lens_perm {l t : List (Int × Int × Int)} (h : l.Perm t) : lens l = lens t := by
  unfold lens
  exact (h.map _).sum_nat
theorem VM.pkp {V : Vl} (h : VM V 0 0) (hk : V.bk.length ≤ 100000) (hmv : V.moved ≤ 900000000000) {l : List (Int × Int × Int)} (hp : l.Perm (alive V.bk)) (hs : l.Pairwise fun a b => ¬ ltB b a) : PkP l 0 V := by
  have hbl : ∀ p ∈ l, ∃ i a m : Nat, p = ((i : Int), (a : Int), (m : Int)) ∧ Blk V i a m ∧ a + m ≤ V.bs.length := fun p hm => by
    obtain ⟨h1, h2⟩ := alive_mem.1 (hp.mem_iff.1 hm)
    obtain ⟨k, hk⟩ := List.mem_iff_getElem?.1 h1
    rcases h.kin k p hk with h3 | ⟨a, m, rfl, h3, h4⟩
    · exact absurd h3 h2
    · exact ⟨k, a, m, rfl, hk, h3⟩
  have hnum : l.Pairwise fun p q => p.1 ≠ q.1 := by
    refine (hp.pairwise_iff (fun {x y} hxy => Ne.symm hxy)).2 ?_
    unfold alive
    rw [List.pairwise_filter, List.pairwise_iff_getElem]
    intro i j hi hj hij h1 h2 hc
    simp only [Bool.not_eq_true', beq_eq_false_iff_ne, ne_eq] at h1 h2
    rcases h.kin i _ (List.getElem?_eq_getElem hi) with h3 | ⟨a, m, h3, _⟩
    · exact h1 h3
    · rcases h.kin j _ (List.getElem?_eq_getElem hj) with h4 | ⟨a', m', h4, _⟩
      · exact h2 h4
      · rw [h3, h4] at hc
        dsimp only at hc
        omega
  have hb := h.bsl
  have hr := h.room
  have hu := h.ur
  refine ⟨fun p hm => ?_, hnum, ?_, by omega, by omega, ?_⟩
  · obtain ⟨i, a, m, h1, h2, h3⟩ := hbl p hm
    exact ⟨i, a, m, h1, h2, h3, fun _ => Nat.zero_le _⟩
  · refine (hnum.and hs).imp_of_mem fun {p q} h1 h2 ⟨h3, h4⟩ hp0 hq0 => ?_
    obtain ⟨i, a, m, rfl, b1, _⟩ := hbl p h1
    obtain ⟨j, b, n, rfl, b2, _⟩ := hbl q h2
    unfold ltB at h4
    dsimp only at h3 h4 hp0 hq0 ⊢
    have := h.dis i j a m b n (fun hc => h3 (by rw [hc])) b1 b2 b
    omega
  · have := h.used
    rw [lens_perm hp, lens_alive]
    omega
theorem VM.pack {V : Vl} (h : VM V 0 0) (hk : V.bk.length ≤ 100000) (hmv : V.moved ≤ 900000000000) {l : List (Int × Int × Int)} (hp : l.Perm (alive V.bk)) (hs : l.Pairwise fun a b => ¬ ltB b a) :
    PkOk l 0 V ∧ (pkF l 0 V).2 = V.used ∧ VM (packF l V) 0 0 ∧ (∀ k a m, Blk V k a m → ∃ a', Blk (packF l V) k a' m ∧ val (packF l V) a' m = val V a m) ∧ (packF l V).moved ≤ V.moved + V.used ∧ (packF l V).bk.length = V.bk.length ∧ (packF l V).fr = V.fr ∧ (packF l V).used = V.used ∧ (packF l V).room = V.room ∧ (packF l V).bs.length = V.bs.length := by
  have hP := h.pkp hk hmv hp hs
  obtain ⟨ok, r⟩ := pk_ok l 0 V hP
  have hlen : lens l = V.used := by rw [lens_perm hp, lens_alive, h.used]
  have hend : (pkF l 0 V).2 = V.used := by rw [r.stop, hlen, Nat.zero_add]
  have hin : ∀ k a m, Blk V k a m → ((k : Int), (a : Int), (m : Int)) ∈ l := fun k a m hb => hp.mem_iff.2 (alive_mem.2 ⟨List.mem_of_getElem? hb, by show (k : Int) ≠ -1; omega⟩)
  have hur := h.ur
  have cls : ∀ k : Nat, (∃ a a' m, Blk V k a m ∧ ((k : Int), (a : Int), (m : Int)) ∈ l ∧ 0 < m ∧ Blk (pkF l 0 V).1 k a' m ∧ a' + m ≤ V.used ∧ a' ≤ a ∧ val (pkF l 0 V).1 a' m = val V a m) ∨ ((pkF l 0 V).1.bk[k]? = V.bk[k]? ∧ ∀ a m, Blk V k a m → m = 0) := fun k => by
    by_cases hex : ∃ p ∈ l, 0 < p.2.2 ∧ p.1 = (k : Int)
    · obtain ⟨p, hpl, h1, h2⟩ := hex
      obtain ⟨i, a, m, rfl, hb, ham, _⟩ := hP.blk p hpl
      dsimp only at h1 h2
      obtain rfl : i = k := by omega
      obtain ⟨a', n1, n2, n3, n4, n5⟩ := r.new i a m hpl (by omega)
      exact .inl ⟨a, a', m, hb, hpl, by omega, n1, by omega, n4, n5⟩
    · refine .inr ⟨r.oth k (fun p hpl h1 h2 => hex ⟨p, hpl, h1, h2⟩), fun a m hb => ?_⟩
      rcases Nat.eq_zero_or_pos m with h0 | h0
      · exact h0
      · exact absurd ⟨_, hin k a m hb, by dsimp only; omega, rfl⟩ hex
  have chr : ∀ k a' m, Blk (packF l V) k a' m → (0 < m → ∃ a : Nat, ((k : Int), (a : Int), (m : Int)) ∈ l ∧ a' + m ≤ V.used) := fun k a' m hb hm => by
    rcases cls k with ⟨a, a'', m', b1, b2, b3, b4, b5, _⟩ | ⟨b1, b2⟩
    · obtain ⟨rfl, rfl⟩ := b4.eq hb
      exact ⟨a, b2, b5⟩
    · have hb' : Blk V k a' m := b1.symm.trans hb
      have := b2 a' m hb'
      omega
  have hroom : (packF l V).room = V.room := r.room
  have hgp : (packF l V).gp = if V.room ≤ V.used then [] else [((V.used : Int), ((V.room - V.used : Nat) : Int))] := by
    show (if V.room ≤ (pkF l 0 V).2 then [] else [(((pkF l 0 V).2 : Int), ((V.room - (pkF l 0 V).2 : Nat) : Int))]) = _
    rw [hend]
  have hing : ∀ x : Nat, inG (packF l V).gp (x : Int) ↔ V.used ≤ x ∧ x < V.room := fun x => by
    rw [hgp]
    split
    · rename_i hc
      rw [inG_nil]
      exact ⟨False.elim, fun hx => by omega⟩
    · rename_i hc
      rw [inG_cons, inG_nil]
      dsimp only
      exact ⟨fun hx => hx.elim (fun hx => by omega) False.elim, fun hx => .inl (by omega)⟩
  have hsum : ((packF l V).bk.map wt) = (V.bk.map wt) := by
    apply List.ext_getElem?
    intro k
    rw [List.getElem?_map, List.getElem?_map]
    rcases cls k with ⟨a, a', m, b1, _, _, b4, _⟩ | ⟨b1, _⟩
    · have e1 : (packF l V).bk[k]? = some ((k : Int), (a' : Int), (m : Int)) := b4
      unfold Blk at b1
      rw [e1, b1, Option.map_some, Option.map_some, wt_blk, wt_blk]
    · exact congrArg _ b1
  refine ⟨ok, hend, ⟨by rw [hroom]; exact h.room, ?_, fun p hpp => ?_, fun k t ht => ?_, fun k k' a m a' m' hne h1 h2 x hx => ?_, fun x hx k a m hb hc => ?_, fun x h1 h2 => by omega, fun x h1 h2 => by omega, fun x hx => ?_, Nat.zero_le _, ?_, ?_, ?_, fun i => ?_, ?_, ?_⟩, fun k a m hb => ?_, ?_, r.kl, r.fr, r.used, hroom, r.bl⟩
  · rw [hgp]
    split
    · exact ⟨fun q hq => by simp at hq, List.Pairwise.nil⟩
    · exact ⟨fun q hq => by simp at hq; subst hq; dsimp only; omega, List.pairwise_singleton _ _⟩
  · rw [hgp] at hpp
    rw [hroom]
    split at hpp
    · simp at hpp
    · simp at hpp; subst hpp; dsimp only; omega
  · have hbl : (packF l V).bs.length = V.bs.length := r.bl
    rw [hbl]
    rcases cls k with ⟨a, a', m, b1, b2, b3, b4, b5, b6, _⟩ | ⟨b1, b2⟩
    · have e1 : (packF l V).bk[k]? = some ((k : Int), (a' : Int), (m : Int)) := b4
      rw [e1] at ht
      injection ht with ht
      refine .inr ⟨a', m, ht.symm, ?_, by omega⟩
      rcases h.kin k _ b1 with h3 | ⟨a2, m2, h3, h4, _⟩
      · dsimp only at h3; omega
      · injection h3 with _ h3
        injection h3 with e2 e3
        omega
    · exact h.kin k t (b1.symm.trans ht)
  · obtain ⟨c, c1, c2⟩ := chr k a m h1 (by omega)
    obtain ⟨d, d1, d2⟩ := chr k' a' m' h2 (by omega)
    exact r.dis k c m k' d m' a a' c1 d1 (by omega) (by omega) hne h1 h2 x hx
  · have := (hing x).1 hx
    obtain ⟨c, c1, c2⟩ := chr k a m hb (by omega)
    omega
  · rw [hroom] at hx
    by_cases hxu : x < V.used
    · obtain ⟨i, a, m, a', n1, n2, n3, n4⟩ := r.cov x (Nat.zero_le _) (by omega)
      exact .inr (.inl ⟨i, a', m, n3, n4⟩)
    · exact .inl ((hing x).2 ⟨by omega, hx⟩)
  · rw [hsum]
    show (pkF l 0 V).1.used = _
    rw [r.used, h.used]
  · rw [hroom]
    show (pkF l 0 V).1.used + 0 ≤ _
    rw [r.used]
    exact hur
  · show ∃ d n, (pkF l 0 V).1.fr = vals d n ∧ Heap n d
    rw [r.fr]; exact h.heap
  · show i ∈ (pkF l 0 V).1.fr ↔ _
    rw [r.fr, h.fr i]
    have key : ∀ (k : Nat) (t : Int × Int × Int), t.1 = -1 → (V.bk[k]? = some t ↔ (packF l V).bk[k]? = some t) := fun k t hd => by
      rcases cls k with ⟨a, a', m, b1, _, _, b4, _⟩ | ⟨b1, _⟩
      · have e1 : (packF l V).bk[k]? = some ((k : Int), (a' : Int), (m : Int)) := b4
        unfold Blk at b1
        rw [e1, b1]
        constructor
        · intro hc
          injection hc with hc
          rw [← hc] at hd
          dsimp only at hd
          omega
        · intro hc
          injection hc with hc
          rw [← hc] at hd
          dsimp only at hd
          omega
      · have e1 : (packF l V).bk[k]? = V.bk[k]? := b1
        rw [e1]
    constructor
    · rintro ⟨k, t, h1, h2, h3⟩
      exact ⟨k, t, h1, (key k t h3).1 h2, h3⟩
    · rintro ⟨k, t, h1, h2, h3⟩
      exact ⟨k, t, h1, (key k t h3).2 h2, h3⟩
  · show (pkF l 0 V).1.fr.Nodup
    rw [r.fr]; exact h.nod
  · rw [hroom]
    show (pkF l 0 V).1.bs.length ≤ _
    rw [r.bl]; exact h.bsl
  · rcases cls k with ⟨a1, a', m1, b1, b2, b3, b4, b5, b6, b7⟩ | ⟨b1, b2⟩
    · obtain ⟨rfl, rfl⟩ := b1.eq hb
      exact ⟨a', b4, b7⟩
    · obtain rfl := b2 a m hb
      refine ⟨a, b1.trans hb, ?_⟩
      unfold val
      rw [List.take_zero, List.take_zero]
  · have := r.mv
    rw [hlen] at this
    exact this
end Go.Proofs.Ythpcjgfbngemiaa
