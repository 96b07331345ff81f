/-
  What packing makes of the blocks. No walk.
-/
import Derived.Test.YthpcjgfbngemiaaVokB
namespace Go.Proofs.Ythpcjgfbngemiaa
set_option linter.unusedVariables false
/-- how many bytes blocks have -/
def lens (t : List (Int × Int × Int)) : Nat := (t.map fun p => p.2.2.toNat).sum
theorem lens_cons (p : Int × Int × Int) (t : List (Int × Int × Int)) : lens (p :: t) = p.2.2.toNat + lens t := by
  unfold lens
  rw [List.map_cons, List.sum_cons]
/-- blocks t were laid from e on: V became V', and e' is their end -/
structure PkR (t : List (Int × Int × Int)) (e : Nat) (V V' : Vl) (e' : Nat) : Prop where
  stop : e' = e + lens t
  kl : V'.bk.length = V.bk.length
  bl : V'.bs.length = V.bs.length
  fr : V'.fr = V.fr
  used : V'.used = V.used
  room : V'.room = V.room
  mv : V'.moved ≤ V.moved + lens t
  oth : ∀ k : Nat, (∀ p ∈ t, 0 < p.2.2 → p.1 ≠ (k : Int)) → V'.bk[k]? = V.bk[k]?
  low : ∀ x : Nat, x < e → V'.bs[x]? = V.bs[x]?
  new : ∀ i a m : Nat, ((i : Int), (a : Int), (m : Int)) ∈ t → 0 < m → ∃ a', Blk V' i a' m ∧ e ≤ a' ∧ a' + m ≤ e' ∧ a' ≤ a ∧ val V' a' m = val V a m
  cov : ∀ x : Nat, e ≤ x → x < e' → ∃ i a m a' : Nat, ((i : Int), (a : Int), (m : Int)) ∈ t ∧ 0 < m ∧ Blk V' i a' m ∧ a' ≤ x ∧ x < a' + m
  dis : ∀ i a m j b n a' b' : Nat, ((i : Int), (a : Int), (m : Int)) ∈ t → ((j : Int), (b : Int), (n : Int)) ∈ t → 0 < m → 0 < n → i ≠ j → Blk V' i a' m → Blk V' j b' n → ∀ x : Nat, ¬ (a' ≤ x ∧ x < a' + m ∧ b' ≤ x ∧ x < b' + n)
/-- blocks that can be laid from e on -/
structure PkP (t : List (Int × Int × Int)) (e : Nat) (V : Vl) : Prop where
  blk : ∀ p ∈ t, ∃ i a m : Nat, p = ((i : Int), (a : Int), (m : Int)) ∧ Blk V i a m ∧ a + m ≤ V.bs.length ∧ (0 < m → e ≤ a)
  num : t.Pairwise fun p q => p.1 ≠ q.1
  srt : t.Pairwise fun p q => 0 < p.2.2 → 0 < q.2.2 → p.2.1 + p.2.2 ≤ q.2.1
  bs : V.bs.length ≤ 1048576
  bk : V.bk.length ≤ 1000000
  mv : V.moved + lens t ≤ 1000000000000
theorem layF_bk (V : Vl) (i a m e : Nat) (hi : Blk V i a m) : Blk (layF V i a m e) i e m ∧ (∀ k, k ≠ i → (layF V i a m e).bk[k]? = V.bk[k]?) ∧ (layF V i a m e).bk.length = V.bk.length ∧ (layF V i a m e).fr = V.fr ∧ (layF V i a m e).used = V.used ∧ (layF V i a m e).room = V.room ∧ (layF V i a m e).moved ≤ V.moved + m := by
  unfold layF
  split
  · rename_i he
    subst he
    exact ⟨hi, fun k _ => rfl, rfl, rfl, rfl, rfl, by omega⟩
  · refine ⟨set_get hi _, fun k hk => List.getElem?_set_ne (Ne.symm hk), ?_, rfl, rfl, rfl, Nat.le_refl _⟩
    show (V.bk.set i _).length = _
    rw [List.length_set]
theorem layF_bs (V : Vl) (i a m e : Nat) (hea : e ≤ a) (ham : a + m ≤ V.bs.length) : (layF V i a m e).bs.length = V.bs.length ∧ val (layF V i a m e) e m = val V a m ∧ (∀ x, x < e → (layF V i a m e).bs[x]? = V.bs[x]?) ∧ (∀ a' m', a + m ≤ a' → val (layF V i a m e) a' m' = val V a' m') := by
  unfold layF
  split
  · rename_i he
    subst he
    exact ⟨rfl, rfl, fun x _ => rfl, fun a' m' _ => rfl⟩
  · have hy : ((V.bs.drop a).take m).length = m := by rw [List.length_take, List.length_drop]; omega
    have hl : e + ((V.bs.drop a).take m).length ≤ V.bs.length := by omega
    refine ⟨over_len hl, ?_, fun x hx => ?_, fun a' m' h => ?_⟩
    · have := over_self hl
      rw [hy] at this
      exact this
    · show (over V.bs e ((V.bs.drop a).take m))[x]? = _
      rw [over_get hl, if_neg (by omega)]
    · exact over_other hl (fun x h1 h2 => by omega)
theorem pk_ok : ∀ (t : List (Int × Int × Int)) (e : Nat) (V : Vl), PkP t e V → PkOk t e V ∧ PkR t e V (pkF t e V).1 (pkF t e V).2
  | [], e, V, h => ⟨trivial, ⟨rfl, rfl, rfl, rfl, rfl, rfl, Nat.le_refl _, fun k _ => rfl, fun x _ => rfl, fun i a m hm => by simp at hm, fun x h1 h2 => absurd h2 (by show ¬ x < e; omega), fun i a m j b n a' b' hm => by simp at hm⟩⟩
  | p :: t, e, V, h => by
    obtain ⟨i, a, m, rfl, hb, ham, hea⟩ := h.blk p List.mem_cons_self
    have hnum := List.pairwise_cons.1 h.num
    have hsrt := List.pairwise_cons.1 h.srt
    have hmv := h.mv
    rw [lens_cons] at hmv
    dsimp only at hmv
    rw [Int.toNat_natCast] at hmv
    by_cases hm : 0 < m
    · have hmi : 0 < (m : Int) := by omega
      have hea := hea hm
      obtain ⟨k1, k2, k3, k4, k5, k6, k7⟩ := layF_bk V i a m e hb
      obtain ⟨b1, b2, b3, b4⟩ := layF_bs V i a m e hea ham
      have hne : ∀ q ∈ t, q.1 ≠ (i : Int) := fun q hq => Ne.symm (hnum.1 q hq)
      have hP : PkP t (e + m) (layF V i a m e) := by
        refine ⟨fun q hq => ?_, hnum.2, hsrt.2, by rw [b1]; exact h.bs, by rw [k3]; exact h.bk, by omega⟩
        obtain ⟨j, b, n, rfl, hbj, hbn, _⟩ := h.blk q (List.mem_cons_of_mem _ hq)
        have hji : j ≠ i := fun hc => hne _ hq (by rw [hc])
        refine ⟨j, b, n, rfl, ?_, by rw [b1]; exact hbn, fun hn => ?_⟩
        · unfold Blk
          rw [k2 j hji]
          exact hbj
        · have := hsrt.1 _ hq hmi (by dsimp only; omega)
          dsimp only at this
          omega
      obtain ⟨o1, r⟩ := pk_ok t (e + m) (layF V i a m e) hP
      have hpk : pkF (((i : Int), (a : Int), (m : Int)) :: t) e V = pkF t (e + m) (layF V i a m e) := by
        rw [pkF]
        dsimp only
        rw [if_pos hmi, Int.toNat_natCast, Int.toNat_natCast, Int.toNat_natCast]
      rw [hpk]
      refine ⟨⟨fun hc => absurd hmi hc, fun _ => ⟨i, a, m, rfl, hb, hea, ham, h.bs, h.bk, by omega, o1⟩⟩, ?_⟩
      have hi' : Blk (pkF t (e + m) (layF V i a m e)).1 i e m := by
        unfold Blk
        rw [r.oth i (fun q hq _ => hne q hq)]
        exact k1
      have hval : val (pkF t (e + m) (layF V i a m e)).1 e m = val V a m := by
        rw [← b2]
        unfold val
        apply List.ext_getElem?
        intro x
        rw [part_get, part_get]
        split
        · exact r.low _ (by omega)
        · rfl
      have hend := r.stop
      refine ⟨?_, by rw [r.kl, k3], by rw [r.bl, b1], by rw [r.fr, k4], by rw [r.used, k5], by rw [r.room, k6], ?_, fun k hk => ?_, fun x hx => ?_, fun j b n hj hn => ?_, fun x h1 h2 => ?_, fun j b n j' b' n' c c' hj hj' hn hn' hne' hB hB' x hx => ?_⟩
      · rw [lens_cons, hend]
        dsimp only
        rw [Int.toNat_natCast]; omega
      · have := r.mv
        rw [lens_cons]
        dsimp only
        rw [Int.toNat_natCast]; omega
      · rw [r.oth k (fun q hq => hk q (List.mem_cons_of_mem _ hq)), k2 k (fun hc => hk _ List.mem_cons_self hmi (by rw [hc]))]
      · rw [r.low x (by omega), b3 x hx]
      · rcases List.mem_cons.1 hj with he | hj
        · injection he with e1 he
          injection he with e2 e3
          obtain rfl : j = i := by omega
          obtain rfl : b = a := by omega
          obtain rfl : n = m := by omega
          exact ⟨e, hi', Nat.le_refl _, by omega, by omega, hval⟩
        · obtain ⟨a', n1, n2, n3, n5, n4⟩ := r.new j b n hj hn
          refine ⟨a', n1, by omega, n3, n5, n4.trans (b4 b n ?_)⟩
          have := hsrt.1 _ hj hmi (by dsimp only; omega)
          dsimp only at this
          omega
      · by_cases hx : x < e + m
        · exact ⟨i, a, m, e, List.mem_cons_self, hm, hi', h1, hx⟩
        · obtain ⟨j, b, n, a', n1, n2, n3, n4⟩ := r.cov x (by omega) h2
          exact ⟨j, b, n, a', List.mem_cons_of_mem _ n1, n2, n3, n4⟩
      · have hfst : ∀ (u v w' z y z' : Nat), ((u : Int), (v : Int), (w' : Int)) ∈ ((i : Int), (a : Int), (m : Int)) :: t → 0 < w' → Blk (pkF t (e + m) (layF V i a m e)).1 u z w' → (u = i ∧ z = e ∧ w' = m) ∨ (((u : Int), (v : Int), (w' : Int)) ∈ t ∧ e + m ≤ z) := fun u v w' z y z' hu hw hz => by
          rcases List.mem_cons.1 hu with he | hu
          · injection he with e1 he
            injection he with e2 e3
            obtain rfl : u = i := by omega
            exact .inl ⟨rfl, (hz.eq hi').1, by omega⟩
          · obtain ⟨a', n1, n2, n3, n5, n4⟩ := r.new u v w' hu hw
            have := (hz.eq n1).1
            exact .inr ⟨hu, by omega⟩
        rcases hfst j b n c 0 0 hj hn hB with ⟨f1, f2, f3⟩ | ⟨f1, f2⟩
        · rcases hfst j' b' n' c' 0 0 hj' hn' hB' with ⟨g1, g2, g3⟩ | ⟨g1, g2⟩
          · exact hne' (f1.trans g1.symm)
          · omega
        · rcases hfst j' b' n' c' 0 0 hj' hn' hB' with ⟨g1, g2, g3⟩ | ⟨g1, g2⟩
          · omega
          · exact r.dis j b n j' b' n' c c' f1 g1 hn hn' hne' hB hB' x hx
    · obtain rfl : m = 0 := by omega
      have hP : PkP t e V := ⟨fun q hq => h.blk q (List.mem_cons_of_mem _ hq), hnum.2, hsrt.2, h.bs, h.bk, by omega⟩
      obtain ⟨o1, r⟩ := pk_ok t e V hP
      have hpk : pkF (((i : Int), (a : Int), ((0 : Nat) : Int)) :: t) e V = pkF t e V := by
        rw [pkF]
        dsimp only
        rw [if_neg (by omega)]
      have hlen : lens (((i : Int), (a : Int), ((0 : Nat) : Int)) :: t) = lens t := by
        rw [lens_cons]
        dsimp only
        rw [Int.toNat_natCast]; omega
      have hmem : ∀ j b n : Nat, ((j : Int), (b : Int), (n : Int)) ∈ ((i : Int), (a : Int), ((0 : Nat) : Int)) :: t → 0 < n → ((j : Int), (b : Int), (n : Int)) ∈ t := fun j b n hj hn => by
        rcases List.mem_cons.1 hj with he | hj
        · injection he with e1 he
          injection he with e2 e3
          omega
        · exact hj
      rw [hpk]
      refine ⟨⟨fun _ => o1, fun hc => absurd hc (by dsimp only; omega)⟩, by rw [hlen]; exact r.stop, r.kl, r.bl, r.fr, r.used, r.room, by rw [hlen]; exact r.mv, fun k hk => r.oth k (fun q hq => hk q (List.mem_cons_of_mem _ hq)), r.low, fun j b n hj hn => r.new j b n (hmem j b n hj hn) hn, fun x h1 h2 => ?_, fun j b n j' b' n' c c' hj hj' hn hn' => r.dis j b n j' b' n' c c' (hmem _ _ _ hj hn) (hmem _ _ _ hj' hn') hn hn'⟩
      obtain ⟨j, b, n, a', n1, n2⟩ := r.cov x h1 h2
      exact ⟨j, b, n, a', List.mem_cons_of_mem _ n1, n2⟩
end Go.Proofs.Ythpcjgfbngemiaa
