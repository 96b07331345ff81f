/-
  What is true of a vault between two calls, and in the midst of one (bytes from a on, m of them, that neither a gap nor a block has). No walk.
-/
import Derived.Test.YthpcjgfbngemiaaGapsM
namespace Go.Proofs.Ythpcjgfbngemiaa
set_option linter.unusedVariables false
/-- the bytes of a block, for the count -/
def wt (t : Int × Int × Int) : Nat := if t.1 = -1 then 0 else t.2.2.toNat
/-- block k stands at a and has m bytes -/
def Blk (V : Vl) (k a m : Nat) : Prop := V.bk[k]? = some ((k : Int), (a : Int), (m : Int))
theorem Blk.eq {V : Vl} {k a m a' m' : Nat} (h : Blk V k a m) (h' : Blk V k a' m') : a = a' ∧ m = m' := by
  unfold Blk at h h'
  rw [h] at h'
  injection h' with h'
  injection h' with _ h'
  injection h' with h1 h2
  exact ⟨by omega, by omega⟩
structure VM (V : Vl) (fa fm : Nat) : Prop where
  room : V.room ≤ 1048576
  g : GOk V.gp
  gend : ∀ p ∈ V.gp, p.1 + p.2 ≤ (V.room : Int)
  kin : ∀ (k : Nat) t, V.bk[k]? = some t → t.1 = -1 ∨ ∃ a m : Nat, t = ((k : Int), (a : Int), (m : Int)) ∧ a + m ≤ V.bs.length ∧ (m = 0 → a = 0)
  dis : ∀ k k' a m a' m' : Nat, k ≠ k' → Blk V k a m → Blk V k' a' m' → ∀ x : Nat, ¬ (a ≤ x ∧ x < a + m ∧ a' ≤ x ∧ x < a' + m')
  gb : ∀ x : Nat, inG V.gp (x : Int) → ∀ k a m, Blk V k a m → ¬ (a ≤ x ∧ x < a + m)
  fg : ∀ x : Nat, fa ≤ x → x < fa + fm → ¬ inG V.gp (x : Int)
  fb : ∀ x : Nat, fa ≤ x → x < fa + fm → ∀ k a m, Blk V k a m → ¬ (a ≤ x ∧ x < a + m)
  all : ∀ x : Nat, x < V.room → inG V.gp (x : Int) ∨ (∃ k a m, Blk V k a m ∧ a ≤ x ∧ x < a + m) ∨ (fa ≤ x ∧ x < fa + fm)
  fend : fa + fm ≤ V.room
  used : V.used = (V.bk.map wt).sum
  ur : V.used + fm ≤ V.room
  heap : ∃ d n, V.fr = vals d n ∧ Heap n d
  fr : ∀ i : Int, i ∈ V.fr ↔ ∃ (k : Nat) (t : Int × Int × Int), i = (k : Int) ∧ V.bk[k]? = some t ∧ t.1 = -1
  nod : V.fr.Nodup
  bsl : V.bs.length ≤ V.room
/-- what is told of block k -/
def val (V : Vl) (a m : Nat) : List Int := (V.bs.drop a).take m
/-- bytes are taken from the gap at i -/
theorem VM.take {V : Vl} (h : VM V 0 0) {i ga gm k : Nat} (hi : V.gp[i]? = some ((ga : Int), (gm : Int))) (hk : 0 < k) (hkm : k ≤ gm) (hr : V.used + k ≤ V.room) :
    VM { V with gp := takeG V.gp i ga gm k, bs := V.bs ++ List.replicate (ga + k - V.bs.length) 0 } ga k := by
  obtain ⟨g1, g2⟩ := takeG_ok h.g hi hk hkm
  have hme := List.mem_of_getElem? hi
  have hend := h.gend _ hme
  dsimp only at hend
  have hin : ∀ x : Nat, ga ≤ x → x < ga + k → inG V.gp (x : Int) := fun x h1 h2 => ⟨_, hme, by dsimp only; omega, by dsimp only; omega⟩
  have hlen : (V.bs ++ List.replicate (ga + k - V.bs.length) 0).length = V.bs.length + (ga + k - V.bs.length) := by rw [List.length_append, List.length_replicate]
  refine ⟨h.room, g1, fun p hp => ?_, fun j t ht => ?_, h.dis, fun x hx => h.gb x ((g2 _).1 hx).1, fun x h1 h2 hx => ((g2 _).1 hx).2 (by omega), fun x h1 h2 => h.gb x (hin x h1 h2), fun x hx => ?_, by show ga + k ≤ V.room; omega, h.used, hr, h.heap, h.fr, h.nod, ?_⟩
  · have hp2 := g1.pos p hp
    have h3 := ((g2 (p.1 + p.2 - 1)).1 ⟨p, hp, by omega, by omega⟩).1
    obtain ⟨q, hq, h4, h5⟩ := h3
    have := h.gend q hq
    show p.1 + p.2 ≤ (V.room : Int)
    omega
  · rcases h.kin j t ht with h1 | ⟨a, m, he, h1, h2⟩
    · exact .inl h1
    · refine .inr ⟨a, m, he, ?_, h2⟩
      dsimp only
      rw [hlen]; omega
  · rcases h.all x hx with h1 | h1 | h1
    · by_cases hf : ga ≤ x ∧ x < ga + k
      · exact .inr (.inr hf)
      · exact .inl ((g2 _).2 ⟨h1, by omega⟩)
    · exact .inr (.inl h1)
    · omega
  · show (V.bs ++ List.replicate (ga + k - V.bs.length) 0).length ≤ V.room
    rw [hlen]
    have := h.bsl
    omega
theorem over_get {l ys : List Int} {t : Nat} (h : t + ys.length ≤ l.length) (i : Nat) : (over l t ys)[i]? = if t ≤ i ∧ i < t + ys.length then ys[i - t]? else l[i]? := by
  unfold over
  have hl : (l.take t).length = t := by rw [List.length_take]; omega
  split
  · rename_i hc
    rw [List.getElem?_append_left (by rw [List.length_append, hl]; omega), List.getElem?_append_right (by omega), hl]
  · rename_i hc
    by_cases h1 : i < t
    · rw [List.append_assoc, List.getElem?_append_left (by omega), List.getElem?_take, if_pos h1]
    · rw [List.getElem?_append_right (by rw [List.length_append, hl]; omega), List.length_append, hl, List.getElem?_drop]
      congr 1
      omega
theorem part_get (l : List Int) (a m i : Nat) : ((l.drop a).take m)[i]? = if i < m then l[a + i]? else none := by
  rw [List.getElem?_take]
  split
  · rw [List.getElem?_drop]
  · rfl
theorem over_other {l ys : List Int} {t a m : Nat} (h : t + ys.length ≤ l.length) (hd : ∀ x : Nat, t ≤ x → x < t + ys.length → ¬ (a ≤ x ∧ x < a + m)) : ((over l t ys).drop a).take m = (l.drop a).take m := by
  apply List.ext_getElem?
  intro i
  rw [part_get, part_get]
  split
  · rename_i hi
    rw [over_get h, if_neg fun hc => hd (a + i) hc.1 hc.2 (by omega)]
  · rfl
theorem over_self {l ys : List Int} {t : Nat} (h : t + ys.length ≤ l.length) : ((over l t ys).drop t).take ys.length = ys := by
  apply List.ext_getElem?
  intro i
  rw [part_get]
  split
  · rename_i hi
    rw [over_get h, if_pos (by omega), Nat.add_sub_cancel_left]
  · rename_i hi
    rw [List.getElem?_eq_none (by omega)]
/-- a block is entered at the bytes that were taken -/
theorem VM.enter {V : Vl} {ga m : Nat} (h : VM V ga m) {ys : List Int} (hy : ys.length = m) (hlen : ga + m ≤ V.bs.length) (h0 : m = 0 → ga = 0) {num : Nat} {bk' : List (Int × Int × Int)} {fr' : List Int}
    (hnum : bk'[num]? = some ((num : Int), (ga : Int), (m : Int))) (hoth : ∀ k, k ≠ num → bk'[k]? = V.bk[k]?) (hfree : ∀ t, V.bk[num]? = some t → t.1 = -1) (hsum : (bk'.map wt).sum = (V.bk.map wt).sum + m)
    (hheap : ∃ d n, fr' = vals d n ∧ Heap n d) (hfr : ∀ i : Int, i ∈ fr' ↔ i ∈ V.fr ∧ i ≠ (num : Int)) (hnod : fr'.Nodup) :
    VM { V with bs := over V.bs ga ys, used := V.used + m, bk := bk', fr := fr' } 0 0 := by
  have hb : ∀ k a n, Blk { V with bs := over V.bs ga ys, used := V.used + m, bk := bk', fr := fr' } k a n → (k = num ∧ a = ga ∧ n = m) ∨ (k ≠ num ∧ Blk V k a n) := fun k a n hk => by
    by_cases hkn : k = num
    · subst hkn
      unfold Blk at hk
      dsimp only at hk
      rw [hnum] at hk
      injection hk with hk
      injection hk with _ hk
      injection hk with h1 h2
      exact .inl ⟨rfl, by omega, by omega⟩
    · refine .inr ⟨hkn, ?_⟩
      unfold Blk at hk ⊢
      dsimp only at hk
      rw [hoth k hkn] at hk
      exact hk
  have ho : (over V.bs ga ys).length = V.bs.length := over_len (by omega)
  refine ⟨h.room, h.g, h.gend, fun k t ht => ?_, fun k k' a n a' n' hne h1 h2 x hx => ?_, fun x hx k a n hk => ?_, fun x h1 h2 => by omega, fun x h1 h2 => by omega, fun x hx => ?_, Nat.zero_le _, ?_, ?_, hheap, fun i => ?_, hnod, ?_⟩
  · by_cases hkn : k = num
    · subst hkn
      dsimp only at ht
      rw [hnum] at ht
      injection ht with ht
      exact .inr ⟨ga, m, ht.symm, by rw [ho]; exact hlen, h0⟩
    · dsimp only at ht
      rw [hoth k hkn] at ht
      rcases h.kin k t ht with h1 | ⟨a, n, he, h1, h2⟩
      · exact .inl h1
      · exact .inr ⟨a, n, he, by rw [ho]; exact h1, h2⟩
  · rcases hb k a n h1 with ⟨e1, e2, e3⟩ | ⟨e1, b1⟩
    · rcases hb k' a' n' h2 with ⟨f1, f2, f3⟩ | ⟨f1, b2⟩
      · exact hne (e1.trans f1.symm)
      · exact h.fb x (by omega) (by omega) k' a' n' b2 ⟨by omega, by omega⟩
    · rcases hb k' a' n' h2 with ⟨f1, f2, f3⟩ | ⟨f1, b2⟩
      · exact h.fb x (by omega) (by omega) k a n b1 ⟨by omega, by omega⟩
      · exact h.dis k k' a n a' n' hne b1 b2 x hx
  · rcases hb k a n hk with ⟨e1, e2, e3⟩ | ⟨e1, b1⟩
    · intro hc
      exact h.fg x (by omega) (by omega) hx
    · exact h.gb x hx k a n b1
  · rcases h.all x hx with h1 | ⟨k, a, n, h1, h2⟩ | h1
    · exact .inl h1
    · refine .inr (.inl ⟨k, a, n, ?_, h2⟩)
      have hkn : k ≠ num := by
        rintro rfl
        have := hfree _ h1
        dsimp only at this
        omega
      unfold Blk
      dsimp only
      rw [hoth k hkn]
      exact h1
    · exact .inr (.inl ⟨num, ga, m, hnum, h1⟩)
  · show V.used + m = (bk'.map wt).sum
    rw [hsum, h.used]
  · have := h.ur
    show V.used + m + 0 ≤ V.room
    omega
  · show i ∈ fr' ↔ _
    rw [hfr i, h.fr i]
    constructor
    · rintro ⟨⟨k, t, rfl, h1, h2⟩, h3⟩
      refine ⟨k, t, rfl, ?_, h2⟩
      dsimp only
      rw [hoth k (fun hc => h3 (by rw [hc]))]
      exact h1
    · rintro ⟨k, t, rfl, h1, h2⟩
      dsimp only at h1
      have hkn : k ≠ num := by
        rintro rfl
        rw [hnum] at h1
        injection h1 with h1
        rw [← h1] at h2
        dsimp only at h2
        omega
      rw [hoth k hkn] at h1
      exact ⟨⟨k, t, rfl, h1, h2⟩, fun hc => hkn (by omega)⟩
  · show (over V.bs ga ys).length ≤ V.room
    rw [ho]; exact h.bsl
end Go.Proofs.Ythpcjgfbngemiaa
