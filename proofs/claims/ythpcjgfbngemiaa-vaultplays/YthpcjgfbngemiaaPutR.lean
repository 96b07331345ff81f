/-
  What a Put makes of a vault: the mathematics.
-/
import Derived.Test.YthpcjgfbngemiaaPackL
namespace Go.Proofs.Ythpcjgfbngemiaa
set_option linter.unusedVariables false
/-- bytes from ga on, m of them, are taken: V became V1 -/
structure TakeR (V V1 : Vl) (ga m : Nat) : Prop where
  vm : VM V1 ga m
  len : ga + m ≤ V1.bs.length
  used : V1.used = V.used
  room : V1.room = V.room
  kl : V1.bk.length = V.bk.length
  fr : V1.fr = V.fr
  old : ∀ k a n, Blk V k a n → ∃ a', Blk V1 k a' n ∧ val V1 a' n = val V a n
  moved : V1.moved ≤ V.moved + V.used
  packs : V1.packs ≤ V.packs + 1
theorem val_app (V : Vl) (r : List Int) (a n : Nat) (h : a + n ≤ V.bs.length) : ((V.bs ++ r).drop a).take n = (V.bs.drop a).take n := by
  apply List.ext_getElem?
  intro i
  rw [part_get, part_get]
  split
  · rw [List.getElem?_append_left (by omega)]
  · rfl
theorem VM.blk_len {V : Vl} {fa fm : Nat} (h : VM V fa fm) {k a n : Nat} (hb : Blk V k a n) : a + n ≤ V.bs.length := by
  rcases h.kin k _ hb with h1 | ⟨a', m', he, h1, _⟩
  · have : (k : Int) = -1 := h1
    omega
  · injection he with _ he
    injection he with e1 e2
    omega
theorem TakeR.gap {V : Vl} (h : VM V 0 0) {i ga gm m : Nat} (hi : V.gp[i]? = some ((ga : Int), (gm : Int))) (hm : 0 < m) (hkm : m ≤ gm) (hr : V.used + m ≤ V.room) :
    TakeR V { V with gp := takeG V.gp i ga gm m, bs := V.bs ++ List.replicate (ga + m - V.bs.length) 0 } ga m := by
  refine ⟨h.take hi hm hkm hr, ?_, rfl, rfl, rfl, rfl, fun k a n hb => ⟨a, hb, ?_⟩, by dsimp only; omega, by dsimp only; omega⟩
  · dsimp only
    rw [List.length_append, List.length_replicate]; omega
  · exact val_app V _ a n (h.blk_len hb)
theorem TakeR.pack {V : Vl} (h : VM V 0 0) (hk : V.bk.length ≤ 100000) (hmv : V.moved ≤ 900000000000) {l : List (Int × Int × Int)} (hp : l.Perm (alive V.bk)) (hs : l.Pairwise fun a b => ¬ ltB b a) (hpk : (packF l V).packs ≤ V.packs + 1)
    {ga gm m : Nat} (hg : (packF l V).gp = [((ga : Int), (gm : Int))]) (hm : 0 < m) (hkm : m ≤ gm) (hr : V.used + m ≤ V.room) :
    TakeR V { packF l V with gp := takeG (packF l V).gp 0 ga gm m, bs := (packF l V).bs ++ List.replicate (ga + m - (packF l V).bs.length) 0 } ga m := by
  obtain ⟨_, _, h1, h2, h3, h4, h5, h6, h7, h8⟩ := h.pack hk hmv hp hs
  have t := TakeR.gap h1 (i := 0) (ga := ga) (gm := gm) (m := m) (by rw [hg]; rfl) hm hkm (by rw [h6, h7]; exact hr)
  refine ⟨t.vm, t.len, t.used.trans h6, t.room.trans h7, t.kl.trans h4, t.fr.trans h5, fun k a n hb => ?_, h3, hpk⟩
  obtain ⟨a1, b1, e1⟩ := h2 k a n hb
  obtain ⟨a2, b2, e2⟩ := t.old k a1 n b1
  exact ⟨a2, b2, e2.trans e1⟩
/-- a block of m bytes, which are ys, is entered: V became V' -/
structure PutR (V V' : Vl) (num m : Nat) (ys : List Int) : Prop where
  vm : VM V' 0 0
  room : V'.room = V.room
  used : V'.used = V.used + m
  blk : ∃ a, Blk V' num a m ∧ val V' a m = ys
  old : ∀ k a n, Blk V k a n → k ≠ num ∧ ∃ a', Blk V' k a' n ∧ val V' a' n = val V a n
  kl : V'.bk.length ≤ V.bk.length + 1
  moved : V'.moved ≤ V.moved + V.used
  packs : V'.packs ≤ V.packs + 1
theorem PutR.of {V V1 : Vl} {ga m : Nat} (t : TakeR V V1 ga m) {ys : List Int} (hy : ys.length = m) (h0 : m = 0 → ga = 0) {num : Nat} {bk' : List (Int × Int × Int)} {fr' : List Int}
    (hnum : bk'[num]? = some ((num : Int), (ga : Int), (m : Int))) (hoth : ∀ k, k ≠ num → bk'[k]? = V1.bk[k]?) (hfree : ∀ t, V1.bk[num]? = some t → t.1 = -1) (hsum : (bk'.map wt).sum = (V1.bk.map wt).sum + m)
    (hheap : ∃ d n, fr' = vals d n ∧ Heap n d) (hfr : ∀ i : Int, i ∈ fr' ↔ i ∈ V1.fr ∧ i ≠ (num : Int)) (hnod : fr'.Nodup) (hkl : bk'.length ≤ V1.bk.length + 1) :
    PutR V { V1 with bs := over V1.bs ga ys, used := V1.used + m, bk := bk', fr := fr' } num m ys := by
  have hlen := t.len
  refine ⟨t.vm.enter hy t.len h0 hnum hoth hfree hsum hheap hfr hnod, t.room, by dsimp only; rw [t.used], ⟨ga, hnum, ?_⟩, fun k a n hb => ?_, by dsimp only; rw [← t.kl]; exact hkl, t.moved, t.packs⟩
  · have := over_self (l := V1.bs) (t := ga) (ys := ys) (by rw [hy]; exact hlen)
    rw [hy] at this
    exact this
  · obtain ⟨a1, b1, e1⟩ := t.old k a n hb
    have hkn : k ≠ num := fun e => by
      subst e
      have : (k : Int) = -1 := hfree _ b1
      omega
    refine ⟨hkn, a1, by unfold Blk; dsimp only; rw [hoth k hkn]; exact b1, ?_⟩
    rw [← e1]
    exact over_other (by rw [hy]; exact hlen) (fun x h1 h2 => t.vm.fb x h1 (by rw [hy] at h2; exact h2) k a1 n b1)
end Go.Proofs.Ythpcjgfbngemiaa
