/-
  What a Put and a Drop are to the document's vault. No walk.
-/
import Derived.Test.YthpcjgfbngemiaaActsX
namespace Go.Proofs.Ythpcjgfbngemiaa
open Go.RowKit
set_option linter.unusedVariables false
theorem Least.same {l l2 : List RB} {m : Nat} (h : Least l m) (hp : (l.map (·.1)).Perm (l2.map (·.1))) : Least l2 m := by
  refine ⟨fun j hj => ?_, fun y hy hc => ?_⟩
  · obtain ⟨x, hx, e⟩ := h.low j hj
    have := hp.mem_iff.1 (List.mem_map.2 ⟨x, hx, rfl⟩)
    obtain ⟨y, hy, e2⟩ := List.mem_map.1 this
    exact ⟨y, hy, e2.trans e⟩
  · have := hp.mem_iff.2 (List.mem_map.2 ⟨y, hy, rfl⟩)
    obtain ⟨x, hx, e2⟩ := List.mem_map.1 this
    exact h.free x hx (e2.trans hc)
theorem RV.insX {V0 V1 V' : Vl} {r : Rf} (x : RV V0 r) (h : VM V0 0 0) {num ga m : Nat} {ys z : List Int} (hv' : VM V' 0 0) (t1 : VM V1 ga m) (tl : ga + m ≤ V1.bs.length) (hy : ys.length = m) (hby : ∀ y ∈ ys, 0 ≤ y ∧ y < 256) (nx : NumX V1 num)
    (hp : (alive V'.bk).Perm (((num : Int), (ga : Int), (m : Int)) :: alive V1.bk)) (hbs : V'.bs = over V1.bs ga ys) (hbk : V1.bk = V0.bk) (hz : V1.bs = V0.bs ++ z) (hroom : V'.room = V0.room) (hpk : V'.packs = V0.packs) (hmv : V'.moved = V0.moved) :
    RV V' { r with L := rW r.L ((num : Int), (ga : Int), strOfNums ys) } := by
  have hb1 : ∀ k a n, Blk V0 k a n → Blk V1 k a n := fun k a n hb => by unfold Blk; rw [hbk]; exact hb
  refine x.insert h hv' (by rw [hbk] at hp; exact hp) (fun k a n hb => ?_) ?_ hby (fun a n hb => nx.free a n (hb1 _ _ _ hb)) hroom hpk hmv
  · have e1 : val V1 a n = val V0 a n := by unfold val; rw [hz]; exact val_app V0 z a n (h.blk_len hb)
    rw [← e1]
    unfold val
    rw [hbs]
    exact over_other (by rw [hy]; exact tl) (fun y h1 h2 => t1.fb y h1 (by rw [hy] at h2; exact h2) k a n (hb1 _ _ _ hb))
  · unfold val
    rw [hbs]
    have := over_self (l := V1.bs) (t := ga) (ys := ys) (by rw [hy]; exact tl)
    rw [hy] at this
    exact this
theorem NumX.of {V V1 : Vl} {num : Nat} (h : NumX V1 num) (hbk : V1.bk = V.bk) : (∀ j, j < num → ∃ a n, Blk V j a n) ∧ ∀ a n, ¬ Blk V num a n := by
  refine ⟨fun j hj => ?_, fun a n hb => h.free a n (by unfold Blk; rw [hbk]; exact hb)⟩
  obtain ⟨a, n, hb⟩ := h.low j hj
  exact ⟨a, n, by unfold Blk at hb ⊢; rw [← hbk]; exact hb⟩
theorem RV.putX {V V' : Vl} {r : Rf} {num m : Nat} {ys : List Int} (x : RV V r) (h : VM V 0 0) (hk : V.bk.length ≤ 90000) (hmv : V.moved ≤ 900000000000) (R : PutR V V' num m ys) (X : PutX V V' num m ys) (hy : ys.length = m) (hby : ∀ y ∈ ys, 0 ≤ y ∧ y < 256) :
    Least r.L num ∧ ((m = 0 ∧ RV V' { r with L := rW r.L ((num : Int), 0, strOfNums ys) }) ∨
      (0 < m ∧ ∃ ga : Nat, rBest (V.room : Int) r.L (m : Int) (rE r.L) = (ga : Int) ∧ RV V' { r with L := rW r.L ((num : Int), (ga : Int), strOfNums ys) }) ∨
      (0 < m ∧ rBest (V.room : Int) r.L (m : Int) (rE r.L) = -1 ∧ ∃ ga : Nat, RSm (rPk r).L ∧ rBest (V.room : Int) (rPk r).L (m : Int) (rE (rPk r).L) = (ga : Int) ∧ RV V' { rPk r with L := rW (rPk r).L ((num : Int), (ga : Int), strOfNums ys) })) := by
  obtain ⟨V1, ga, t, tx, nx, hp, hbs, hpk, hmv1⟩ := X
  rcases tx with ⟨h0, h1, h2⟩ | ⟨hm, i, gm, z, hi, hle, hmin, hbk, hz, e1, e2⟩ | ⟨hm, hno, l, gm, z, hlp, hls, hgp, hle, hbk, hz, e1, e2⟩
  · subst h1
    subst h2
    obtain ⟨n1, n2⟩ := nx.of (V := V1) rfl
    exact ⟨x.least h n1 n2, .inl ⟨h0, x.insX h R.vm t.vm t.len hy hby nx hp hbs rfl (z := []) (by simp) R.room hpk hmv1⟩⟩
  · obtain ⟨n1, n2⟩ := nx.of hbk
    exact ⟨x.least h n1 n2, .inr (.inl ⟨hm, ga, x.first h hm hi hle hmin, x.insX h R.vm t.vm t.len hy hby nx hp hbs hbk hz R.room (hpk.trans e1) (hmv1.trans e2)⟩)⟩
  · obtain ⟨_, _, vp, p2, p3, p4, p5, p6, p7, p8⟩ := h.pack (by omega) hmv hlp hls
    have xp := x.packed h (by omega) hmv hlp hls
    obtain ⟨n1, n2⟩ := nx.of hbk
    have hL := xp.least vp n1 n2
    have hnums : ((rPk r).L.map (·.1)).Perm (r.L.map (·.1)) := by
      have h1 : ((nlR r.L 0).foldl rW []).Perm (nlR r.L 0 ++ []) := foldl_rW_perm _ _
      rw [List.append_nil] at h1
      have h2 := h1.map (fun y : RB => y.1)
      rw [nlR_fst] at h2
      exact h2
    have hfirst := xp.first vp (i := 0) (ga := ga) (gm := gm) hm (by rw [hgp]; rfl) hle (fun j hj => by omega)
    rw [p7] at hfirst
    exact ⟨hL.same hnums, .inr (.inr ⟨hm, x.first_none h hm hno, ga, xp.small vp, hfirst, xp.insX vp R.vm t.vm t.len hy hby nx hp hbs hbk hz (R.room.trans p7.symm) (hpk.trans e1) (hmv1.trans e2)⟩)⟩
end Go.Proofs.Ythpcjgfbngemiaa
