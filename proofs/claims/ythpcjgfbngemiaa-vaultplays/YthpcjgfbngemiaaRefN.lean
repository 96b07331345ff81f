/-
  The document's vault and the program's: numbers, a block that goes, a block that comes, packing. No walk.
-/
import Derived.Test.YthpcjgfbngemiaaRefM
import Derived.Test.YthpcjgfbngemiaaRefI
namespace Go.Proofs.Ythpcjgfbngemiaa
open Go.RowKit
set_option linter.unusedVariables false
theorem least_one {l : List RB} {m n : Nat} (h : Least l m) (g : Least l n) : m = n := by
  rcases Nat.lt_trichotomy m n with hc | hc | hc
  · obtain ⟨x, hx, e⟩ := g.low m hc
    exact absurd e (h.free x hx)
  · exact hc
  · obtain ⟨x, hx, e⟩ := h.low n hc
    exact absurd e (g.free x hx)
section
variable {V V' : Vl} {r : Rf}
theorem RV.least (x : RV V r) (h : VM V 0 0) {num : Nat} (h1 : ∀ j, j < num → ∃ a n, Blk V j a n) (h2 : ∀ a n, ¬ Blk V num a n) : Least r.L num := by
  refine ⟨fun j hj => ?_, fun y hy hc => ?_⟩
  · obtain ⟨a, n, hb⟩ := h1 j hj
    exact ⟨_, (x.mem h).2 ⟨j, a, n, hb, rfl⟩, rfl⟩
  · obtain ⟨k, a, n, hb, rfl⟩ := (x.mem h).1 hy
    dsimp only at hc
    obtain rfl : k = num := by omega
    exact h2 a n hb
theorem RV.find_some (x : RV V r) (h : VM V 0 0) {k a m : Nat} (hb : Blk V k a m) : ∃ j : Nat, rF r.L (k : Int) = (j : Int) ∧ r.L[j]? = some ((k : Int), (a : Int), str V a m) := by
  obtain ⟨j, hj⟩ := List.mem_iff_getElem?.1 ((x.mem h).2 ⟨k, a, m, hb, rfl⟩)
  refine ⟨j, rF_some hj rfl fun i y hi hy hc => ?_, hj⟩
  have hn := List.pairwise_iff_getElem.1 (x.num h)
  obtain ⟨hjl, hje⟩ := List.getElem?_eq_some_iff.1 hj
  obtain ⟨hil, hie⟩ := List.getElem?_eq_some_iff.1 hy
  have := hn i j hil hjl hi
  rw [hie, hje] at this
  exact this hc
theorem RV.find_none (x : RV V r) (h : VM V 0 0) {i : Int} (hn : ∀ (k a m : Nat), i = (k : Int) → ¬ Blk V k a m) : rF r.L i = -1 := by
  refine rF_none fun y hy hc => ?_
  obtain ⟨k, a, m, hb, rfl⟩ := (x.mem h).1 hy
  exact hn k a m hc.symm hb
/-! ### rows of blocks -/
theorem alive_app (l t : List (Int × Int × Int)) : alive (l ++ t) = alive l ++ alive t := by unfold alive; rw [List.filter_append]
theorem alive_dead {p : Int × Int × Int} (h : p.1 = -1) (t : List (Int × Int × Int)) : alive (p :: t) = alive t := by unfold alive; simp [h]
theorem alive_live {p : Int × Int × Int} (h : p.1 ≠ -1) (t : List (Int × Int × Int)) : alive (p :: t) = p :: alive t := by unfold alive; simp [h]
theorem alive_out {l : List (Int × Int × Int)} {i : Nat} {t t' : Int × Int × Int} (h : l[i]? = some t) (ht : t.1 ≠ -1) (ht' : t'.1 = -1) : (alive l).Perm (t :: alive (l.set i t')) := by
  obtain ⟨l1, l2, rfl, rfl⟩ := split_at h
  have hs : (l1 ++ t :: l2).set l1.length t' = l1 ++ t' :: l2 := by simp
  rw [hs, alive_app, alive_app, alive_live ht, alive_dead ht']
  exact List.perm_middle
theorem alive_in {l : List (Int × Int × Int)} {i : Nat} {t t' : Int × Int × Int} (h : l[i]? = some t) (ht : t.1 = -1) (ht' : t'.1 ≠ -1) : (alive (l.set i t')).Perm (t' :: alive l) := by
  obtain ⟨l1, l2, rfl, rfl⟩ := split_at h
  have hs : (l1 ++ t :: l2).set l1.length t' = l1 ++ t' :: l2 := by simp
  rw [hs, alive_app, alive_app, alive_live ht', alive_dead ht]
  exact List.perm_middle
theorem alive_new (l : List (Int × Int × Int)) {t' : Int × Int × Int} (z : Int × Int × Int) (ht' : t'.1 ≠ -1) : (alive ((l ++ [z]).set l.length t')).Perm (t' :: alive l) := by
  have hs : (l ++ [z]).set l.length t' = l ++ [t'] := by simp
  rw [hs, alive_app, alive_live ht', show alive ([] : List (Int × Int × Int)) = [] from rfl]
  exact List.perm_middle.trans (by rw [List.append_nil])
/-- a block is let go -/
theorem RV.drop (x : RV V r) (h : VM V 0 0) (h' : VM V' 0 0) {i a m j : Nat} (hb : Blk V i a m) (hj : r.L[j]? = some ((i : Int), (a : Int), str V a m)) (hbk : V'.bk = V.bk.set i (-1, (a : Int), (m : Int))) (hbs : V'.bs = V.bs)
    (hroom : V'.room = V.room) (hpk : V'.packs = V.packs) (hmv : V'.moved = V.moved) : RV V' { r with L := r.L.eraseIdx j } := by
  have hp := alive_out (t' := (-1, (a : Int), (m : Int))) hb (show (i : Int) ≠ -1 by omega) rfl
  rw [← hbk] at hp
  have hrb : ∀ p, rb V' p = rb V p := fun p => by unfold rb str val; rw [hbs]
  have hrbf : (alive V'.bk).map (rb V') = (alive V'.bk).map (rb V) := List.map_congr_left fun p _ => hrb p
  obtain ⟨l1, l2, e, rfl⟩ := split_at hj
  refine ⟨x.room.trans hroom.symm, x.packs.trans hpk.symm, x.moved.trans hmv.symm, ?_, x.srt.sublist (List.eraseIdx_sublist _ _), fun k a' m' hk y hy => ?_⟩
  · show (r.L.eraseIdx l1.length).Perm _
    have h1 := x.perm.trans (hp.map (rb V))
    rw [List.map_cons, rb_blk, e] at h1
    have h2 := (List.perm_middle.symm.trans h1).cons_inv
    rw [hrbf, e, List.eraseIdx_append_of_length_le (Nat.le_refl _), Nat.sub_self]
    exact h2
  · have hval : val V' a' m' = val V a' m' := by unfold val; rw [hbs]
    rw [hval] at hy
    have hmem := (alive_blk h').2 ⟨k, a', m', rfl, hk⟩
    obtain ⟨k2, a2, m2, e2, hb2⟩ := (alive_blk h).1 (hp.mem_iff.2 (List.mem_cons_of_mem _ hmem))
    injection e2 with e3 e2
    injection e2 with e4 e5
    obtain rfl : k = k2 := by omega
    obtain rfl : a' = a2 := by omega
    obtain rfl : m' = m2 := by omega
    exact x.byt k a' m' hb2 y hy
/-- a block comes -/
theorem RV.insert (x : RV V r) (h : VM V 0 0) (h' : VM V' 0 0) {num ga m : Nat} {ys : List Int} (hp : (alive V'.bk).Perm (((num : Int), (ga : Int), (m : Int)) :: alive V.bk)) (hval : ∀ k a n, Blk V k a n → val V' a n = val V a n) (hys : val V' ga m = ys)
    (hby : ∀ y ∈ ys, 0 ≤ y ∧ y < 256) (hno : ∀ a n, ¬ Blk V num a n) (hroom : V'.room = V.room) (hpk : V'.packs = V.packs) (hmv : V'.moved = V.moved) : RV V' { r with L := rW r.L ((num : Int), (ga : Int), strOfNums ys) } := by
  refine ⟨x.room.trans hroom.symm, x.packs.trans hpk.symm, x.moved.trans hmv.symm, ?_, rW_srt x.srt fun y hy hc => ?_, fun k a' m' hk y hy => ?_⟩
  · refine (rW_perm _ _).trans ?_
    have h1 := hp.map (rb V')
    rw [List.map_cons, rb_blk] at h1
    refine List.Perm.trans ?_ h1.symm
    have e1 : str V' ga m = strOfNums ys := by unfold str; rw [hys]
    rw [e1]
    refine List.Perm.cons _ (x.perm.trans (List.Perm.of_eq (List.map_congr_left fun p hp => ?_)))
    obtain ⟨k, a, n, rfl, hb⟩ := (alive_blk h).1 hp
    rw [rb_blk, rb_blk]
    unfold str
    rw [hval k a n hb]
  · obtain ⟨k, a, n, hb, rfl⟩ := (x.mem h).1 hy
    dsimp only at hc
    obtain rfl : k = num := by omega
    exact hno a n hb
  · have hmem := hp.mem_iff.1 ((alive_blk h').2 ⟨k, a', m', rfl, hk⟩)
    rcases List.mem_cons.1 hmem with e2 | hmem
    · injection e2 with e3 e2
      injection e2 with e4 e5
      obtain rfl : a' = ga := by omega
      obtain rfl : m' = m := by omega
      rw [hys] at hy
      exact hby y hy
    · obtain ⟨k2, a2, m2, e2, hb2⟩ := (alive_blk h).1 hmem
      injection e2 with e3 e2
      injection e2 with e4 e5
      obtain rfl : k = k2 := by omega
      obtain rfl : a' = a2 := by omega
      obtain rfl : m' = m2 := by omega
      rw [hval k a' m' hb2] at hy
      exact x.byt k a' m' hb2 y hy
end
/-! ### packing -/
def rPk (r : Rf) : Rf := ⟨r.room, r.packs + 1, r.moved + mvR r.L 0, (nlR r.L 0).foldl rW []⟩
theorem foldl_rW_perm : ∀ (t acc : List RB), (t.foldl rW acc).Perm (t ++ acc)
  | [], acc => List.Perm.refl _
  | b :: t, acc => by
    rw [List.foldl_cons]
    refine (foldl_rW_perm t (rW acc b)).trans ?_
    rw [List.cons_append]
    exact ((rW_perm acc b).append_left t).trans List.perm_middle
theorem foldl_rW_srt : ∀ (t acc : List RB), acc.Pairwise (fun a b => rA a b = true) → (t ++ acc).Pairwise (fun a b => a.1 ≠ b.1) → (t.foldl rW acc).Pairwise fun a b => rA a b = true
  | [], acc, h, _ => h
  | b :: t, acc, h, hn => by
    rw [List.foldl_cons]
    rw [List.cons_append, List.pairwise_cons] at hn
    refine foldl_rW_srt t _ (rW_srt h fun y hy => Ne.symm (hn.1 y (List.mem_append_right _ hy))) ?_
    refine (((rW_perm acc b).append_left t).pairwise_iff (fun {a b} hab => Ne.symm hab)).2 ?_
    refine (List.perm_middle.pairwise_iff (fun {a b} hab => Ne.symm hab)).2 ?_
    rw [List.pairwise_cons]
    exact hn
theorem pk_moved : ∀ (t : List (Int × Int × Int)) (e : Nat) (V : Vl), (∀ p ∈ t, ∃ i a m : Nat, p = ((i : Int), (a : Int), (m : Int))) → ∀ (s : Int × Int × Int → ByteArray), (∀ p ∈ t, ((s p).size : Int) = p.2.2) →
    (pkF t e V).1.moved = V.moved + mvR (t.map fun p => (p.1, p.2.1, s p)) (e : Int)
  | [], e, V, _, s, _ => by simp [pkF, mvR]
  | p :: t, e, V, hb, s, hs => by
    obtain ⟨i, a, m, rfl⟩ := hb p (by simp)
    have hsp := hs _ List.mem_cons_self
    dsimp only at hsp
    have hsz : (s ((i : Int), (a : Int), (m : Int))).size = m := by omega
    have ih := fun e V => pk_moved t e V (fun q hq => hb q (by simp [hq])) s (fun q hq => hs q (by simp [hq]))
    rw [List.map_cons, pkF, mvR]
    dsimp only
    rw [hsz]
    by_cases hm : 0 < m
    · rw [if_pos (by omega), if_pos hm, ih, Int.toNat_natCast, Int.toNat_natCast, Int.toNat_natCast]
      have hly : (layF V i a m e).moved = V.moved + (if (a : Int) = (e : Int) then 0 else m) := by
        unfold layF
        by_cases he : a = e
        · rw [if_pos he, if_pos (by omega)]; rfl
        · rw [if_neg he, if_neg (by omega)]
      rw [hly, show ((e : Int) + (m : Int)) = ((e + m : Nat) : Int) by omega]
      omega
    · rw [if_neg (by omega), if_neg hm, ih]
/-- each block stands at its new place -/
theorem pk_blk : ∀ (t : List (Int × Int × Int)) (e : Nat) (V : Vl), PkP t e V → ∀ y ∈ nlR (t.map (rb V)) (e : Int), ∃ k a m : Nat, Blk (pkF t e V).1 k a m ∧ y = ((k : Int), (a : Int), str (pkF t e V).1 a m)
  | [], e, V, _, y, hy => by simp [nlR] at hy
  | p :: t, e, V, h, y, hy => by
    obtain ⟨i, a, m, rfl, hb, ham, hea⟩ := h.blk p List.mem_cons_self
    have hnum := List.pairwise_cons.1 h.num
    have hsrt := List.pairwise_cons.1 h.srt
    have hsz : (str V a m).size = m := by unfold str val; rw [strOfNums_size, List.length_take, List.length_drop]; omega
    have hr := (pk_ok _ e V h).2
    rw [List.map_cons, rb_blk, nlR] at hy
    dsimp only at hy
    rw [hsz] at hy
    have hlen := lens_cons ((i : Int), (a : Int), (m : Int)) t
    dsimp only at hlen
    rw [Int.toNat_natCast] at hlen
    by_cases hm : 0 < m
    · rw [if_pos hm] at hy
      obtain ⟨k1, k2, k3, k4, k5, k6, k7⟩ := layF_bk V i a m e hb
      obtain ⟨b1, b2, b3, b4⟩ := layF_bs V i a m e (hea hm) ham
      have hpk : pkF (((i : Int), (a : Int), (m : Int)) :: t) e V = pkF t (e + m) (layF V i a m e) := by
        rw [pkF]
        dsimp only
        rw [if_pos (by omega), Int.toNat_natCast, Int.toNat_natCast, Int.toNat_natCast]
      have hP : PkP t (e + m) (layF V i a m e) := by
        refine ⟨fun q hq => ?_, hnum.2, hsrt.2, by rw [b1]; exact h.bs, by rw [k3]; exact h.bk, ?_⟩
        · obtain ⟨j, b, n, rfl, hb2, hbn, hen⟩ := h.blk q (List.mem_cons_of_mem _ hq)
          have hne : j ≠ i := fun hc => hnum.1 _ hq (by dsimp only; omega)
          refine ⟨j, b, n, rfl, (k2 j hne).trans hb2, by rw [b1]; exact hbn, fun hn => ?_⟩
          have := hsrt.1 _ hq (by dsimp only; omega) (by dsimp only; omega)
          dsimp only at this
          have := hea hm
          omega
        · have := h.mv
          omega
      have hstr : t.map (rb V) = t.map (rb (layF V i a m e)) := List.map_congr_left fun q hq => by
        obtain ⟨j, b, n, rfl, hb2, hbn, hen⟩ := h.blk q (List.mem_cons_of_mem _ hq)
        rw [rb_blk, rb_blk]
        unfold str
        by_cases hn : 0 < n
        · have := hsrt.1 _ hq (by dsimp only; omega) (by dsimp only; omega)
          dsimp only at this
          rw [b4 b n (by omega)]
        · obtain rfl : n = 0 := by omega
          unfold val
          rw [List.take_zero, List.take_zero]
      rw [hpk]
      rcases List.mem_cons.1 hy with rfl | hy
      · obtain ⟨_, r⟩ := pk_ok t (e + m) (layF V i a m e) hP
        refine ⟨i, e, m, ?_, ?_⟩
        · unfold Blk
          rw [r.oth i (fun q hq _ hc => hnum.1 q hq (by dsimp only; exact hc.symm))]
          exact k1
        · have hv : val (pkF t (e + m) (layF V i a m e)).1 e m = val V a m := by
            rw [← b2]
            unfold val
            apply List.ext_getElem?
            intro z
            rw [part_get, part_get]
            split
            · exact r.low _ (by omega)
            · rfl
          unfold str
          rw [hv]
      · rw [hstr, show ((e : Int) + (m : Int)) = ((e + m : Nat) : Int) by omega] at hy
        exact pk_blk t (e + m) _ hP y hy
    · obtain rfl : m = 0 := by omega
      rw [if_neg hm] at hy
      have hP : PkP t e V := ⟨fun q hq => h.blk q (List.mem_cons_of_mem _ hq), hnum.2, hsrt.2, h.bs, h.bk, by have := h.mv; omega⟩
      have hpk : pkF (((i : Int), (a : Int), ((0 : Nat) : Int)) :: t) e V = pkF t e V := by
        rw [pkF]
        dsimp only
        rw [if_neg (by omega)]
      rw [hpk]
      rcases List.mem_cons.1 hy with rfl | hy
      · obtain ⟨_, r⟩ := pk_ok t e V hP
        refine ⟨i, a, 0, ?_, ?_⟩
        · unfold Blk
          rw [r.oth i (fun q hq _ hc => hnum.1 q hq (by dsimp only; exact hc.symm))]
          exact hb
        · unfold str val
          rw [List.take_zero, List.take_zero]
      · exact pk_blk t e V hP y hy
theorem nlR_fst : ∀ (l : List RB) (e : Int), (nlR l e).map (·.1) = l.map (·.1)
  | [], e => rfl
  | b :: t, e => by
    rw [nlR]
    split
    · rw [List.map_cons, List.map_cons, nlR_fst]
    · rw [List.map_cons, List.map_cons, nlR_fst]
theorem nodup_of_num {l : List RB} (h : l.Pairwise fun a b => a.1 ≠ b.1) : l.Nodup := h.imp fun {a b} hab hc => hab (by rw [hc])
/-- a vault that is packed -/
theorem RV.packed {V : Vl} {r : Rf} (x : RV V r) (h : VM V 0 0) (hk : V.bk.length ≤ 100000) (hmv : V.moved ≤ 900000000000) {l : List (Int × Int × Int)} (hp : l.Perm (alive V.bk)) (hs : l.Pairwise fun a b => ¬ ltB b a) : RV (packF l V) (rPk r) := by
  obtain ⟨ok, hend, h1, h2, h3, h4, h5, h6, h7, h8⟩ := h.pack hk hmv hp hs
  have hP := h.pkp hk hmv hp hs
  have hL := x.told h hp hs
  have hbl : ∀ p ∈ l, ∃ i a m : Nat, p = ((i : Int), (a : Int), (m : Int)) ∧ Blk V i a m := fun p hq => (alive_blk h).1 (hp.mem_iff.1 hq)
  have hblk := pk_blk l 0 V hP
  rw [← hL] at hblk
  have hnum : (nlR r.L 0).Pairwise fun a b => a.1 ≠ b.1 := by
    have := x.num h
    rw [← List.pairwise_map (f := fun y : RB => y.1) (R := fun a b => a ≠ b)] at this ⊢
    rw [nlR_fst]
    exact this
  have hpb : ∀ k a m, Blk (pkF l 0 V).1 k a m ↔ Blk (packF l V) k a m := fun k a m => Iff.rfl
  have hps : ∀ a m, str (pkF l 0 V).1 a m = str (packF l V) a m := fun a m => rfl
  have hperm : (nlR r.L 0).Perm ((alive (packF l V).bk).map (rb (packF l V))) := by
    refine (List.perm_ext_iff_of_nodup (nodup_of_num hnum) (nodup_of_num ?_)).2 fun y => ?_
    · rw [List.pairwise_map]
      exact (alive_num h1).imp fun {a b} hab => hab
    · rw [List.mem_map]
      constructor
      · intro hy
        obtain ⟨k, a, m, hb, rfl⟩ := hblk y hy
        exact ⟨_, (alive_blk h1).2 ⟨k, a, m, rfl, hb⟩, rfl⟩
      · rintro ⟨p, hpm, rfl⟩
        obtain ⟨k, a, m, rfl, hb⟩ := (alive_blk h1).1 hpm
        -- block k was there
        have hfr : (k : Int) ∉ V.fr := fun hc => by
          rw [← h5] at hc
          obtain ⟨k2, t, e1, e2, e3⟩ := (h1.fr _).1 hc
          obtain rfl : k = k2 := by omega
          unfold Blk at hb
          rw [hb] at e2
          injection e2 with e2
          rw [← e2] at e3
          dsimp only at e3
          omega
        have hkl : k < V.bk.length := by rw [← h4]; exact (List.getElem?_eq_some_iff.1 hb).1
        obtain ⟨a0, m0, hb0⟩ : ∃ a0 m0, Blk V k a0 m0 := by
          rcases h.kin k _ (List.getElem?_eq_getElem hkl) with e1 | ⟨a0, m0, e1, _⟩
          · exact absurd ((h.fr _).2 ⟨k, _, rfl, List.getElem?_eq_getElem hkl, e1⟩) hfr
          · exact ⟨a0, m0, by unfold Blk; rw [List.getElem?_eq_getElem hkl, e1]⟩
        have hin : (k : Int) ∈ (nlR r.L 0).map (·.1) := by
          rw [nlR_fst]
          exact List.mem_map.2 ⟨_, (x.mem h).2 ⟨k, a0, m0, hb0, rfl⟩, rfl⟩
        obtain ⟨y, hy, e1⟩ := List.mem_map.1 hin
        obtain ⟨k2, a2, m2, hb2, rfl⟩ := hblk y hy
        dsimp only at e1
        obtain rfl : k2 = k := by omega
        obtain ⟨rfl, rfl⟩ := Blk.eq hb2 hb
        exact hy
  refine ⟨x.room.trans h7.symm, ?_, ?_, ?_, ?_, fun k a m hb y hy => ?_⟩
  · show r.packs + 1 = _
    unfold packF
    dsimp only
    rw [(pk_room l 0 V).2.1, x.packs]
  · show r.moved + mvR r.L 0 = (pkF l 0 V).1.moved
    rw [pk_moved l 0 V (fun p hq => by obtain ⟨i, a, m, e, _⟩ := hbl p hq; exact ⟨i, a, m, e⟩) (fun p => str V p.2.1.toNat p.2.2.toNat) (fun p hq => by
      obtain ⟨i, a, m, rfl, hb⟩ := hbl p hq
      show ((str V a m).size : Int) = (m : Int)
      rw [str_size h hb]), x.moved, hL]
    rfl
  · show ((nlR r.L 0).foldl rW []).Perm _
    refine (foldl_rW_perm _ _).trans ?_
    rw [List.append_nil]
    exact hperm
  · show ((nlR r.L 0).foldl rW []).Pairwise _
    exact foldl_rW_srt _ _ List.Pairwise.nil (by rw [List.append_nil]; exact hnum)
  · have hin := (alive_blk h1).2 ⟨k, a, m, rfl, hb⟩
    have hfr : (k : Int) ∉ V.fr := fun hc => by
      rw [← h5] at hc
      obtain ⟨k2, t, e1, e2, e3⟩ := (h1.fr _).1 hc
      obtain rfl : k = k2 := by omega
      unfold Blk at hb
      rw [hb] at e2
      injection e2 with e2
      rw [← e2] at e3
      dsimp only at e3
      omega
    have hkl : k < V.bk.length := by rw [← h4]; exact (List.getElem?_eq_some_iff.1 hb).1
    rcases h.kin k _ (List.getElem?_eq_getElem hkl) with e1 | ⟨a0, m0, e1, _⟩
    · exact absurd ((h.fr _).2 ⟨k, _, rfl, List.getElem?_eq_getElem hkl, e1⟩) hfr
    · have hb0 : Blk V k a0 m0 := by unfold Blk; rw [List.getElem?_eq_getElem hkl, e1]
      obtain ⟨a', hb', hv'⟩ := h2 k a0 m0 hb0
      obtain ⟨rfl, rfl⟩ := Blk.eq hb' hb
      rw [hv'] at hy
      exact x.byt k a0 _ hb0 y hy
end Go.Proofs.Ythpcjgfbngemiaa
