/-
  Put of a value that is not empty: what stays true.
-/
import Derived.Test.YthpcjgfbngemiaaPutR
import Derived.Test.YthpcjgfbngemiaaEdges
namespace Go.Proofs.Ythpcjgfbngemiaa
open Go.ChangeShapes Go.WideShapes Go.ChangeAt Go.RowKit
set_option linter.unusedVariables false
set_option maxRecDepth 100000
theorem nodup_le : ∀ (N : Nat) (l : List Int), l.Nodup → (∀ x ∈ l, 0 ≤ x ∧ x < (N : Int)) → l.length ≤ N
  | 0, l, _, h => by
    cases l with
    | nil => simp
    | cons a r => have := h a (by simp); omega
  | N + 1, l, hn, h => by
    by_cases hx : (N : Int) ∈ l
    · have h1 := nodup_le N (l.erase (N : Int)) (hn.erase _) (fun x hxm => by
        have h2 := (hn.mem_erase_iff).1 hxm
        have := h x h2.2
        have h3 : x ≠ (N : Int) := h2.1
        omega)
      rw [List.length_erase_of_mem hx] at h1
      omega
    · have h1 := nodup_le N l hn (fun x hxm => by
        have := h x hxm
        have h3 : x ≠ (N : Int) := fun e => hx (e ▸ hxm)
        omega)
      omega
theorem VM.fr_len {V : Vl} {fa fm : Nat} (h : VM V fa fm) : V.fr.length ≤ V.bk.length :=
  nodup_le _ _ h.nod fun x hx => by
    obtain ⟨k, t, e, h1, _⟩ := (h.fr x).1 hx
    have := (List.getElem?_eq_some_iff.1 h1).1
    omega
theorem gaps_from : ∀ (l : List (Int × Int)) (s : Int), (∀ p ∈ l, s ≤ p.1 ∧ 0 < p.2) → (l.Pairwise fun p q => p.1 + p.2 < q.1) → ∀ R : Int, (∀ p ∈ l, p.1 + p.2 ≤ R) → s ≤ R + 1 → s + 2 * (l.length : Int) ≤ R + 2
  | [], s, _, _, R, _, hs => by simp; omega
  | p :: r, s, h1, h2, R, h3, hs => by
    have hp := h1 p (by simp)
    have hR := h3 p (by simp)
    rw [List.pairwise_cons] at h2
    have ih := gaps_from r (p.1 + p.2 + 1) (fun q hq => ⟨by have := h2.1 q hq; omega, (h1 q (by simp [hq])).2⟩) h2.2 R (fun q hq => h3 q (by simp [hq])) (by omega)
    rw [List.length_cons]
    omega
theorem VM.gp_len {V : Vl} {fa fm : Nat} (h : VM V fa fm) : V.gp.length ≤ 600000 := by
  have := gaps_from V.gp 0 (fun p hp => h.g.pos p hp) h.g.apart (V.room : Int) h.gend (by omega)
  have := h.room
  omega
theorem least {P : Nat → Prop} (h : ∃ n, P n) : ∃ n, P n ∧ ∀ j, j < n → ¬ P j := by
  obtain ⟨n, hn⟩ := h
  induction n using Nat.strongRecOn with
  | _ n ih =>
    by_cases hc : ∃ j, j < n ∧ P j
    · obtain ⟨j, hj, hp⟩ := hc
      exact ih j hj hp
    · exact ⟨n, hn, fun j hj hp => hc ⟨j, hj, hp⟩⟩
theorem sorted_ex (l : List (Int × Int × Int)) : ∃ t : List (Int × Int × Int), t.Perm l ∧ t.Pairwise fun a b => ¬ ltB b a := by
  have h1 := List.pairwise_mergeSort (le := fun a b => !decide (ltB b a)) (fun a b c h1 h2 => by
    simp only [Bool.not_eq_true', decide_eq_false_iff_not] at h1 h2 ⊢
    unfold ltB at *
    omega) (fun a b => by
    simp only [Bool.or_eq_true, Bool.not_eq_true', decide_eq_false_iff_not]
    unfold ltB
    omega) l
  exact ⟨_, List.mergeSort_perm _ _, h1.imp fun h => by simpa using h⟩
section
variable {w : World} {lo b : Nat} {h : Hd} {V : Vl}
/-- bytes are taken, one way or the other -/
theorem take_ok (lo b : Nat) (h : Hd) (hv : VM V 0 0) {m : Nat} (hm : 0 < m) (hroom : V.used + m ≤ V.room) (hk : V.bk.length ≤ 90000) (hmv : V.moved ≤ 900000000000) (hpk : V.packs ≤ 900000000000) :
    ∃ V1 ga, TakeR V V1 ga m ∧ ∀ w', VAt w' lo b h V → Calls Try.prog 22 #[.pointer (some ⟨b, 0, none⟩), .int .i64 (m : Int)] w' fun e w1 => e = .returned (.int .i64 (ga : Int)) ∧ ∃ h1, VAt w1 lo b h1 V1 ∧ Stp b h h1 w' w1 := by
  have hr6 := hv.room
  have hbl := hv.bsl
  have hgl := hv.gp_len
  by_cases hex : ∃ i : Nat, ∃ p, V.gp[i]? = some p ∧ (m : Int) ≤ p.2
  · obtain ⟨i, ⟨p, hp, hmp⟩, hmin⟩ := least hex
    have hpos := hv.g.pos p (List.mem_of_getElem? hp)
    have hend := hv.gend p (List.mem_of_getElem? hp)
    obtain ⟨ga, hga⟩ : ∃ ga : Nat, p.1 = (ga : Int) := ⟨p.1.toNat, by omega⟩
    obtain ⟨gm, hgm⟩ : ∃ gm : Nat, p.2 = (gm : Int) := ⟨p.2.toNat, by omega⟩
    have hp2 : V.gp[i]? = some ((ga : Int), (gm : Int)) := by rw [hp, ← hga, ← hgm]
    refine ⟨_, ga, TakeR.gap hv hp2 hm (by omega) hroom, fun w' hx' => ?_⟩
    refine (takeB_gap hx' hm hp2 (by omega) (fun j q hj hq hle => hmin j hj ⟨q, hq, hle⟩) (by omega) (by omega) (by omega)).mono ?_
    rintro e w1 ⟨he, vB, vG, hv1, hs1⟩
    exact ⟨he, _, hv1, hs1⟩
  · obtain ⟨l, hlp, hls⟩ := sorted_ex (alive V.bk)
    obtain ⟨ok, hend, h1, h2, h3, h4, h5, h6, h7, h8⟩ := hv.pack (by omega) hmv hlp hls
    have hgp : (packF l V).gp = [((V.used : Int), ((V.room - V.used : Nat) : Int))] := by
      unfold packF
      dsimp only
      rw [hend, if_neg (by omega)]
    have hpk1 : (packF l V).packs = V.packs + 1 := by
      unfold packF
      dsimp only
      rw [(pk_room l 0 V).2.1]
    refine ⟨_, V.used, TakeR.pack hv (by omega) hmv hlp hls (by rw [hpk1]; exact Nat.le_refl _) hgp hm (by omega) hroom, fun w' hx' => ?_⟩
    refine (takeB_pack hx' hm (fun p hp hle => hex (by
      obtain ⟨i, hi⟩ := List.mem_iff_getElem?.1 hp
      exact ⟨i, p, hi, hle⟩)) (by omega) (by omega) hr6 (by omega) (fun l2 hp2 hs2 => by
        obtain rfl := sorted_one hv hp2 hs2 hlp hls
        exact ⟨ok, by rw [hend]; omega⟩) (fun l2 hp2 hs2 => by
        obtain rfl := sorted_one hv hp2 hs2 hlp hls
        exact ⟨V.used, V.room - V.used, hgp, by omega, by omega, by rw [h8]; omega⟩)).mono ?_
    rintro e w1 ⟨l2, ga, gm, hp2, hs2, hg2, hkm, he, vB, vG, hv1, hs1⟩
    obtain rfl := sorted_one hv hp2 hs2 hlp hls
    rw [hgp] at hg2
    injection hg2 with e1 _
    injection e1 with e2 e3
    obtain rfl : V.used = ga := by omega
    obtain rfl : V.room - V.used = gm := by omega
    exact ⟨he, _, hv1, hs1⟩
/-- a Put that goes through -/
def PutOk (w : World) (lo b : Nat) (h : Hd) (V : Vl) (m : Nat) (ys : List Int) (e : Ending) (w' : World) : Prop :=
  ∃ num h' V', e = .returned (.tuple #[.int .i64 ((num : Nat) : Int), .int .i64 0]) ∧ VAt w' lo b h' V' ∧ Stp b h h' w w' ∧ PutR V V' num m ys
theorem num_ok (lo b : Nat) {V1 : Vl} {ga m : Nat} (t : TakeR V V1 ga m) {ys : List Int} (hy : ys.length = m) (h0 : m = 0 → ga = 0) (hk : V.bk.length ≤ 90000) :
    ∃ num : Nat, ∀ w2 h2, VAt w2 lo b h2 { V1 with bs := over V1.bs ga ys, used := V1.used + m } → Calls Try.prog 23 #[.pointer (some ⟨b, 0, none⟩)] w2 fun e w3 => e = .returned (.int .i64 (num : Int)) ∧ ∃ h3 V3, (num < V3.bk.length ∧ V3.bk.length ≤ 1000000 ∧ PutR V { V3 with bk := V3.bk.set num ((num : Int), (ga : Int), (m : Int)) } num m ys) ∧ VAt w3 lo b h3 V3 ∧ Stp b h2 h3 w2 w3 := by
  obtain ⟨d, n, hf, hp⟩ := t.vm.heap
  have hkl := t.kl
  cases n with
  | zero =>
    have hf0 : V1.fr = [] := hf
    refine ⟨V1.bk.length, fun w2 h2 hx2 => ?_⟩
    refine (takeN_new hx2 hf0 (by show V1.bk.length ≤ _; omega)).mono ?_
    rintro e w3 ⟨he, v, hv, hs⟩
    obtain ⟨q1, q2, q3, q4⟩ := num_new V1.bk ga m
    refine ⟨he, _, _, ⟨?_, ?_, ?_⟩, hv, hs⟩
    · show V1.bk.length < (V1.bk ++ [(0, 0, 0)]).length
      simp
    · show (V1.bk ++ [(0, 0, 0)]).length ≤ 1000000
      simp; omega
    · exact PutR.of t hy h0 q1 q2 q3 q4 (by rw [hf0]; exact ⟨d, 0, rfl, hp⟩) (fun i => by rw [hf0]; simp) (by rw [hf0]; exact List.nodup_nil) (by simp)
  | succ n =>
    have hd0 : d 0 ∈ V1.fr := by
      rw [hf]
      exact List.mem_iff_getElem?.2 ⟨0, by simp [vals]⟩
    obtain ⟨num, t0, e0, g0, g1⟩ := (t.vm.fr (d 0)).1 hd0
    have hlen := t.vm.fr_len
    have hvl : V1.fr.length = n + 1 := by rw [hf]; simp [vals]
    refine ⟨num, fun w2 h2 hx2 => ?_⟩
    refine (takeN_free (d := d) (n := n) ⟨hx2, hf⟩ hp (by omega)).mono ?_
    rintro e w3 ⟨he, v, d', hv, hs, hh, hperm⟩
    rw [← hf, e0] at hperm
    obtain ⟨q1, q2, q3, q4, q5, q6⟩ := t.vm.num_free hperm ga m
    refine ⟨by rw [he, e0], _, _, ⟨?_, ?_, ?_⟩, hv, hs⟩
    · exact (List.getElem?_eq_some_iff.1 g0).1
    · show V1.bk.length ≤ 1000000
      omega
    · exact PutR.of t hy h0 q1 q2 q3 q4 ⟨d', n, rfl, hh⟩ q5 q6 (by rw [List.length_set]; exact Nat.le_succ _)
theorem put_ok (x : VAt w lo b h V) (hv : VM V 0 0) {q o m c : Nat} {ys : List Int} (hm : 0 < m) (hy : ys.length = m) (hsrc : ∀ j u, (rvals benc ys)[j]? = some u → w.cell? ⟨q, o + j, none⟩ = some u) (hq : ¬ own b h q) (hql : q < w.heap.size)
    (hroom : V.used + m ≤ V.room) (hk : V.bk.length ≤ 90000) (hmv : V.moved ≤ 900000000000) (hpk : V.packs ≤ 900000000000) :
    Calls Try.prog 9 #[.pointer (some ⟨b, 0, none⟩), .slice (some ⟨q, o, none⟩) m c] w (PutOk w lo b h V m ys) := by
  obtain ⟨V1, ga, t, hT⟩ := take_ok lo b h hv hm hroom hk hmv hpk
  obtain ⟨num, hN⟩ := num_ok lo b t hy (fun e => by omega) hk
  refine (put_at x hm hy hsrc hq hql hroom hv.room hT t.len (by have := t.vm.bsl; have := t.vm.room; omega) t.used hN (fun V3 hV3 => ⟨hV3.1, hV3.2.1⟩)).mono ?_
  rintro e w' ⟨he, h3, V3, hP, hx3, hs3⟩
  exact ⟨num, h3, _, he, hx3, hs3, hP.2.2⟩
end
end Go.Proofs.Ythpcjgfbngemiaa
