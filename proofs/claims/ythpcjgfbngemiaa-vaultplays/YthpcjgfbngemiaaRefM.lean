/-
  The document's vault and the program's: the mathematics. No walk.
-/
import Derived.Test.YthpcjgfbngemiaaRefG
import Derived.Test.YthpcjgfbngemiaaActs
import Derived.Laws.BytesArg
namespace Go.Proofs.Ythpcjgfbngemiaa
open Go.RowKit
set_option linter.unusedVariables false
/-- the document's vault -/
structure Rf where
  room : Nat
  packs : Nat
  moved : Nat
  L : List RB
def str (V : Vl) (a m : Nat) : ByteArray := strOfNums (val V a m)
/-- a block, as the document has it -/
def rb (V : Vl) (p : Int × Int × Int) : RB := (p.1, p.2.1, str V p.2.1.toNat p.2.2.toNat)
theorem rb_blk (V : Vl) (k a m : Nat) : rb V ((k : Int), (a : Int), (m : Int)) = ((k : Int), (a : Int), str V a m) := rfl
structure RV (V : Vl) (r : Rf) : Prop where
  room : r.room = V.room
  packs : r.packs = V.packs
  moved : r.moved = V.moved
  perm : r.L.Perm ((alive V.bk).map (rb V))
  srt : r.L.Pairwise fun a b => rA a b = true
  byt : ∀ k a m, Blk V k a m → ∀ y ∈ val V a m, 0 ≤ y ∧ y < 256
theorem rA_iff {a b : RB} : rA a b = true ↔ a.2.1 < b.2.1 ∨ (a.2.1 = b.2.1 ∧ a.1 < b.1) := by unfold rA; simp
theorem alive_blk {V : Vl} (h : VM V 0 0) {p : Int × Int × Int} : p ∈ alive V.bk ↔ ∃ k a m : Nat, p = ((k : Int), (a : Int), (m : Int)) ∧ Blk V k a m := by
  rw [alive_mem]
  constructor
  · rintro ⟨h1, h2⟩
    obtain ⟨k, hk⟩ := List.mem_iff_getElem?.1 h1
    rcases h.kin k p hk with h3 | ⟨a, m, rfl, h3, h4⟩
    · exact absurd h3 h2
    · exact ⟨k, a, m, rfl, hk⟩
  · rintro ⟨k, a, m, rfl, hb⟩
    exact ⟨List.mem_of_getElem? hb, by show (k : Int) ≠ -1; omega⟩
theorem alive_num {V : Vl} (h : VM V 0 0) : (alive V.bk).Pairwise fun p q => p.1 ≠ q.1 := by
  unfold alive
  rw [List.pairwise_filter, List.pairwise_iff_getElem]
  intro i j hi hj hij h1 h2 hc
  simp only [Bool.not_eq_true', beq_eq_false_iff_ne, ne_eq] at h1 h2
  rcases h.kin i _ (List.getElem?_eq_getElem hi) with h3 | ⟨a, m, h3, _⟩
  · exact h1 h3
  · rcases h.kin j _ (List.getElem?_eq_getElem hj) with h4 | ⟨a', m', h4, _⟩
    · exact h2 h4
    · rw [h3, h4] at hc
      dsimp only at hc
      omega
section
variable {V : Vl} {r : Rf}
theorem RV.mem (x : RV V r) (h : VM V 0 0) {y : RB} : y ∈ r.L ↔ ∃ k a m : Nat, Blk V k a m ∧ y = ((k : Int), (a : Int), str V a m) := by
  rw [x.perm.mem_iff, List.mem_map]
  constructor
  · rintro ⟨p, hp, rfl⟩
    obtain ⟨k, a, m, rfl, hb⟩ := (alive_blk h).1 hp
    exact ⟨k, a, m, hb, rfl⟩
  · rintro ⟨k, a, m, hb, rfl⟩
    exact ⟨_, (alive_blk h).2 ⟨k, a, m, rfl, hb⟩, rfl⟩
theorem str_size (h : VM V 0 0) {k a m : Nat} (hb : Blk V k a m) : (str V a m).size = m := by
  unfold str val
  rw [strOfNums_size, List.length_take, List.length_drop]
  have := h.blk_len hb
  omega
theorem RV.num (x : RV V r) (h : VM V 0 0) : r.L.Pairwise fun a b => a.1 ≠ b.1 := by
  refine (x.perm.pairwise_iff (fun {a b} hab => Ne.symm hab)).2 ?_
  rw [List.pairwise_map]
  exact (alive_num h).imp fun {a b} hab => hab
theorem RV.used (x : RV V r) (h : VM V 0 0) : rU r.L = V.used := by
  unfold rU
  rw [(x.perm.map _).sum_nat, List.map_map, h.used, ← lens_alive]
  unfold lens
  congr 1
  apply List.map_congr_left
  intro p hp
  obtain ⟨k, a, m, rfl, hb⟩ := (alive_blk h).1 hp
  show (str V a m).size = (m : Int).toNat
  rw [str_size h hb]; simp
theorem RV.small (x : RV V r) (h : VM V 0 0) : RSm r.L := fun y hy => by
  obtain ⟨k, a, m, hb, rfl⟩ := (x.mem h).1 hy
  have h1 := h.blk_len hb
  have h2 := h.bsl
  have h3 := h.room
  dsimp only
  rw [str_size h hb]
  omega
theorem RV.len (x : RV V r) : r.L.length ≤ V.bk.length := by
  rw [x.perm.length_eq, List.length_map]
  exact List.length_filter_le _ _
/-- bytes that fit -/
theorem RV.fit (x : RV V r) (h : VM V 0 0) {e m : Nat} (hm : 0 < m) : rFit (V.room : Int) r.L (e : Int) (m : Int) = true ↔ e + m ≤ V.room ∧ ∀ y : Nat, e ≤ y → y < e + m → inG V.gp (y : Int) := by
  unfold rFit
  rw [Bool.and_eq_true, decide_eq_true_eq, List.all_eq_true]
  constructor
  · rintro ⟨h1, h2⟩
    refine ⟨by omega, fun y h3 h4 => ?_⟩
    rcases h.all y (by omega) with h5 | ⟨k, a, n, h5, h6⟩ | h5
    · exact h5
    · have h7 := h2 _ ((x.mem h).2 ⟨k, a, n, h5, rfl⟩)
      simp only [Bool.not_eq_true', decide_eq_false_iff_not] at h7
      refine absurd ⟨?_, ?_, ?_⟩ h7
      · dsimp only; rw [str_size h h5]; omega
      · dsimp only; omega
      · dsimp only; rw [str_size h h5]; omega
    · omega
  · rintro ⟨h1, h2⟩
    refine ⟨by omega, fun y hy => ?_⟩
    obtain ⟨k, a, n, hb, rfl⟩ := (x.mem h).1 hy
    simp only [Bool.not_eq_true', decide_eq_false_iff_not]
    rintro ⟨h3, h4, h5⟩
    dsimp only at h3 h4 h5
    rw [str_size h hb] at h3 h5
    have h6 := h2 (max a e) (by omega) (by omega)
    exact h.gb _ h6 k a n hb ⟨by omega, by omega⟩
/-- what fits fits in one gap -/
theorem gap_one {l : List (Int × Int)} (h : GOk l) : ∀ (m : Nat) {e : Int}, 0 < m → (∀ y : Int, e ≤ y → y < e + (m : Int) → inG l y) → ∃ p ∈ l, p.1 ≤ e ∧ e + (m : Int) ≤ p.1 + p.2
  | 0, e, hm, _ => absurd hm (by omega)
  | 1, e, _, hy => by
    obtain ⟨p, hp, h1, h2⟩ := hy e (Int.le_refl _) (by omega)
    exact ⟨p, hp, h1, by omega⟩
  | m + 2, e, _, hy => by
    obtain ⟨p, hp, h1, h2⟩ := gap_one h (m + 1) (e := e) (by omega) (fun y h1 h2 => hy y h1 (by omega))
    obtain ⟨q, hq, h3, h4⟩ := hy (e + ((m : Int) + 1)) (by omega) (by omega)
    refine ⟨p, hp, h1, ?_⟩
    by_cases hpq : e + ((m : Int) + 1) < p.1 + p.2
    · omega
    · exfalso
      obtain ⟨i, hi⟩ := List.mem_iff_getElem?.1 hp
      obtain ⟨j, hj⟩ := List.mem_iff_getElem?.1 hq
      have hap := List.pairwise_iff_getElem.1 h.apart
      obtain ⟨hil, hie⟩ := List.getElem?_eq_some_iff.1 hi
      obtain ⟨hjl, hje⟩ := List.getElem?_eq_some_iff.1 hj
      have hpp := h.pos p hp
      have hqq := h.pos q hq
      rcases Nat.lt_trichotomy i j with hij | hij | hij
      · have := hap i j hil hjl hij
        rw [hie, hje] at this
        omega
      · subst hij
        rw [hie] at hje
        subst hje
        omega
      · have := hap j i hjl hil hij
        rw [hie, hje] at this
        omega
end
/-! ### the least place -/
theorem rBest_none {room : Int} {l : List RB} {m : Int} : ∀ (es : List Int) (b : Int), (∀ e ∈ es, rFit room l e m = false) → es.foldl (rStep room l m) b = b
  | [], b, _ => rfl
  | e :: t, b, h => by
    rw [List.foldl_cons]
    have : rStep room l m b e = b := by unfold rStep; rw [h e (by simp)]; simp
    rw [this]
    exact rBest_none t b fun e he => h e (by simp [he])
theorem rBest_keep {room : Int} {l : List RB} {m g : Int} (hg : 0 ≤ g) : ∀ (es : List Int), (∀ e ∈ es, rFit room l e m = true → g ≤ e) → es.foldl (rStep room l m) g = g
  | [], _ => rfl
  | e :: t, h => by
    rw [List.foldl_cons]
    have : rStep room l m g e = g := by
      unfold rStep
      rw [if_neg]
      rintro ⟨h1, h2⟩
      have := h e (by simp) h1
      omega
    rw [this]
    exact rBest_keep hg t fun e he => h e (by simp [he])
theorem rBest_some {room : Int} {l : List RB} {m g : Int} (hg : 0 ≤ g) (hf : rFit room l g m = true) : ∀ (es : List Int) (b : Int), (∀ e ∈ es, rFit room l e m = true → g ≤ e) → g ∈ es → (b < 0 ∨ g ≤ b) → es.foldl (rStep room l m) b = g
  | [], b, _, h, _ => by simp at h
  | e :: t, b, h1, h2, h3 => by
    rw [List.foldl_cons]
    by_cases he : e = g
    · subst he
      have h4 : rStep room l m b e = e := by
        unfold rStep
        by_cases hc : b < 0 ∨ e < b
        · rw [if_pos ⟨hf, hc⟩]
        · rw [if_neg (fun hh => hc hh.2)]; omega
      rw [h4]
      exact rBest_keep hg t fun e' he' => h1 e' (by simp [he'])
    · have h5 : g ∈ t := (List.mem_cons.1 h2).resolve_left (fun e' => he e'.symm)
      refine rBest_some hg hf t _ (fun e' he' => h1 e' (by simp [he'])) h5 ?_
      unfold rStep
      split
      · rename_i hc
        right; exact h1 e (by simp) hc.1
      · exact h3
section
variable {V : Vl} {r : Rf}
theorem rE_mem {l : List RB} {e : Int} : e ∈ rE l ↔ e = 0 ∨ ∃ y ∈ l, y.2.1 + (y.2.2.size : Int) = e := by
  unfold rE
  rw [List.mem_cons, List.mem_map]
theorem RV.cand (x : RV V r) (h : VM V 0 0) {e : Int} (he : e ∈ rE r.L) : ∃ n : Nat, e = (n : Int) := by
  have := rE_sm (x.small h) e he
  exact ⟨e.toNat, by omega⟩
/-- the first gap that is wide enough -/
theorem RV.first (x : RV V r) (h : VM V 0 0) {m i ga gm : Nat} (hm : 0 < m) (hi : V.gp[i]? = some ((ga : Int), (gm : Int))) (hle : m ≤ gm) (hmin : ∀ j, j < i → ∀ q, V.gp[j]? = some q → ¬ (m : Int) ≤ q.2) :
    rBest (V.room : Int) r.L (m : Int) (rE r.L) = (ga : Int) := by
  have hme := List.mem_of_getElem? hi
  have hend := h.gend _ hme
  dsimp only at hend
  have hfit : rFit (V.room : Int) r.L (ga : Int) (m : Int) = true := (x.fit h hm).2 ⟨by omega, fun y h1 h2 => ⟨_, hme, by dsimp only; omega, by dsimp only; omega⟩⟩
  refine rBest_some (by omega) hfit _ _ (fun e he hf => ?_) ?_ (.inl (by decide))
  · obtain ⟨n, rfl⟩ := x.cand h he
    obtain ⟨h1, h2⟩ := (x.fit h hm).1 hf
    obtain ⟨p, hp, h3, h4⟩ := gap_one h.g m (e := (n : Int)) hm (fun y h5 h6 => by
      obtain ⟨z, rfl⟩ : ∃ z : Nat, y = (z : Int) := ⟨y.toNat, by omega⟩
      exact h2 z (by omega) (by omega))
    obtain ⟨j, hj⟩ := List.mem_iff_getElem?.1 hp
    have hji : ¬ j < i := fun hc => hmin j hc p hj (by omega)
    by_cases hij : i = j
    · subst hij
      rw [hi] at hj
      injection hj with hj
      subst hj
      exact h3
    · have hap := List.pairwise_iff_getElem.1 h.g.rises
      obtain ⟨hil, hie⟩ := List.getElem?_eq_some_iff.1 hi
      obtain ⟨hjl, hje⟩ := List.getElem?_eq_some_iff.1 hj
      have := hap i j hil hjl (by omega)
      rw [hie, hje] at this
      dsimp only at this
      omega
  · rw [rE_mem]
    by_cases h0 : ga = 0
    · exact .inl (by omega)
    · right
      have hno : ¬ inG V.gp ((ga - 1 : Nat) : Int) := by
        rintro ⟨q, hq, h1, h2⟩
        obtain ⟨j, hj⟩ := List.mem_iff_getElem?.1 hq
        have hap := List.pairwise_iff_getElem.1 h.g.apart
        obtain ⟨hil, hie⟩ := List.getElem?_eq_some_iff.1 hi
        obtain ⟨hjl, hje⟩ := List.getElem?_eq_some_iff.1 hj
        have hqq := h.g.pos q hq
        rcases Nat.lt_trichotomy i j with hij | hij | hij
        · have := hap i j hil hjl hij
          rw [hie, hje] at this
          dsimp only at this
          omega
        · subst hij
          rw [hie] at hje
          subst hje
          dsimp only at h1
          omega
        · have := hap j i hjl hil hij
          rw [hie, hje] at this
          dsimp only at this
          omega
      rcases h.all (ga - 1) (by omega) with h1 | ⟨k, a, n, hb, h1, h2⟩ | h1
      · exact absurd h1 hno
      · refine ⟨_, (x.mem h).2 ⟨k, a, n, hb, rfl⟩, ?_⟩
        dsimp only
        rw [str_size h hb]
        have h3 : ¬ (a ≤ ga ∧ ga < a + n) := h.gb ga ⟨_, hme, by dsimp only; omega, by dsimp only; omega⟩ k a n hb
        omega
      · omega
theorem RV.first_none (x : RV V r) (h : VM V 0 0) {m : Nat} (hm : 0 < m) (hno : ∀ p ∈ V.gp, ¬ (m : Int) ≤ p.2) : rBest (V.room : Int) r.L (m : Int) (rE r.L) = -1 := by
  refine rBest_none _ _ fun e he => ?_
  obtain ⟨n, rfl⟩ := x.cand h he
  cases hf : rFit (V.room : Int) r.L (n : Int) (m : Int) with
  | false => rfl
  | true =>
    obtain ⟨h1, h2⟩ := (x.fit h hm).1 hf
    obtain ⟨p, hp, h3, h4⟩ := gap_one h.g m (e := (n : Int)) hm (fun y h5 h6 => by
      obtain ⟨z, rfl⟩ : ∃ z : Nat, y = (z : Int) := ⟨y.toNat, by omega⟩
      exact h2 z (by omega) (by omega))
    exact absurd (show (m : Int) ≤ p.2 by omega) (hno p hp)
end
/-! ### one more, in its place -/
theorem rW_perm (l : List RB) (x : RB) : (rW l x).Perm (x :: l) := by
  unfold rW
  conv => rhs; rw [← List.takeWhile_append_dropWhile (p := fun y => rA y x) (l := l)]
  exact List.perm_middle
theorem rA_trans {a b c : RB} (h1 : rA a b = true) (h2 : rA b c = true) : rA a c = true := by
  rw [rA_iff] at *; omega
theorem rA_total {a b : RB} (h : a.1 ≠ b.1) (hn : rA a b = false) : rA b a = true := by
  have : ¬ rA a b = true := by rw [hn]; decide
  rw [rA_iff] at *; omega
theorem rW_srt {x : RB} : ∀ {l : List RB}, l.Pairwise (fun a b => rA a b = true) → (∀ y ∈ l, y.1 ≠ x.1) → (rW l x).Pairwise fun a b => rA a b = true
  | [], _, _ => by unfold rW; simp
  | a :: t, h, hn => by
    rw [List.pairwise_cons] at h
    have hax := hn a (by simp)
    cases hc : rA a x with
    | true =>
      have e : rW (a :: t) x = a :: rW t x := by unfold rW; simp [hc]
      rw [e, List.pairwise_cons]
      refine ⟨fun y hy => ?_, rW_srt h.2 fun y hy => hn y (by simp [hy])⟩
      rcases List.mem_cons.1 ((rW_perm t x).mem_iff.1 hy) with rfl | hy
      · exact hc
      · exact h.1 y hy
    | false =>
      have e : rW (a :: t) x = x :: a :: t := by unfold rW; simp [hc]
      have hxa := rA_total hax hc
      rw [e, List.pairwise_cons, List.pairwise_cons]
      refine ⟨fun y hy => ?_, h⟩
      rcases List.mem_cons.1 hy with rfl | hy
      · exact hxa
      · exact rA_trans hxa (h.1 y hy)
/-- two such lists are one -/
theorem srt_one {l t : List RB} (hl : l.Pairwise fun a b => rA a b = true) (ht : t.Pairwise fun a b => rA a b = true) (hp : l.Perm t) : l = t := by
  refine List.Perm.eq_of_pairwise (le := fun a b => rA a b = true) (fun a b _ _ h1 h2 => ?_) hl ht hp
  rw [rA_iff] at h1 h2
  omega
theorem ltB_rA {p q : Int × Int × Int} (V : Vl) (hn : p.1 ≠ q.1) (h : ¬ ltB q p) : rA (rb V p) (rb V q) = true := by
  rw [rA_iff]
  unfold ltB at h
  unfold rb
  dsimp only
  omega
/-- what Blocks tells is the document's list -/
theorem RV.told {V : Vl} {r : Rf} (x : RV V r) (h : VM V 0 0) {l : List (Int × Int × Int)} (hl : l.Perm (alive V.bk)) (hs : l.Pairwise fun a b => ¬ ltB b a) : r.L = l.map (rb V) := by
  refine srt_one x.srt ?_ (x.perm.trans (hl.map _).symm)
  rw [List.pairwise_map]
  have hn : l.Pairwise fun p q => p.1 ≠ q.1 := (hl.pairwise_iff (fun {a b} hab => Ne.symm hab)).2 (alive_num h)
  exact (hn.and hs).imp fun {a b} hab => ltB_rA V hab.1 hab.2
end Go.Proofs.Ythpcjgfbngemiaa
