/-
  What chains are: lists of unlike nodes; how the links tell them. 
-/
import Derived.Test.YtmjccpgkgkindaaRing
import Derived.Test.YtmjccpgkgkindaaNew
namespace Go.Proofs.Ytmjccpgkgkindaa
set_option linter.unusedVariables false

structure Ch where
  N : Nat
  ls : List (List Nat)
def Ch.of (C : Ch) (i : Nat) : List Nat := C.ls.getD i []
def Ch.put (C : Ch) (i : Nat) (l : List Nat) : Ch := ⟨C.N, C.ls.set i l⟩
theorem Ch.of_put {C : Ch} {i : Nat} {l : List Nat} (hi : i < C.ls.length) (j : Nat) : (C.put i l).of j = if j = i then l else C.of j := by
  unfold Ch.of Ch.put
  simp only [List.getD_eq_getElem?_getD, List.getElem?_set]
  by_cases h : i = j
  · subst h; simp [hi]
  · rw [if_neg h, if_neg (fun e => h e.symm)]
theorem Ch.len_put (C : Ch) (i : Nat) (l : List Nat) : (C.put i l).ls.length = C.ls.length := by simp [Ch.put]
theorem Ch.of_out {C : Ch} {i : Nat} (h : C.ls.length ≤ i) : C.of i = [] := by unfold Ch.of; rw [List.getD_eq_getElem?_getD, List.getElem?_eq_none h]; rfl
theorem Ch.lt_of_mem {C : Ch} {i x : Nat} (h : x ∈ C.of i) : i < C.ls.length := by
  refine Nat.lt_of_not_le fun hh => ?_
  rw [Ch.of_out hh] at h; cases h

structure Ch.Ok (C : Ch) : Prop where
  lt : ∀ i x, x ∈ C.of i → x < C.N
  nd : ∀ i, (C.of i).Nodup
  dj : ∀ i j x, x ∈ C.of i → x ∈ C.of j → i = j
structure Rep (C : Ch) (lk : Nat → Lk) : Prop where
  path : ∀ i, i < C.ls.length → Path (fun u => (lk u).n) (fun u => (lk u).p) (C.N + i) (C.of i) (C.N + i)
  inl : ∀ i x, x ∈ C.of i → (lk x).s = true ∧ (lk x).l = i
  hd : ∀ i, i < C.ls.length → (lk (C.N + i)).l = i
  out : ∀ x, x < C.N → (lk x).s = true → ∃ i, x ∈ C.of i

/-! ### a node is laid in -/
theorem layLk_n {lk : Nat → Lk} {x a nx li : Nat} : (fun u => (layLk lk x a nx li u).n) = upd (upd (fun u => (lk u).n) x nx) a x := by
  funext u
  simp only [layLk, upd, put]
  by_cases h1 : u = nx <;> by_cases h2 : u = a <;> by_cases h3 : u = x <;> simp_all
theorem layLk_p {lk : Nat → Lk} {x a nx li : Nat} : (fun u => (layLk lk x a nx li u).p) = upd (upd (fun u => (lk u).p) x a) nx x := by
  funext u
  simp only [layLk, upd, put]
  by_cases h1 : u = nx <;> by_cases h2 : u = a <;> by_cases h3 : u = x <;> simp_all
theorem layLk_s {lk : Nat → Lk} {x a nx li : Nat} (u : Nat) : (layLk lk x a nx li u).s = if u = x then true else (lk u).s := by
  simp only [layLk, put]
  by_cases h1 : u = nx <;> by_cases h2 : u = a <;> by_cases h3 : u = x <;> simp_all
theorem layLk_l {lk : Nat → Lk} {x a nx li : Nat} (u : Nat) : (layLk lk x a nx li u).l = if u = x then li else (lk u).l := by
  simp only [layLk, put]
  by_cases h1 : u = nx <;> by_cases h2 : u = a <;> by_cases h3 : u = x <;> simp_all
theorem remLk_n {lk : Nat → Lk} {x pv nx : Nat} : (fun u => (remLk lk x pv nx u).n) = upd (upd (fun u => (lk u).n) pv nx) x 0 := by
  funext u
  simp only [remLk, upd, put]
  by_cases h1 : u = nx <;> by_cases h2 : u = pv <;> by_cases h3 : u = x <;> simp_all
theorem remLk_p {lk : Nat → Lk} {x pv nx : Nat} : (fun u => (remLk lk x pv nx u).p) = upd (upd (fun u => (lk u).p) nx pv) x 0 := by
  funext u
  simp only [remLk, upd, put]
  by_cases h1 : u = nx <;> by_cases h2 : u = pv <;> by_cases h3 : u = x <;> simp_all
theorem remLk_s {lk : Nat → Lk} {x pv nx : Nat} (u : Nat) : (remLk lk x pv nx u).s = if u = x then false else (lk u).s := by
  simp only [remLk, put]
  by_cases h1 : u = nx <;> by_cases h2 : u = pv <;> by_cases h3 : u = x <;> simp_all
theorem remLk_l {lk : Nat → Lk} {x pv nx : Nat} (u : Nat) (hu : u ≠ x) : (remLk lk x pv nx u).l = (lk u).l := by
  simp only [remLk, put]
  by_cases h1 : u = nx <;> by_cases h2 : u = pv <;> simp_all

/-- nowhere -/
def Ch.free (C : Ch) (x : Nat) : Prop := ∀ i, x ∉ C.of i
theorem getLastD_mem {l : List Nat} {d : Nat} : l.getLastD d = d ∨ l.getLastD d ∈ l := by
  rcases snoc_cases (l := l) with rfl | ⟨l, q, rfl⟩
  · exact .inl rfl
  · exact .inr (by rw [getLastD_snoc]; simp)
theorem headD_mem {l : List Nat} {d : Nat} : l.headD d = d ∨ l.headD d ∈ l := by
  cases l with
  | nil => exact .inl rfl
  | cons y l => exact .inr (by simp)
section
variable {C : Ch} {lk : Nat → Lk}
theorem Ok.lay (h : C.Ok) {i x : Nat} {l1 l2 : List Nat} (hi : i < C.ls.length) (hl : C.of i = l1 ++ l2) (hx : x < C.N) (hf : C.free x) : (C.put i (l1 ++ x :: l2)).Ok := by
  have hmem : ∀ j y, y ∈ (C.put i (l1 ++ x :: l2)).of j → y ∈ C.of j ∨ (y = x ∧ j = i) := by
    intro j y hy
    rw [Ch.of_put hi] at hy
    by_cases hj : j = i
    · subst hj
      rw [if_pos rfl] at hy
      rw [hl]
      simp only [List.mem_append, List.mem_cons] at hy ⊢
      rcases hy with hy | hy | hy
      · exact .inl (.inl hy)
      · exact .inr ⟨hy, trivial⟩
      · exact .inl (.inr hy)
    · rw [if_neg hj] at hy; exact .inl hy
  refine ⟨fun j y hy => ?_, fun j => ?_, fun j k y hj hk => ?_⟩
  · rcases hmem j y hy with h' | ⟨rfl, _⟩
    · exact h.lt j y h'
    · exact hx
  · rw [Ch.of_put hi]
    by_cases hj : j = i
    · rw [if_pos hj]
      have hn := h.nd i
      have hfx := hf i
      rw [hl] at hn hfx
      rw [List.nodup_append] at hn ⊢
      simp only [List.mem_append, not_or] at hfx
      refine ⟨hn.1, List.nodup_cons.2 ⟨hfx.2, hn.2.1⟩, fun u hu v hv e => ?_⟩
      subst e
      rcases List.mem_cons.1 hv with rfl | hv
      · exact hfx.1 hu
      · exact hn.2.2 u hu u hv rfl
    · rw [if_neg hj]; exact h.nd j
  · rcases hmem j y hj with h1 | ⟨rfl, rfl⟩
    · rcases hmem k y hk with h2 | ⟨rfl, rfl⟩
      · exact h.dj j k y h1 h2
      · exact absurd h1 (hf _)
    · rcases hmem k y hk with h2 | ⟨_, rfl⟩
      · exact absurd h2 (hf _)
      · rfl
theorem Rep.lay (h : Rep C lk) (ho : C.Ok) {i x a : Nat} {l1 l2 : List Nat} (hi : i < C.ls.length) (hl : C.of i = l1 ++ l2) (ha : l1.getLastD (C.N + i) = a) (hx : x < C.N) (hf : C.free x) :
    Rep (C.put i (l1 ++ x :: l2)) (layLk lk x a (lk a).n i) := by
  have hp := h.path i hi
  have hn := ho.nd i
  have hfx := hf i
  have hh : C.N + i ∉ C.of i := fun hm => by have := ho.lt _ _ hm; omega
  have hnx : (lk a).n = C.N + i ∨ (lk a).n ∈ C.of i := by
    rw [hl] at hp ⊢
    rcases snoc_cases (l := l1) with rfl | ⟨l1, q, rfl⟩
    · simp only [List.getLastD_nil] at ha
      subst ha
      rw [path_first hp]
      exact headD_mem
    · rw [getLastD_snoc] at ha
      subst ha
      rw [List.append_assoc] at hp
      have := path_first (path_append.1 hp).2
      rw [this]
      rcases headD_mem (l := l2) (d := C.N + i) with e | e
      · exact .inl e
      · exact .inr (List.mem_append.2 (.inr e))
  have haa : a = C.N + i ∨ a ∈ C.of i := by
    rw [hl, ← ha]
    rcases getLastD_mem (l := l1) (d := C.N + i) with e | e
    · exact .inl e
    · exact .inr (List.mem_append.2 (.inl e))
  have hof : ∀ j, (C.put i (l1 ++ x :: l2)).of j = if j = i then l1 ++ x :: l2 else C.of j := Ch.of_put hi
  refine ⟨fun j hj => ?_, fun j y hy => ?_, fun j hj => ?_, fun y hy hs => ?_⟩
  · rw [Ch.len_put] at hj
    rw [layLk_n, layLk_p, hof]
    show Path _ _ (C.N + j) _ (C.N + j)
    by_cases hji : j = i
    · subst hji
      rw [if_pos rfl]
      rw [hl] at hp hn hfx hh
      exact path_lay_in hp ha rfl hn hfx (by omega) hh
    · rw [if_neg hji]
      have hother : ∀ u, u = C.N + i ∨ u ∈ C.of i → u ≠ C.N + j ∧ u ∉ C.of j := by
        rintro u (rfl | hu)
        · exact ⟨by omega, fun hm => by have := ho.lt _ _ hm; omega⟩
        · exact ⟨fun e => by have := ho.lt _ _ hu; omega, fun hm => hji (ho.dj _ _ _ hm hu)⟩
      refine path_congr (fun u hu => ?_) (fun v hv => ?_) (h.path j hj)
      · rw [upd_other, upd_other]
        · rintro rfl; rcases hu with rfl | hu; omega; exact hf j hu
        · rintro rfl; have := hother _ haa; rcases hu with rfl | hu; exact this.1 rfl; exact this.2 hu
      · rw [upd_other, upd_other]
        · rintro rfl; rcases hv with hv | rfl; exact hf j hv; omega
        · rintro rfl; have := hother _ hnx; rcases hv with hv | hv; exact this.2 hv; exact this.1 hv
  · rw [hof] at hy
    rw [layLk_s, layLk_l]
    by_cases hyx : y = x
    · subst hyx
      rw [if_pos rfl, if_pos rfl]
      by_cases hji : j = i
      · exact ⟨rfl, hji.symm⟩
      · rw [if_neg hji] at hy; exact absurd hy (hf j)
    · rw [if_neg hyx, if_neg hyx]
      by_cases hji : j = i
      · subst hji
        rw [if_pos rfl] at hy
        refine h.inl j y ?_
        rw [hl]
        simp only [List.mem_append, List.mem_cons] at hy ⊢
        rcases hy with hy | hy | hy
        · exact .inl hy
        · exact absurd hy hyx
        · exact .inr hy
      · rw [if_neg hji] at hy; exact h.inl j y hy
  · rw [Ch.len_put] at hj
    show (layLk lk x a (lk a).n i (C.N + j)).l = j
    rw [layLk_l, if_neg (by omega)]
    exact h.hd j hj
  · rw [layLk_s] at hs
    by_cases hyx : y = x
    · exact ⟨i, by rw [hof, if_pos rfl, hyx]; simp⟩
    · rw [if_neg hyx] at hs
      obtain ⟨j, hj⟩ := h.out y hy hs
      refine ⟨j, ?_⟩
      rw [hof]
      by_cases hji : j = i
      · subst hji
        rw [if_pos rfl]
        rw [hl] at hj
        simp only [List.mem_append, List.mem_cons] at hj ⊢
        rcases hj with hj | hj
        · exact .inl hj
        · exact .inr (.inr hj)
      · rw [if_neg hji]; exact hj
theorem Ok.rem (h : C.Ok) {i x : Nat} {l1 l2 : List Nat} (hi : i < C.ls.length) (hl : C.of i = l1 ++ x :: l2) : (C.put i (l1 ++ l2)).Ok := by
  have hmem : ∀ j y, y ∈ (C.put i (l1 ++ l2)).of j → y ∈ C.of j := by
    intro j y hy
    rw [Ch.of_put hi] at hy
    by_cases hj : j = i
    · subst hj
      rw [if_pos rfl] at hy
      rw [hl]
      simp only [List.mem_append, List.mem_cons] at hy ⊢
      rcases hy with hy | hy
      · exact .inl hy
      · exact .inr (.inr hy)
    · rw [if_neg hj] at hy; exact hy
  refine ⟨fun j y hy => h.lt j y (hmem j y hy), fun j => ?_, fun j k y hj hk => h.dj j k y (hmem j y hj) (hmem k y hk)⟩
  rw [Ch.of_put hi]
  by_cases hj : j = i
  · rw [if_pos hj]
    have hn := h.nd i
    rw [hl, List.nodup_append] at hn
    rw [List.nodup_append]
    refine ⟨hn.1, (List.nodup_cons.1 hn.2.1).2, fun u hu v hv e => hn.2.2 u hu v (List.mem_cons_of_mem _ hv) e⟩
  · rw [if_neg hj]; exact h.nd j
theorem Rep.rem (h : Rep C lk) (ho : C.Ok) {i x : Nat} {l1 l2 : List Nat} (hi : i < C.ls.length) (hl : C.of i = l1 ++ x :: l2) :
    Rep (C.put i (l1 ++ l2)) (remLk lk x (lk x).p (lk x).n) := by
  have hp := h.path i hi
  have hn := ho.nd i
  have hxi : x ∈ C.of i := by rw [hl]; simp
  have hxN := ho.lt i x hxi
  have hh : C.N + i ∉ C.of i := fun hm => by have := ho.lt _ _ hm; omega
  rw [hl] at hp hn hh
  have hp := path_append.1 hp
  have hpv := path_last hp.1
  have hnx := path_first hp.2
  have hn' := List.nodup_append.1 hn
  have hxl : x ∉ l1 ∧ x ∉ l2 := ⟨fun hm => hn'.2.2 x hm x (by simp) rfl, (List.nodup_cons.1 hn'.2.1).1⟩
  have hof : ∀ j, (C.put i (l1 ++ l2)).of j = if j = i then l1 ++ l2 else C.of j := Ch.of_put hi
  have hpa : (lk x).p = C.N + i ∨ (lk x).p ∈ C.of i := by
    rw [hpv, hl]
    rcases getLastD_mem (l := l1) (d := C.N + i) with e | e
    · exact .inl e
    · exact .inr (List.mem_append.2 (.inl e))
  have hna : (lk x).n = C.N + i ∨ (lk x).n ∈ C.of i := by
    rw [hnx, hl]
    rcases headD_mem (l := l2) (d := C.N + i) with e | e
    · exact .inl e
    · exact .inr (List.mem_append.2 (.inr (List.mem_cons_of_mem _ e)))
  refine ⟨fun j hj => ?_, fun j y hy => ?_, fun j hj => ?_, fun y hy hs => ?_⟩
  · rw [Ch.len_put] at hj
    rw [remLk_n, remLk_p, hof]
    show Path _ _ (C.N + j) _ (C.N + j)
    by_cases hji : j = i
    · subst hji
      rw [if_pos rfl]
      have hnn : (l1 ++ l2).Nodup := by
        rw [List.nodup_append]
        exact ⟨hn'.1, (List.nodup_cons.1 hn'.2.1).2, fun u hu v hv e => hn'.2.2 u hu v (List.mem_cons_of_mem _ hv) e⟩
      have hh' : C.N + j ∉ l1 ++ l2 := fun hm => hh (by simp only [List.mem_append, List.mem_cons] at hm ⊢; rcases hm with hm | hm; exact .inl hm; exact .inr (.inr hm))
      refine path_congr (fun u hu => upd_other ?_) (fun v hv => upd_other ?_) (path_join hp.1 hp.2 hpv.symm hnx.symm hnn hh' hh')
      · rintro rfl; rcases hu with rfl | hu; omega; rcases List.mem_append.1 hu with hu | hu; exact hxl.1 hu; exact hxl.2 hu
      · rintro rfl; rcases hv with hv | rfl; rcases List.mem_append.1 hv with hv | hv; exact hxl.1 hv; exact hxl.2 hv; omega
    · rw [if_neg hji]
      have hother : ∀ u, u = C.N + i ∨ u ∈ C.of i → u ≠ C.N + j ∧ u ∉ C.of j := by
        rintro u (rfl | hu)
        · exact ⟨by omega, fun hm => by have := ho.lt _ _ hm; omega⟩
        · exact ⟨fun e => by have := ho.lt _ _ hu; omega, fun hm => hji (ho.dj _ _ _ hm hu)⟩
      have hx' := hother x (.inr hxi)
      refine path_congr (fun u hu => ?_) (fun v hv => ?_) (h.path j hj)
      · rw [upd_other, upd_other]
        · rintro rfl; have := hother _ hpa; rcases hu with hu | hu; exact this.1 hu; exact this.2 hu
        · rintro rfl; rcases hu with hu | hu; exact hx'.1 hu; exact hx'.2 hu
      · rw [upd_other, upd_other]
        · rintro rfl; have := hother _ hna; rcases hv with hv | hv; exact this.2 hv; exact this.1 hv
        · rintro rfl; rcases hv with hv | hv; exact hx'.2 hv; exact hx'.1 hv
  · rw [hof] at hy
    have hyi : y ∈ C.of j ∧ y ≠ x := by
      by_cases hji : j = i
      · subst hji
        rw [if_pos rfl] at hy
        refine ⟨?_, ?_⟩
        · rw [hl]; simp only [List.mem_append, List.mem_cons] at hy ⊢; rcases hy with hy | hy; exact .inl hy; exact .inr (.inr hy)
        · rintro rfl; rcases List.mem_append.1 hy with hy | hy; exact hxl.1 hy; exact hxl.2 hy
      · rw [if_neg hji] at hy
        exact ⟨hy, by rintro rfl; exact hji (ho.dj _ _ _ hy hxi)⟩
    rw [remLk_s, if_neg hyi.2, remLk_l y hyi.2]
    exact h.inl j y hyi.1
  · rw [Ch.len_put] at hj
    show (remLk lk x (lk x).p (lk x).n (C.N + j)).l = j
    rw [remLk_l _ (by omega)]
    exact h.hd j hj
  · rw [remLk_s] at hs
    by_cases hyx : y = x
    · rw [if_pos hyx] at hs; cases hs
    · rw [if_neg hyx] at hs
      obtain ⟨j, hj⟩ := h.out y hy hs
      refine ⟨j, ?_⟩
      rw [hof]
      by_cases hji : j = i
      · subst hji
        rw [if_pos rfl]
        rw [hl] at hj
        simp only [List.mem_append, List.mem_cons] at hj ⊢
        rcases hj with hj | hj | hj
        · exact .inl hj
        · exact absurd hj hyx
        · exact .inr hj
      · rw [if_neg hji]; exact hj
end
end Go.Proofs.Ytmjccpgkgkindaa
