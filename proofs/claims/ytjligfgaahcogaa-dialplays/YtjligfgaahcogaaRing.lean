/-
  Rings of links: paths from node to node, by next and back by prev. No program is named here.
-/
namespace Go.Proofs.Ytjligfgaahcogaa
set_option linter.unusedVariables false

/-- one leads from a over l to b, by f forth and by g back -/
def Path (f g : Nat → Nat) : Nat → List Nat → Nat → Prop
  | a, [], b => f a = b ∧ g b = a
  | a, x :: l, b => (f a = x ∧ g x = a) ∧ Path f g x l b
def upd (f : Nat → Nat) (a v : Nat) : Nat → Nat := fun j => if j = a then v else f j
theorem upd_same (f : Nat → Nat) (a v : Nat) : upd f a v a = v := by simp [upd]
theorem upd_other {f : Nat → Nat} {a v j : Nat} (h : j ≠ a) : upd f a v j = f j := by simp [upd, h]

theorem path_append {f g : Nat → Nat} : ∀ {l1 : List Nat} {a x : Nat} {l2 : List Nat} {b : Nat}, Path f g a (l1 ++ x :: l2) b ↔ Path f g a l1 x ∧ Path f g x l2 b
  | [], a, x, l2, b => by simp [Path]
  | y :: l1, a, x, l2, b => by simp only [List.cons_append, Path, path_append (l1 := l1), and_assoc]
theorem path_congr {f g f' g' : Nat → Nat} : ∀ {l : List Nat} {a b : Nat}, (∀ u, u = a ∨ u ∈ l → f' u = f u) → (∀ v, v ∈ l ∨ v = b → g' v = g v) → Path f g a l b → Path f' g' a l b
  | [], a, b, hf, hg, h => ⟨(hf a (.inl rfl)).trans h.1, (hg b (.inr rfl)).trans h.2⟩
  | x :: l, a, b, hf, hg, h =>
    ⟨⟨(hf a (.inl rfl)).trans h.1.1, (hg x (.inl (List.mem_cons_self ..))).trans h.1.2⟩,
      path_congr (fun u hu => hf u (.inr (by rcases hu with rfl | hu; exact List.mem_cons_self ..; exact List.mem_cons_of_mem _ hu)))
        (fun v hv => hg v (by rcases hv with hv | hv; exact .inl (List.mem_cons_of_mem _ hv); exact .inr hv)) h.2⟩
theorem path_first {f g : Nat → Nat} {a b : Nat} {l : List Nat} (h : Path f g a l b) : f a = l.headD b := by
  cases l with
  | nil => exact h.1
  | cons x l => exact h.1.1
theorem path_last {f g : Nat → Nat} : ∀ {l : List Nat} {a b : Nat}, Path f g a l b → g b = l.getLastD a
  | [], a, b, h => h.2
  | x :: l, a, b, h => by rw [path_last h.2]; cases l <;> rfl
theorem path_next {f g : Nat → Nat} : ∀ {l : List Nat} {a b : Nat}, Path f g a l b → ∀ {k u : Nat}, l[k]? = some u → f u = (l[k + 1]?).getD b
  | [], a, b, h, k, u, hk => by simp at hk
  | x :: l, a, b, h, 0, u, hk => by
    simp at hk; subst hk
    rw [path_first h.2]
    cases l <;> rfl
  | x :: l, a, b, h, k + 1, u, hk => by
    simp only [List.getElem?_cons_succ] at hk ⊢
    exact path_next h.2 hk
theorem path_prev {f g : Nat → Nat} : ∀ {l : List Nat} {a b : Nat}, Path f g a l b → ∀ {k u : Nat}, l[k]? = some u → g u = if k = 0 then a else (l[k - 1]?).getD a
  | [], a, b, h, k, u, hk => by simp at hk
  | x :: l, a, b, h, 0, u, hk => by simp at hk; subst hk; simp [h.1.2]
  | x :: l, a, b, h, k + 1, u, hk => by
    simp only [List.getElem?_cons_succ] at hk
    have := path_prev h.2 hk
    rw [this]
    cases k with
    | zero => simp
    | succ k =>
      have hl : k < l.length := by have := (List.getElem?_eq_some_iff.1 hk).1; omega
      simp [List.getElem?_eq_getElem hl]

/-- a node x is laid in right behind a -/
theorem path_lay {f g : Nat → Nat} {a e x : Nat} {l : List Nat} (h : Path f g a l e) (hn : l.Nodup) (hx : x ∉ l) (hxa : x ≠ a) (hxe : x ≠ e) (hal : a ∉ l) (hel : e ∉ l) :
    Path (upd (upd f x (f a)) a x) (upd (upd g x a) (f a) x) a (x :: l) e := by
  have h1 := path_first h
  cases l with
  | nil =>
    simp only [List.headD_nil] at h1
    refine ⟨⟨upd_same _ _ _, ?_⟩, ?_, ?_⟩
    · rw [upd_other (by rw [h1]; exact hxe), upd_same]
    · rw [upd_other hxa, upd_same, h1]
    · rw [h1, upd_same]
  | cons y l =>
    simp only [List.headD_cons] at h1
    simp only [List.mem_cons, not_or] at hx hal hel
    have hn := List.nodup_cons.1 hn
    refine ⟨⟨upd_same _ _ _, ?_⟩, ⟨?_, ?_⟩, ?_⟩
    · rw [upd_other (by rw [h1]; exact hx.1), upd_same]
    · rw [upd_other hxa, upd_same, h1]
    · rw [h1, upd_same]
    · refine path_congr (fun u hu => ?_) (fun v hv => ?_) h.2
      · have e1 : u ≠ a := by rintro rfl; rcases hu with rfl | hu; exact hal.1 rfl; exact hal.2 hu
        have e2 : u ≠ x := by rintro rfl; rcases hu with rfl | hu; exact hx.1 rfl; exact hx.2 hu
        rw [upd_other e1, upd_other e2]
      · have e1 : v ≠ f a := by rw [h1]; rintro rfl; rcases hv with hv | rfl; exact hn.1 hv; exact hel.1 rfl
        have e2 : v ≠ x := by rintro rfl; rcases hv with hv | rfl; exact hx.2 hv; exact hxe rfl
        rw [upd_other e1, upd_other e2]
/-- what lies elsewhere stays -/
theorem path_else {f g : Nat → Nat} {a b u v u' v' x y : Nat} {l : List Nat} (h : Path f g a l b) (hu : u ≠ a ∧ u ∉ l) (hu' : u' ≠ a ∧ u' ∉ l) (hv : v ≠ b ∧ v ∉ l) (hv' : v' ≠ b ∧ v' ∉ l) :
    Path (upd (upd f u x) u' y) (upd (upd g v x) v' y) a l b := by
  refine path_congr (fun k hk => ?_) (fun k hk => ?_) h
  · rw [upd_other (by rintro rfl; rcases hk with rfl | hk; exact hu'.1 rfl; exact hu'.2 hk), upd_other (by rintro rfl; rcases hk with rfl | hk; exact hu.1 rfl; exact hu.2 hk)]
  · rw [upd_other (by rintro rfl; rcases hk with hk | rfl; exact hv'.2 hk; exact hv'.1 rfl), upd_other (by rintro rfl; rcases hk with hk | rfl; exact hv.2 hk; exact hv.1 rfl)]

theorem snoc_cases {l : List Nat} : l = [] ∨ ∃ l' q, l = l' ++ [q] := by
  rcases List.eq_nil_or_concat l with h | ⟨l', q, h⟩
  · exact .inl h
  · exact .inr ⟨l', q, by rw [h, List.concat_eq_append]⟩
theorem getLastD_snoc (l : List Nat) (q d : Nat) : (l ++ [q]).getLastD d = q := by simp [List.getLastD_eq_getLast?]
/-- two paths are joined where a node is taken out -/
theorem path_join {f g : Nat → Nat} {a x e pv nx : Nat} {l1 l2 : List Nat} (h1 : Path f g a l1 x) (h2 : Path f g x l2 e) (hpv : l1.getLastD a = pv) (hnx : l2.headD e = nx)
    (hn : (l1 ++ l2).Nodup) (ha : a ∉ l1 ++ l2) (he : e ∉ l1 ++ l2) : Path (upd f pv nx) (upd g nx pv) a (l1 ++ l2) e := by
  rcases snoc_cases (l := l1) with rfl | ⟨l1, q, rfl⟩
  · simp only [List.getLastD_nil] at hpv
    subst hpv
    cases l2 with
    | nil =>
      simp only [List.headD_nil] at hnx
      subst hnx
      exact ⟨upd_same _ _ _, upd_same _ _ _⟩
    | cons y l2 =>
      simp only [List.headD_cons] at hnx
      subst hnx
      simp only [List.nil_append, List.mem_cons, not_or] at ha he
      have hn := List.nodup_cons.1 hn
      refine ⟨⟨upd_same _ _ _, upd_same _ _ _⟩, path_congr (fun u hu => upd_other ?_) (fun v hv => upd_other ?_) h2.2⟩
      · rintro rfl; rcases hu with rfl | hu; exact ha.1 rfl; exact ha.2 hu
      · rintro rfl; rcases hv with hv | rfl; exact hn.1 hv; exact he.1 rfl
  · rw [getLastD_snoc] at hpv
    subst hpv
    have h1 := path_append.1 h1
    have hq : q ∉ l1 ∧ q ∉ l2 ∧ ∀ z, z ∈ l2 → z ∉ l1 := by
      rw [List.nodup_append] at hn
      obtain ⟨n1, n2, n3⟩ := hn
      rw [List.nodup_append] at n1
      refine ⟨fun h => n1.2.2 q h q (by simp) rfl, fun h => n3 q (by simp) q h rfl, fun z hz h => n3 z (by simp [h]) z hz rfl⟩
    simp only [List.mem_append, List.mem_cons, List.not_mem_nil, or_false, not_or] at ha he
    cases l2 with
    | nil =>
      simp only [List.headD_nil] at hnx
      subst hnx
      rw [List.append_nil]
      refine path_append.2 ⟨path_congr (fun u hu => upd_other ?_) (fun v hv => upd_other ?_) h1.1, upd_same _ _ _, upd_same _ _ _⟩
      · rintro rfl; rcases hu with rfl | hu; exact ha.1.2 rfl; exact hq.1 hu
      · rintro rfl; rcases hv with hv | rfl; exact he.1.1 hv; exact he.1.2 rfl
    | cons y l2 =>
      simp only [List.headD_cons] at hnx
      subst hnx
      simp only [List.mem_cons, not_or] at ha he hq
      have hn2 := List.nodup_cons.1 (List.nodup_append.1 hn).2.1
      rw [List.append_assoc]
      refine path_append.2 ⟨path_congr (fun u hu => upd_other ?_) (fun v hv => upd_other ?_) h1.1, ⟨upd_same _ _ _, upd_same _ _ _⟩, path_congr (fun u hu => upd_other ?_) (fun v hv => upd_other ?_) h2.2⟩
      · rintro rfl; rcases hu with rfl | hu; exact ha.1.2 rfl; exact hq.1 hu
      · rintro rfl; rcases hv with hv | rfl; exact hq.2.2 v (.inl rfl) hv; exact hq.2.1.1 rfl
      · rintro rfl; rcases hu with rfl | hu; exact hq.2.1.1 rfl; exact hq.2.1.2 hu
      · rintro rfl; rcases hv with hv | rfl; exact hn2.1 hv; exact he.2.1 rfl
/-- a node x is laid in behind the last of l1 -/
theorem path_lay_in {f g : Nat → Nat} {h a x nx : Nat} {l1 l2 : List Nat} (hp : Path f g h (l1 ++ l2) h) (ha : l1.getLastD h = a) (hnx : f a = nx) (hn : (l1 ++ l2).Nodup) (hx : x ∉ l1 ++ l2) (hxh : x ≠ h) (hh : h ∉ l1 ++ l2) :
    Path (upd (upd f x nx) a x) (upd (upd g x a) nx x) h (l1 ++ x :: l2) h := by
  subst hnx
  rcases snoc_cases (l := l1) with rfl | ⟨l1, q, rfl⟩
  · simp only [List.getLastD_nil] at ha
    subst ha
    exact path_lay hp hn hx hxh hxh hh hh
  · rw [getLastD_snoc] at ha
    subst ha
    rw [List.append_assoc] at hp ⊢
    have hp := path_append.1 hp
    have hq : q ∉ l1 ∧ q ∉ l2 ∧ ∀ z, z ∈ l2 → z ∉ l1 := by
      rw [List.nodup_append] at hn
      obtain ⟨n1, n2, n3⟩ := hn
      rw [List.nodup_append] at n1
      refine ⟨fun h => n1.2.2 q h q (by simp) rfl, fun h => n3 q (by simp) q h rfl, fun z hz h => n3 z (by simp [h]) z hz rfl⟩
    have hn2 := (List.nodup_append.1 hn).2.1
    simp only [List.mem_append, List.mem_cons, List.not_mem_nil, or_false, not_or] at hx hh
    have hfq : f q = h ∨ f q ∈ l2 := by
      have := path_first hp.2
      rw [this]
      cases l2 with
      | nil => exact .inl rfl
      | cons y l2 => exact .inr (by simp)
    refine path_append.2 ⟨path_congr (fun u hu => ?_) (fun v hv => ?_) hp.1, path_lay hp.2 hn2 hx.2 hx.1.2 hxh hq.2.1 hh.2⟩
    · rw [upd_other (by rintro rfl; rcases hu with rfl | hu; exact hh.1.2 rfl; exact hq.1 hu), upd_other (by rintro rfl; rcases hu with rfl | hu; exact hxh rfl; exact hx.1.1 hu)]
    · rw [upd_other, upd_other (by rintro rfl; rcases hv with hv | rfl; exact hx.1.1 hv; exact hx.1.2 rfl)]
      rintro rfl
      rcases hfq with h' | h'
      · rcases hv with hv | hv
        · rw [h'] at hv; exact hh.1.1 hv
        · rw [h'] at hv; exact hh.1.2 hv
      · rcases hv with hv | hv
        · exact hq.2.2 _ h' hv
        · rw [hv] at h'; exact hq.2.1 h'
end Go.Proofs.Ytjligfgaahcogaa
