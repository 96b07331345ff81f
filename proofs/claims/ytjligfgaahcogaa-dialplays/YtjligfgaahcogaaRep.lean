/-
  What a dial is: a ring of unlike nodes and the places of its hands; how links and hands tell it.
-/
import Derived.Test.YtjligfgaahcogaaRing
import Derived.Test.YtjligfgaahcogaaRem
namespace Go.Proofs.Ytjligfgaahcogaa
set_option linter.unusedVariables false

/-- l is a ring -/
def RingP (f g : Nat → Nat) : List Nat → Prop
  | [] => True
  | a :: t => Path f g a t a
theorem ring_rot {f g : Nat → Nat} {l1 l2 : List Nat} (h : RingP f g (l1 ++ l2)) : RingP f g (l2 ++ l1) := by
  cases l1 with
  | nil => simpa using h
  | cons a t1 =>
    cases l2 with
    | nil => simpa using h
    | cons b t2 =>
      have h' : Path f g a (t1 ++ b :: t2) a := h
      have h2 := path_append.1 h'
      exact path_append.2 ⟨h2.2, h2.1⟩
theorem ring_next {f g : Nat → Nat} {l : List Nat} (h : RingP f g l) {k x : Nat} (hk : l[k]? = some x) : f x = (l[k + 1]?).getD (l.headD 0) := by
  cases l with
  | nil => simp at hk
  | cons a t =>
    have h : Path f g a t a := h
    cases k with
    | zero =>
      simp at hk
      subst hk
      rw [path_first h]
      cases t <;> simp
    | succ k =>
      simp only [List.getElem?_cons_succ] at hk
      rw [path_next h hk]; simp
theorem ring_last {f g : Nat → Nat} {a : Nat} {t : List Nat} (h : RingP f g (a :: t)) : g a = t.getLastD a := path_last h
theorem ring_lay {f g : Nat → Nat} {a x pv : Nat} {t : List Nat} (h : RingP f g (a :: t)) (hn : (a :: t).Nodup) (hx : x ∉ a :: t) (hpv : t.getLastD a = pv) :
    RingP (upd (upd f x a) pv x) (upd (upd g x pv) a x) (a :: t ++ [x]) := by
  have h : Path f g a t a := h
  have hn' := List.nodup_cons.1 hn
  have hx' : x ≠ a ∧ x ∉ t := by simpa using hx
  have hf : f pv = a := by
    subst hpv
    rcases snoc_cases (l := t) with rfl | ⟨t', q, rfl⟩
    · have := path_first h; simpa using this
    · rw [getLastD_snoc]
      have := path_next h (k := t'.length) (u := q) (by simp)
      rw [this, List.getElem?_eq_none (by simp)]; rfl
  exact path_lay_in (l1 := t) (l2 := []) (by rw [List.append_nil]; exact h) hpv hf (by rw [List.append_nil]; exact hn'.2) (by rw [List.append_nil]; exact hx'.2) hx'.1 (by rw [List.append_nil]; exact hn'.1)
theorem ring_one (f g : Nat → Nat) (x : Nat) (hf : f x = x) (hg : g x = x) : RingP f g [x] := ⟨hf, hg⟩
theorem ring_rem {f g : Nat → Nat} {x y : Nat} {t : List Nat} (h : RingP f g (x :: y :: t)) (hn : (x :: y :: t).Nodup) : RingP (upd f (t.getLastD y) y) (upd g y (t.getLastD y)) (y :: t) := by
  have h : Path f g x (y :: t) x := h
  have h2 := (path_append (l1 := []) (x := y) (l2 := t)).1 h
  have hn' := List.nodup_cons.1 (List.nodup_cons.1 hn).2
  have := path_join (l1 := t) (l2 := []) h2.2 h2.1 rfl rfl (by rw [List.append_nil]; exact hn'.2) (by rw [List.append_nil]; exact hn'.1) (by rw [List.append_nil]; exact hn'.1)
  rw [List.append_nil] at this
  exact this
theorem ring_congr {f g f' g' : Nat → Nat} {l : List Nat} (hf : ∀ u, u ∈ l → f' u = f u) (hg : ∀ u, u ∈ l → g' u = g u) (h : RingP f g l) : RingP f' g' l := by
  cases l with
  | nil => trivial
  | cons a t =>
    exact path_congr (fun u hu => hf u (by rcases hu with rfl | hu; simp; simp [hu])) (fun u hu => hg u (by rcases hu with hu | rfl; simp [hu]; simp)) (show Path f g a t a from h)

structure Dl where
  N : Nat
  l : List Nat
  hs : List Nat
structure Dl.Ok (D : Dl) : Prop where
  lt : ∀ x, x ∈ D.l → x < D.N
  nd : D.l.Nodup
  hh : ∀ h, h ∈ D.hs → h < D.l.length ∨ (D.l = [] ∧ h = 0)
structure Rep (D : Dl) (lk : Nat → Lk) (hd : Nat → Nat) : Prop where
  ring : RingP (fun u => (lk u).n) (fun u => (lk u).p) D.l
  inl : ∀ x, x ∈ D.l → (lk x).s = true
  out : ∀ x, x < D.N → (lk x).s = true → x ∈ D.l
  hands : D.l ≠ [] → ∀ j h, D.hs[j]? = some h → D.l[h]? = some (hd j)

theorem layLk_n {lk : Nat → Lk} {x a pv : Nat} : (fun u => (layLk lk x a pv u).n) = upd (upd (fun u => (lk u).n) x a) pv x := by
  funext u
  simp only [layLk, upd, put]
  by_cases h1 : u = pv <;> by_cases h2 : u = a <;> by_cases h3 : u = x <;> simp_all
theorem layLk_p {lk : Nat → Lk} {x a pv : Nat} : (fun u => (layLk lk x a pv u).p) = upd (upd (fun u => (lk u).p) x pv) a x := by
  funext u
  simp only [layLk, upd, put]
  by_cases h1 : u = pv <;> by_cases h2 : u = a <;> by_cases h3 : u = x <;> simp_all
theorem layLk_s {lk : Nat → Lk} {x a pv : Nat} (u : Nat) : (layLk lk x a pv u).s = if u = x then true else (lk u).s := by
  simp only [layLk, put]
  by_cases h1 : u = pv <;> by_cases h2 : u = a <;> by_cases h3 : u = x <;> simp_all
theorem remLk_n {lk : Nat → Lk} {x pv nx : Nat} : (fun u => (remLk lk x pv nx u).n) = upd (upd (fun u => (lk u).n) pv nx) x 0 := by
  funext u
  simp only [remLk, upd, put]
  by_cases h1 : u = nx <;> by_cases h2 : u = pv <;> by_cases h3 : u = x <;> simp_all
theorem remLk_p {lk : Nat → Lk} {x pv nx : Nat} : (fun u => (remLk lk x pv nx u).p) = upd (upd (fun u => (lk u).p) nx pv) x 0 := by
  funext u
  simp only [remLk, upd, put]
  by_cases h1 : u = nx <;> by_cases h2 : u = pv <;> by_cases h3 : u = x <;> simp_all
theorem remLk_s {lk : Nat → Lk} {x pv nx : Nat} (u : Nat) : (remLk lk x pv nx u).s = if u = x then false else (lk u).s := by
  simp only [remLk, put]
  by_cases h1 : u = nx <;> by_cases h2 : u = pv <;> by_cases h3 : u = x <;> simp_all

/-- around from the place k -/
def rot (l : List Nat) (k : Nat) : List Nat := l.drop k ++ l.take k
theorem rot_length (l : List Nat) (k : Nat) : (rot l k).length = l.length := by unfold rot; simp; omega
theorem rot_mem {l : List Nat} {k x : Nat} : x ∈ rot l k ↔ x ∈ l := by
  unfold rot
  rw [List.mem_append, Or.comm, ← List.mem_append, List.take_append_drop]
theorem rot_nodup {l : List Nat} {k : Nat} (h : l.Nodup) : (rot l k).Nodup := by
  unfold rot
  rw [← List.take_append_drop k l, List.nodup_append] at h
  rw [List.nodup_append]
  exact ⟨h.2.1, h.1, fun a ha b hb e => h.2.2 b hb a ha e.symm⟩
theorem rot_get {l : List Nat} {k : Nat} (hk : k < l.length) (j : Nat) (hj : j < l.length) : (rot l k)[j]? = l[(k + j) % l.length]? := by
  unfold rot
  by_cases h1 : k + j < l.length
  · rw [List.getElem?_append_left (by simp; omega), List.getElem?_drop, Nat.mod_eq_of_lt h1]
  · rw [List.getElem?_append_right (by simp; omega), List.length_drop, List.getElem?_take_of_lt (by omega)]
    have e : (k + j) % l.length = j - (l.length - k) := by
      rw [Nat.mod_eq_sub_mod (by omega), Nat.mod_eq_of_lt (by omega)]; omega
    rw [e]
theorem rot_back {l : List Nat} {k h : Nat} (hk : k < l.length) (hh : h < l.length) : (rot l k)[(h + l.length - k) % l.length]? = l[h]? := by
  have hn : 0 < l.length := by omega
  rw [rot_get hk _ (Nat.mod_lt _ hn)]
  congr 1
  by_cases h1 : k ≤ h
  · have : (h + l.length - k) % l.length = h - k := by
      rw [show h + l.length - k = (h - k) + l.length by omega, Nat.add_mod_right, Nat.mod_eq_of_lt (by omega)]
    rw [this, Nat.mod_eq_of_lt (by omega)]; omega
  · have : (h + l.length - k) % l.length = h + l.length - k := Nat.mod_eq_of_lt (by omega)
    rw [this, show k + (h + l.length - k) = h + l.length by omega, Nat.add_mod_right, Nat.mod_eq_of_lt hh]
theorem rot_head {l : List Nat} {k a : Nat} (hk : l[k]? = some a) : rot l k = a :: (l.drop (k + 1) ++ l.take k) := by
  have hlt := (List.getElem?_eq_some_iff.1 hk).1
  unfold rot
  rw [List.drop_eq_getElem_cons hlt, (List.getElem?_eq_some_iff.1 hk).2]; rfl

def Dl.ins (D : Dl) (i x : Nat) : Dl :=
  if D.l = [] then ⟨D.N, [x], D.hs⟩
  else ⟨D.N, rot D.l (D.hs.getD i 0) ++ [x], D.hs.map fun h => (h + D.l.length - D.hs.getD i 0) % D.l.length⟩
def remH (k n h : Nat) : Nat := if n ≤ (if k < h then h - 1 else h) then 0 else (if k < h then h - 1 else h)
def Dl.rem (D : Dl) (k : Nat) : Dl := ⟨D.N, D.l.take k ++ D.l.drop (k + 1), D.hs.map (remH k (D.l.length - 1))⟩
def Dl.at_ (D : Dl) (i k : Nat) : Dl := ⟨D.N, D.l, D.hs.set i k⟩

section
variable {D : Dl} {lk : Nat → Lk} {hd : Nat → Nat}
theorem Ok.ins (h : D.Ok) {i x k : Nat} (hk : D.hs[i]? = some k) (hx : x < D.N) (hf : x ∉ D.l) : (D.ins i x).Ok := by
  unfold Dl.ins
  by_cases h0 : D.l = []
  · rw [if_pos h0]
    refine ⟨fun y hy => ?_, by simp, fun u hu => ?_⟩
    · simp at hy; subst hy; exact hx
    · rcases h.hh u hu with h1 | h1
      · rw [h0] at h1; simp at h1
      · exact .inl (by rw [h1.2]; simp)
  · rw [if_neg h0]
    have hn : 0 < D.l.length := by cases hl : D.l; exact absurd hl h0; simp
    refine ⟨fun y hy => ?_, ?_, fun u hu => .inl ?_⟩
    · simp only [List.mem_append, rot_mem, List.mem_singleton] at hy
      rcases hy with hy | rfl
      · exact h.lt y hy
      · exact hx
    · show (rot D.l _ ++ [x]).Nodup
      rw [List.nodup_append]
      refine ⟨rot_nodup h.nd, by simp, fun a ha b hb e => ?_⟩
      simp at hb
      subst hb; subst e
      exact hf (rot_mem.1 ha)
    · obtain ⟨v, hv, rfl⟩ := List.mem_map.1 hu
      have := Nat.mod_lt (v + D.l.length - D.hs.getD i 0) hn
      simp only [List.length_append, rot_length, List.length_singleton]
      omega
theorem Rep.insAlone (hr : Rep D lk hd) (ho : D.Ok) {i x M : Nat} (h0 : D.l = []) (hM : M = D.hs.length) : Rep (D.ins i x) (put lk x ⟨x, x, true⟩) (allAt hd x M) := by
  unfold Dl.ins
  rw [if_pos h0]
  refine ⟨?_, fun y hy => ?_, fun y hy hs => ?_, fun _ j h hj => ?_⟩
  · exact ring_one _ _ x (by simp only [put_same]) (by simp only [put_same])
  · simp at hy; subst hy; rw [put_same]
  · by_cases hyx : y = x
    · simp [hyx]
    · rw [put_other hyx] at hs
      have := hr.out y hy hs
      rw [h0] at this; cases this
  · have hj' : D.hs[j]? = some h := hj
    have := ho.hh h (List.mem_of_getElem? hj')
    rw [h0] at this
    have hz : h = 0 := by
      rcases this with h1 | h1
      · simp at h1
      · exact h1.2
    subst hz
    have hlt := (List.getElem?_eq_some_iff.1 hj').1
    show [x][0]? = some (allAt hd x M j)
    unfold allAt
    rw [if_pos (by omega)]; rfl
theorem Rep.insRing (hr : Rep D lk hd) (ho : D.Ok) {i x k a : Nat} (h0 : D.l ≠ []) (hk : D.hs[i]? = some k) (ha : D.l[k]? = some a) (hx : x < D.N) (hf : x ∉ D.l) : Rep (D.ins i x) (layLk lk x a (lk a).p) hd := by
  have hkd : D.hs.getD i 0 = k := by rw [List.getD_eq_getElem?_getD, hk]; rfl
  have hkl := (List.getElem?_eq_some_iff.1 ha).1
  unfold Dl.ins
  rw [if_neg h0, hkd]
  have hrr : RingP (fun u => (lk u).n) (fun u => (lk u).p) (rot D.l k) := by
    unfold rot
    exact ring_rot (by rw [List.take_append_drop]; exact hr.ring)
  have hnd := rot_nodup (k := k) ho.nd
  have hxr : x ∉ rot D.l k := fun h => hf (rot_mem.1 h)
  refine ⟨?_, fun y hy => ?_, fun y hy hs => ?_, fun _ j h hj => ?_⟩
  · show RingP _ _ (rot D.l k ++ [x])
    rw [layLk_n, layLk_p]
    rw [rot_head ha] at hrr hnd hxr ⊢
    exact ring_lay hrr hnd hxr (ring_last hrr).symm
  · rw [layLk_s]
    by_cases hyx : y = x
    · rw [if_pos hyx]
    · rw [if_neg hyx]
      simp only [List.mem_append, rot_mem, List.mem_singleton] at hy
      rcases hy with hy | hy
      · exact hr.inl y hy
      · exact absurd hy hyx
  · rw [layLk_s] at hs
    simp only [List.mem_append, rot_mem, List.mem_singleton]
    by_cases hyx : y = x
    · exact .inr hyx
    · rw [if_neg hyx] at hs; exact .inl (hr.out y hy hs)
  · have hj' : (D.hs.map fun h => (h + D.l.length - k) % D.l.length)[j]? = some h := hj
    rw [List.getElem?_map] at hj'
    obtain ⟨v, hv, rfl⟩ := Option.map_eq_some_iff.1 hj'
    have h1 := hr.hands h0 j v hv
    have hvl := (List.getElem?_eq_some_iff.1 h1).1
    show (rot D.l k ++ [x])[_]? = _
    rw [List.getElem?_append_left (by rw [rot_length]; exact Nat.mod_lt _ (by omega)), rot_back hkl hvl]
    exact h1

theorem split_at {l : List Nat} {k x : Nat} (hk : l[k]? = some x) : l = l.take k ++ x :: l.drop (k + 1) := by
  have hlt := (List.getElem?_eq_some_iff.1 hk).1
  have h := List.take_append_drop k l
  rw [List.drop_eq_getElem_cons hlt, (List.getElem?_eq_some_iff.1 hk).2] at h
  exact h.symm
theorem rem_get {l : List Nat} {k j : Nat} (hk : k < l.length) : (l.take k ++ l.drop (k + 1))[j]? = if j < k then l[j]? else l[j + 1]? := by
  by_cases h : j < k
  · rw [if_pos h, List.getElem?_append_left (by simp; omega), List.getElem?_take_of_lt h]
  · rw [if_neg h, List.getElem?_append_right (by simp; omega), List.length_take, Nat.min_eq_left (by omega), List.getElem?_drop]
    congr 1; omega
theorem rem_mem {l : List Nat} {k x y : Nat} (hk : l[k]? = some x) (hn : l.Nodup) : y ∈ l.take k ++ l.drop (k + 1) ↔ y ∈ l ∧ y ≠ x := by
  have e := split_at hk
  have hn2 := hn
  rw [e, List.nodup_append] at hn2
  have hx1 : x ∉ l.take k := fun h => hn2.2.2 x h x (by simp) rfl
  have hx2 : x ∉ l.drop (k + 1) := (List.nodup_cons.1 hn2.2.1).1
  constructor
  · intro h
    refine ⟨?_, ?_⟩
    · rw [e]; simp only [List.mem_append, List.mem_cons] at h ⊢; rcases h with h | h; exact .inl h; exact .inr (.inr h)
    · rintro rfl
      rcases List.mem_append.1 h with h | h
      · exact hx1 h
      · exact hx2 h
  · rintro ⟨h, hne⟩
    rw [e] at h
    simp only [List.mem_append, List.mem_cons] at h ⊢
    rcases h with h | h | h
    · exact .inl h
    · exact absurd h hne
    · exact .inr h
theorem rem_len {l : List Nat} {k : Nat} (hk : k < l.length) : (l.take k ++ l.drop (k + 1)).length = l.length - 1 := by simp; omega
theorem Ok.rem (h : D.Ok) {k x : Nat} (hk : D.l[k]? = some x) : (D.rem k).Ok := by
  have hlt := (List.getElem?_eq_some_iff.1 hk).1
  have hlen := rem_len hlt
  refine ⟨fun y hy => h.lt y ((rem_mem hk h.nd).1 hy).1, ?_, fun u hu => ?_⟩
  · have hn := h.nd
    rw [split_at hk, List.nodup_append] at hn
    show (D.l.take k ++ D.l.drop (k + 1)).Nodup
    rw [List.nodup_append]
    exact ⟨hn.1, (List.nodup_cons.1 hn.2.1).2, fun a ha b hb e => hn.2.2 a ha b (List.mem_cons_of_mem _ hb) e⟩
  · obtain ⟨v, hv, rfl⟩ := List.mem_map.1 hu
    show remH k (D.l.length - 1) v < (D.l.take k ++ D.l.drop (k + 1)).length ∨ (D.l.take k ++ D.l.drop (k + 1) = [] ∧ _)
    rw [hlen]
    unfold remH
    by_cases h0 : D.l.length - 1 = 0
    · refine .inr ⟨List.eq_nil_of_length_eq_zero (by omega), ?_⟩
      rw [if_pos (by omega)]
    · refine .inl ?_
      generalize (if k < v then v - 1 else v) = u
      by_cases h1 : D.l.length - 1 ≤ u
      · rw [if_pos h1]; omega
      · rw [if_neg h1]; omega
theorem nodup_idx {l : List Nat} (hn : l.Nodup) {i j x : Nat} (hi : l[i]? = some x) (hj : l[j]? = some x) : i = j := by
  obtain ⟨h1, e1⟩ := List.getElem?_eq_some_iff.1 hi
  obtain ⟨h2, e2⟩ := List.getElem?_eq_some_iff.1 hj
  exact (List.getElem_inj hn).1 (e1.trans e2.symm)
theorem Rep.rem (hr : Rep D lk hd) (ho : D.Ok) {k x M : Nat} (hk : D.l[k]? = some x) (hM : M = D.hs.length) : Rep (D.rem k) (remLk lk x (lk x).p (lk x).n) (mvAt hd x (lk x).n M) := by
  have hlt := (List.getElem?_eq_some_iff.1 hk).1
  have hlen := rem_len hlt
  have hrr : RingP (fun u => (lk u).n) (fun u => (lk u).p) (rot D.l k) := by
    unfold rot
    exact ring_rot (by rw [List.take_append_drop]; exact hr.ring)
  have hnd := rot_nodup (k := k) ho.nd
  rw [rot_head hk] at hrr hnd
  have hnx : (lk x).n = (D.l[k + 1]?).getD (D.l.headD 0) := ring_next hr.ring hk
  refine ⟨?_, fun y hy => ?_, fun y hy hs => ?_, fun h0 j h hj => ?_⟩
  · show RingP _ _ (D.l.take k ++ D.l.drop (k + 1))
    refine ring_rot ?_
    rw [remLk_n, remLk_p]
    cases ht : D.l.drop (k + 1) ++ D.l.take k with
    | nil => trivial
    | cons y t =>
      rw [ht] at hrr hnd
      have hp : (lk x).p = t.getLastD y := by
        have := ring_last hrr
        rw [this]
        rcases snoc_cases (l := t) with rfl | ⟨t', q, rfl⟩
        · rfl
        · rw [getLastD_snoc, show y :: (t' ++ [q]) = (y :: t') ++ [q] from rfl, getLastD_snoc]
      have hn2 : (lk x).n = y := by
        have := path_first (show Path (fun u => (lk u).n) (fun u => (lk u).p) x (y :: t) x from hrr)
        simpa using this
      rw [hp, hn2]
      have hxn := (List.nodup_cons.1 hnd).1
      refine ring_congr (fun u hu => upd_other (fun e => hxn (e ▸ hu))) (fun u hu => upd_other (fun e => hxn (e ▸ hu))) (ring_rem hrr hnd)
  · have := (rem_mem hk ho.nd).1 hy
    rw [remLk_s, if_neg this.2]
    exact hr.inl y this.1
  · rw [remLk_s] at hs
    by_cases hyx : y = x
    · rw [if_pos hyx] at hs; cases hs
    · rw [if_neg hyx] at hs
      exact (rem_mem hk ho.nd).2 ⟨hr.out y hy hs, hyx⟩
  · have hj' : (D.hs.map (remH k (D.l.length - 1)))[j]? = some h := hj
    rw [List.getElem?_map] at hj'
    obtain ⟨v, hv, rfl⟩ := Option.map_eq_some_iff.1 hj'
    have hl0 : D.l ≠ [] := fun e => by rw [e] at hk; simp at hk
    have h1 := hr.hands hl0 j v hv
    have hvl := (List.getElem?_eq_some_iff.1 h1).1
    have hjM : j < M := by have := (List.getElem?_eq_some_iff.1 hv).1; omega
    have hn1 : D.l.length - 1 ≠ 0 := fun e => h0 (List.eq_nil_of_length_eq_zero (by
      show (D.l.take k ++ D.l.drop (k + 1)).length = 0
      rw [hlen]; exact e))
    show (D.l.take k ++ D.l.drop (k + 1))[_]? = some (mvAt hd x (lk x).n M j)
    unfold mvAt
    by_cases hxv : hd j = x
    · rw [hxv] at h1
      obtain rfl := nodup_idx ho.nd h1 hk
      rw [if_pos ⟨hjM, hxv⟩, hnx]
      unfold remH
      rw [if_neg (show ¬ v < v by omega)]
      by_cases h2 : D.l.length - 1 ≤ v
      · rw [if_pos h2, rem_get hlt, List.getElem?_eq_none (show D.l.length ≤ v + 1 by omega)]
        by_cases h3 : 0 < v
        · rw [if_pos h3]
          cases hl : D.l with
          | nil => exact absurd hl hl0
          | cons b t => simp
        · exact absurd h2 (by omega)
      · rw [if_neg h2, rem_get hlt, if_neg (by omega), List.getElem?_eq_getElem (show v + 1 < D.l.length by omega)]; rfl
    · rw [if_neg (fun h => hxv h.2)]
      have hvk : v ≠ k := by
        rintro rfl
        rw [hk] at h1; exact hxv (Option.some.inj h1).symm
      unfold remH
      by_cases h2 : k < v
      · rw [if_pos h2, if_neg (by omega), rem_get hlt, if_neg (by omega), show v - 1 + 1 = v by omega]; exact h1
      · rw [if_neg h2, if_neg (by omega), rem_get hlt, if_pos (by omega)]; exact h1
theorem Ok.at_ (h : D.Ok) {i k : Nat} (hk : k < D.l.length) : (D.at_ i k).Ok := by
  refine ⟨h.lt, h.nd, fun u hu => ?_⟩
  rcases List.mem_or_eq_of_mem_set hu with hu | rfl
  · exact h.hh u hu
  · exact .inl hk
theorem Rep.at_ (hr : Rep D lk hd) {i k x : Nat} (hk : D.l[k]? = some x) : Rep (D.at_ i k) lk (put hd i x) := by
  refine ⟨hr.ring, hr.inl, hr.out, fun h0 j h hj => ?_⟩
  have hj' : (D.hs.set i k)[j]? = some h := hj
  show D.l[h]? = _
  rw [List.getElem?_set] at hj'
  by_cases hij : i = j
  · subst hij
    rw [if_pos rfl] at hj'
    split at hj'
    · obtain rfl := Option.some.inj hj'
      rw [put_same]; exact hk
    · cases hj'
  · rw [if_neg hij] at hj'
    rw [put_other (fun e => hij e.symm)]
    exact hr.hands h0 j h hj'
end
end Go.Proofs.Ytjligfgaahcogaa
