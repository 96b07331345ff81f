/-
  What each function of a slab of numbers makes of it, and tells.
-/
import Derived.Test.YtoopfoapkbjdkaaAlloc
import Derived.Test.YtoopfoapkbjdkaaSlb
namespace Go.Proofs.Ytoopfoapkbjdkaa
open Go.ChangeShapes Go.WideShapes Go.ChangeAt Go.RowKit
set_option linter.unusedVariables false

def enci (v : Int) : List Value := [.int .i64 v]
abbrev SI := Slb Int
def rows (S : SI) : List (List Value) := S.L.map (Spot.cells enci)
structure IsSlab (w : World) (lo b : Nat) (S : SI) : Prop where
  lo_le : lo ≤ w.heap.size
  good : Good S
  mem : ∃ d cp vC vF, Mem Ki w lo b S.most S.c (rows S) S.fr d cp vC vF

section
variable {w w' : World} {lo b : Nat} {S : SI}
theorem IsSlab.kept (h : IsSlab w lo b S) (hg : w.grownBy w' none) : IsSlab w' lo b S := by
  obtain ⟨h1, h2, d, cp, vC, vF, hm⟩ := h
  exact ⟨Nat.le_trans h1 hg.size, h2, d, cp, vC, vF, hm.kept hg⟩
theorem rows_len (S : SI) : (rows S).length = S.L.length := by simp [rows]
theorem rows_spots (S : SI) : Spots (rows S) := by
  intro x hx
  obtain ⟨s, _, rfl⟩ := List.mem_map.1 hx
  exact ⟨s.turn, s.stands, _, rfl⟩
theorem nodeAt_rows (S : SI) (p : Int) : nodeAt (rows S) p = (S.node p).map (fun s => s.turn) := by
  unfold nodeAt Slb.node rows
  by_cases h0 : 0 ≤ p
  · rw [if_pos h0, if_pos h0, List.getElem?_map]
    cases S.L[p.toNat]? with
    | none => rfl
    | some s =>
      obtain ⟨t, st, v⟩ := s
      cases st <;> simp [Spot.cells, Option.filter]
  · rw [if_neg h0, if_neg h0]; rfl
theorem IsSlab.facts (h : IsSlab w lo b S) : 1 ≤ S.c ∧ S.c ≤ S.most ∧ S.most ≤ 65536 ∧ S.L.length ≤ S.most := by
  obtain ⟨_, _, d, cp, vC, vF, hm⟩ := h
  exact ⟨hm.c1, hm.cm, hm.m6, by have := hm.len; rwa [rows_len] at this⟩

/-! ### New -/
theorem new_is {lo most c : Nat} (hlo : lo ≤ w.heap.size) (h1 : 1 ≤ c) (h2 : c ≤ most) (h3 : most ≤ 65536) :
    Calls Try.prog 7 #[.int .i64 (most : Int), .int .i64 (c : Int)] w fun e w' => e = .returned (.tuple #[.pointer (some ⟨w.heap.size, 0, none⟩), .int .i64 0]) ∧ IsSlab w' lo w.heap.size ⟨most, c, [], []⟩ ∧ w.grownBy w' none := by
  refine (new_yes most c w h1 h2 h3).mono ?_
  rintro e w' ⟨rfl, rfl⟩
  refine ⟨rfl, ⟨?_, ⟨by simp, by simp, by simp⟩, fun _ => 0, fun _ => 0, .slice none 0 0, .slice none 0 0, ?_⟩, World.grownBy_alloc _ _ none⟩
  · simp; omega
  · have hn : nch c 0 = 0 := by
      refine Nat.eq_zero_of_not_pos fun h => ?_
      rw [nch_lt h1] at h; omega
    refine ⟨h1, h2, h3, by simp [rows], by simp [rows], by simp [rows], hlo, ?_, ?_, ?_, ?_, ?_⟩
    · exact heap_alloc_new w _
    · simp only [rows, List.map_nil, List.length_nil, hn]
      exact World.ownsRow_nil _ _ _ _
    · intro j hj; simp only [rows, List.map_nil, List.length_nil, hn] at hj; omega
    · intro i j hi; simp only [rows, List.map_nil, List.length_nil, hn] at hi; omega
    · exact World.ownsRow_nil _ _ _ _

/-! ### what is told of the whole -/
theorem len_is (h : IsSlab w lo b S) : Calls Try.prog 26 #[.pointer (some ⟨b, 0, none⟩)] w fun e w' => e = .returned (.int .i64 (S.len : Int)) ∧ ∃ q, w' = w.drewN q := by
  have hf := h.facts
  obtain ⟨_, hg, d, cp, vC, vF, hm⟩ := h
  obtain ⟨A, cap, rfl⟩ := owns_slice hm.rowF
  have := len_raw b S.L.length S.fr.length cap A w hg.fr_le (by omega) (by have := hm.taken2; rwa [rows_len] at this) hm.freed4
  rwa [hg.len_eq] at this
theorem room_is (h : IsSlab w lo b S) : Calls Try.prog 27 #[.pointer (some ⟨b, 0, none⟩)] w fun e w' => e = .returned (.int .i64 ((S.most - S.len : Nat) : Int)) ∧ ∃ q, w' = w.drewN q := by
  have hf := h.facts
  obtain ⟨_, hg, d, cp, vC, vF, hm⟩ := h
  obtain ⟨A, cap, rfl⟩ := owns_slice hm.rowF
  have := room_raw b S.most S.L.length S.fr.length cap A w hg.fr_le (by omega) (by omega) hm.most0 (by have := hm.taken2; rwa [rows_len] at this) hm.freed4
  rwa [hg.len_eq] at this
theorem chunks_is (h : IsSlab w lo b S) : Calls Try.prog 28 #[.pointer (some ⟨b, 0, none⟩)] w fun e w' => e = .returned (.int .i64 (nch S.c S.L.length : Int)) ∧ w = w' := by
  obtain ⟨_, hg, d, cp, vC, vF, hm⟩ := h
  obtain ⟨A, cap, rfl⟩ := owns_slice hm.rowC
  have := chunks_raw b _ cap A w hm.chunks3
  rwa [rows_len] at this

/-! ### At, Get -/
def hdlOf (p : Int) (o : Option (Spot Int)) : Value := match o with | some s => hdl p s.turn | none => hdl 0 0
theorem at_is (h : IsSlab w lo b S) {p : Int} (hp : -2147483648 ≤ p ∧ p < 2147483648) :
    Calls Try.prog 16 #[.pointer (some ⟨b, 0, none⟩), .int .i32 p] w fun e w' => e = .returned (.tuple #[hdlOf p (S.node p), .bool (S.node p).isSome]) ∧ w.grownBy w' none := by
  obtain ⟨_, hg, d, cp, vC, vF, hm⟩ := h
  refine (at_at hm (rows_spots S) hp).mono ?_
  rintro e w' ⟨rfl, hg'⟩
  refine ⟨?_, hg'⟩
  rw [nodeAt_rows]
  cases S.node p <;> rfl
/-- does a handle name a node? -/
def Slb.names (S : SI) (p t : Int) : Option (Spot Int) := (S.node p).filter (fun s => (s.turn : Int) == t)
theorem names_some {p t : Int} {s : Spot Int} : S.names p t = some s ↔ S.node p = some s ∧ (s.turn : Int) = t := by
  unfold Slb.names
  rw [Option.filter_eq_some_iff]
  simp
theorem names_rows {t : Int} (ht : 0 ≤ t) {p : Int} : nodeAt (rows S) p = some t.toNat ↔ (S.names p t).isSome = true := by
  rw [nodeAt_rows, Option.isSome_iff_exists]
  constructor
  · intro h
    obtain ⟨s, h1, h2⟩ := Option.map_eq_some_iff.1 h
    exact ⟨s, names_some.2 ⟨h1, by omega⟩⟩
  · rintro ⟨s, h⟩
    obtain ⟨h1, h2⟩ := names_some.1 h
    rw [h1]; simp; omega
theorem find_no_is (h : IsSlab w lo b S) {p t : Int} (hp : -2147483648 ≤ p ∧ p < 2147483648) (ht : 0 ≤ t) (hn : S.names p t = none) : ∀ w', w.grownBy w' none →
    Calls Try.prog 38 #[.pointer (some ⟨b, 0, none⟩), hdl p t] w' fun e w'' => e = .returned (.tuple #[.pointer none, .int .i64 4]) ∧ w'.grownBy w'' none := by
  intro w' hg
  obtain ⟨_, hgd, d, cp, vC, vF, hm⟩ := h
  refine (find_at (hm.kept hg) (rows_spots S) hp ht).mono ?_
  rintro e w'' ⟨he, hg'⟩
  rw [if_neg (fun e => by rw [names_rows ht, hn] at e; cases e)] at he
  exact ⟨he, hg'⟩
theorem get_is (h : IsSlab w lo b S) {p t : Int} (hp : -2147483648 ≤ p ∧ p < 2147483648) (ht : 0 ≤ t) :
    Calls Try.prog 15 #[.pointer (some ⟨b, 0, none⟩), hdl p t] w fun e w' => e = .returned (match S.names p t with | some s => .tuple #[.int .i64 s.has, .int .i64 0] | none => .tuple #[.int .i64 0, .int .i64 4]) ∧ w.grownBy w' none := by
  cases hn : S.names p t with
  | none => exact get_no _ p t 4 w (by decide) (find_no_is h hp ht hn)
  | some s =>
    obtain ⟨hnode, hturn⟩ := names_some.1 hn
    obtain ⟨h0, hs, hst⟩ := node_some.1 hnode
    have hlt := (List.getElem?_eq_some_iff.1 hs).1
    obtain ⟨_, hgd, d, cp, vC, vF, hm⟩ := h
    have hrl : p.toNat < (rows S).length := by rw [rows_len]; exact hlt
    have hrow : (rows S).getD p.toNat [] = s.cells enci := by
      unfold rows
      rw [List.getD_eq_getElem?_getD, List.getElem?_map, hs]; rfl
    have hc := hm.spotCell (t := 2) hrl (by decide)
    rw [hrow] at hc
    refine get_yes _ (d (p.toNat / S.c)) (p.toNat % S.c * 3) p t s.has w (fun w' hg => ?_) hc
    refine (find_at (hm.kept hg) (rows_spots S) hp ht).mono ?_
    rintro e w'' ⟨he, hg'⟩
    rw [if_pos ((names_rows ht).2 (by rw [hn]; rfl))] at he
    exact ⟨he, hg'⟩

/-! ### Set, Free -/
theorem rows_set (S : SI) (p : Nat) (s : Spot Int) : rows ({ S with L := S.L.set p s } : SI) = (rows S).set p (s.cells enci) := by
  unfold rows; rw [List.map_set]
theorem set_is (h : IsSlab w lo b S) {p t : Int} (v : Int) (hp : -2147483648 ≤ p ∧ p < 2147483648) (ht : 0 ≤ t) :
    Calls Try.prog 17 #[.pointer (some ⟨b, 0, none⟩), hdl p t, .int .i64 v] w fun e w' => e = .returned (.int .i64 (if (S.names p t).isSome then 0 else 4)) ∧ IsSlab w' lo b (if (S.names p t).isSome then S.set p.toNat v else S) ∧ Keep Ki lo w w' := by
  have hall := h
  cases hn : S.names p t with
  | none =>
    refine (set_no _ p t v 4 w (by decide) (find_no_is h hp ht hn)).mono ?_
    rintro e w' ⟨rfl, hg⟩
    exact ⟨rfl, h.kept hg, Keep.of_new hg⟩
  | some s =>
    obtain ⟨hnode, hturn⟩ := names_some.1 hn
    obtain ⟨h0, hs, hst⟩ := node_some.1 hnode
    have hlt := (List.getElem?_eq_some_iff.1 hs).1
    obtain ⟨hlo, hgd, d, cp, vC, vF, hm⟩ := h
    have hrl : p.toNat < (rows S).length := by rw [rows_len]; exact hlt
    have hrow : (rows S).getD p.toNat [] = s.cells enci := by
      unfold rows
      rw [List.getD_eq_getElem?_getD, List.getElem?_map, hs]; rfl
    have hc := hm.spotCell (t := 2) hrl (by decide)
    rw [hrow] at hc
    refine (set_yes _ (d (p.toNat / S.c)) (p.toNat % S.c * 3) p t v s.has w (fun w' hg => ?_) hc (hm.spotFree hrl _)).mono ?_
    · refine (find_at (hm.kept hg) (rows_spots S) hp ht).mono ?_
      rintro e w'' ⟨he, hg'⟩
      rw [if_pos ((names_rows ht).2 (by rw [hn]; rfl))] at he
      exact ⟨he, hg'⟩
    · rintro e w' ⟨rfl, w1, hg, rfl⟩
      have hst2 := (hm.kept hg).store Ki_ok hrl (t := 2) (by decide) (.int .i64 v) rfl
      refine ⟨rfl, ⟨?_, ?_, d, cp, vC, vF, ?_⟩, (Keep.of_new hg).trans hst2.2⟩
      · have := hg.size; simp; omega
      · exact hgd.set v
      · have e1 : rows (S.set p.toNat v) = (rows S).set p.toNat (((rows S).getD p.toNat []).set 2 (.int .i64 v)) := by
          rw [hrow]
          unfold Slb.set
          rw [hs]
          exact rows_set S p.toNat ⟨s.turn, s.stands, v⟩
        have e2 := set_len S p.toNat v
        have e3 : (S.set p.toNat v).fr = S.fr := by unfold Slb.set; rw [hs]
        simp only [Option.isSome_some, if_true]
        rw [e1, e2.1, e2.2, e3]
        exact hst2.1
theorem free_is (h : IsSlab w lo b S) {p t : Int} (hp : -2147483648 ≤ p ∧ p < 2147483648) (ht : 0 ≤ t) :
    Calls Try.prog 14 #[.pointer (some ⟨b, 0, none⟩), hdl p t] w fun e w' => e = .returned (.int .i64 (if (S.names p t).isSome then 0 else 4)) ∧ IsSlab w' lo b (if (S.names p t).isSome then S.free 0 p.toNat else S) ∧ Keep Ki lo w w' := by
  have hf := h.facts
  cases hn : S.names p t with
  | none =>
    refine (free_no _ p t 4 w (by decide) (find_no_is h hp ht hn)).mono ?_
    rintro e w' ⟨rfl, hg⟩
    exact ⟨rfl, h.kept hg, Keep.of_new hg⟩
  | some s =>
    obtain ⟨hnode, hturn⟩ := names_some.1 hn
    obtain ⟨h0, hs, hst⟩ := node_some.1 hnode
    have hlt := (List.getElem?_eq_some_iff.1 hs).1
    obtain ⟨hlo, hgd, d, cp, vC, vF, hm⟩ := h
    have hrl : p.toNat < (rows S).length := by rw [rows_len]; exact hlt
    have hrow : (rows S).getD p.toNat [] = s.cells enci := by
      unfold rows
      rw [List.getD_eq_getElem?_getD, List.getElem?_map, hs]; rfl
    have hc0 := hm.spotCell (t := 0) hrl (by decide)
    have hc1 := hm.spotCell (t := 1) hrl (by decide)
    have hc2 := hm.spotCell (t := 2) hrl (by decide)
    rw [hrow] at hc0 hc1 hc2
    have hpp : ((p.toNat : Nat) : Int) = p := Int.toNat_of_nonneg h0
    -- the place's cells, stored
    have key : ∀ w', w.grownBy w' none → Mem Ki (freedSpot w' (d (p.toNat / S.c)) (p.toNat % S.c * 3) (s.turn : Int)) lo b S.most S.c (rows ({ S with L := S.L.set p.toNat ⟨s.turn, false, 0⟩ } : SI)) S.fr d cp vC vF ∧ Keep Ki lo w' (freedSpot w' (d (p.toNat / S.c)) (p.toNat % S.c * 3) (s.turn : Int)) := by
      intro w' hg
      have hm0 := hm.kept hg
      have hm1 := hm0.store Ki_ok hrl (t := 0) (by decide) (.int .u32 (s.turn : Int)) rfl
      have hm2 := hm1.1.store Ki_ok (p := p.toNat) (by simpa using hrl) (t := 1) (by decide) (.bool false) rfl
      have hm3 := hm2.1.store Ki_ok (p := p.toNat) (by simpa using hrl) (t := 2) (by decide) (.int .i64 0) rfl
      have hk3 := (hm1.2.trans hm2.2).trans hm3.2
      refine ⟨?_, hk3⟩
      have g : ∀ (l : List (List Value)) (x : List Value), p.toNat < l.length → (l.set p.toNat x).getD p.toNat [] = x := fun l x h => by
        rw [List.getD_eq_getElem?_getD, List.getElem?_set, if_pos rfl, if_pos h]; rfl
      have e := hm3.1
      rw [List.set_set, g _ _ hrl, hrow, List.set_set, g _ _ (by simpa using hrl)] at e
      rw [rows_set]
      exact e
    have := free_yes lo b (d (p.toNat / S.c)) (p.toNat % S.c * 3) p.toNat S.most S.c t (s.turn : Int) s.has s.stands w _ S.fr d cp vC vF (by have := hgd.fr_le; omega) hlo (fun w' hg => ?_) hc0 hc1 hc2 (hm.spotFree hrl) (fun w' hg => (key w' hg).1)
    · rw [hpp] at this
      refine this.mono ?_
      rintro e w' ⟨rfl, w1, vF', hg, hM, hK⟩
      have e1 : S.free 0 p.toNat = ({ S with L := S.L.set p.toNat ⟨s.turn, false, 0⟩, fr := S.fr ++ [p.toNat] } : SI) := by
        unfold Slb.free; rw [hs]
      have hK' := ((Keep.of_new hg).trans (key w1 hg).2).trans hK
      refine ⟨rfl, ⟨Nat.le_trans hlo hK'.size, ?_, d, cp, vC, vF', ?_⟩, hK'⟩
      · exact hgd.free 0 hs hst
      · simp only [Option.isSome_some, if_true]
        rw [e1]; exact hM
    · rw [hpp]
      refine (find_at (hm.kept hg) (rows_spots S) hp ht).mono ?_
      rintro e w'' ⟨he, hg'⟩
      rw [if_pos ((names_rows ht).2 (by rw [hn]; rfl))] at he
      exact ⟨he, hg'⟩

/-! ### Alloc -/
theorem alloc_full_is (h : IsSlab w lo b S) (v : Int) (hfull : S.most ≤ S.len) :
    Calls Try.prog 13 #[.pointer (some ⟨b, 0, none⟩), .int .i64 v] w fun e w' => e = .returned (.tuple #[hdl 0 0, .int .i64 3]) ∧ w.grownBy w' none := by
  refine alloc_full _ v w fun w' hg => ?_
  have := room_is (h.kept hg)
  rwa [show S.most - S.len = 0 by omega] at this
theorem alloc_is (h : IsSlab w lo b S) (v : Int) (hroom : S.len < S.most) (hturn : S.turn S.place + 1 < 4294967296) :
    Calls Try.prog 13 #[.pointer (some ⟨b, 0, none⟩), .int .i64 v] w fun e w' => e = .returned (.tuple #[hdl S.place ((S.turn S.place + 1 : Nat) : Int), .int .i64 0]) ∧ IsSlab w' lo b (S.alloc v) ∧ Keep Ki lo w w' := by
  have hfa := h.facts
  have hr := fun w' (hg : w.grownBy w' none) => room_is (h.kept hg)
  obtain ⟨hlo, hgd, d, cp, vC, vF, hm⟩ := h
  have hcnt := hgd.count
  cases hf : S.fr.getLast? with
  | none =>
    have he : S.fr = [] := List.getLast?_eq_none_iff.1 hf
    have hpl : S.place = S.L.length := by unfold Slb.place; rw [hf]; rfl
    have htn : S.turn S.L.length = 0 := by unfold Slb.turn; rw [List.getElem?_eq_none (Nat.le_refl _)]
    have hlt : (rows S).length < S.most := by rw [rows_len]; rw [he] at hcnt; unfold Slb.len at hroom; simp only [List.length_nil, Nat.add_zero] at hcnt; omega
    rw [hpl, htn] at hturn ⊢
    rw [he] at hm
    refine (alloc_raw lo b S.most S.c S.L.length 0 _ false 0 v w (rows S ++ [zero3]) [] (by simp [rows_len]) ?_ hturn (by omega) hlo hr (fun w' hg => ?_)).mono ?_
    · rw [List.getD_eq_getElem?_getD, List.getElem?_append_right (by rw [rows_len]; exact Nat.le_refl _), rows_len, Nat.sub_self]; rfl
    · have hlo' : lo ≤ w'.heap.size := Nat.le_trans hlo hg.size
      have ht : Calls Try.prog 36 #[.pointer (some ⟨b, 0, none⟩)] w' (TakePost w' lo b S.most S.c (rows S) vF) := by
        by_cases hmod : (rows S).length % S.c = 0
        · exact take_new (hm.kept hg) hlt hmod hlo'
        · exact take_part (hm.kept hg) hlt hmod hlo'
      refine ht.mono ?_
      rintro e w'' ⟨rfl, d', cp', vC', hM, hK⟩
      exact ⟨by rw [rows_len], d', cp', vC', vF, hM, hK⟩
    · rintro e w' ⟨rfl, d', cp', vC', vF', hM, hK⟩
      have e1 : S.alloc v = ({ S with L := S.L ++ [⟨1, true, v⟩] } : SI) := by unfold Slb.alloc; rw [hf]
      refine ⟨rfl, ⟨Nat.le_trans hlo hK.size, hgd.alloc v, d', cp', vC', vF', ?_⟩, hK⟩
      rw [e1]
      have e2 : rows ({ S with L := S.L ++ [⟨1, true, v⟩] } : SI) = (rows S ++ [zero3]).set S.L.length [.int .u32 ((0 + 1 : Nat) : Int), .bool true, .int .i64 v] := by
        unfold rows
        rw [List.map_append, List.set_append_right _ _ (by simp)]
        simp [zero3, Spot.cells, enci]
      rw [e2, he]; exact hM
  | some p =>
    obtain ⟨s, hs, hst⟩ := hgd.place_lt hf
    have hlt := (List.getElem?_eq_some_iff.1 hs).1
    obtain ⟨fr', hfr⟩ : ∃ fr', S.fr = fr' ++ [p] := List.getLast?_eq_some_iff.1 hf
    have hpl : S.place = p := by unfold Slb.place; rw [hf]; rfl
    have htn : S.turn p = s.turn := by unfold Slb.turn; rw [hs]
    rw [hpl, htn] at hturn ⊢
    have hrl : p < (rows S).length := by rw [rows_len]; exact hlt
    have hrow : (rows S).getD p [] = s.cells enci := by
      unfold rows
      rw [List.getD_eq_getElem?_getD, List.getElem?_map, hs]; rfl
    rw [hfr] at hm hcnt
    obtain ⟨A, cap, hv⟩ := owns_slice hm.rowF
    simp only [List.length_append, List.length_cons, List.length_nil] at hv hcnt
    subst hv
    obtain ⟨g, cap', hv⟩ := owns_some hm.rowF (by simp)
    injection hv with hA _ _
    subst hA
    refine (alloc_raw lo b S.most S.c p s.turn _ s.stands s.has v w (rows S) fr' hrl (by rw [hrow]; rfl) hturn (by omega) hlo hr (fun w' hg => ?_)).mono ?_
    · have hmk := hm.kept hg
      have hcell : w'.cell? ⟨g, fr'.length, none⟩ = some (.int .i32 (p : Int)) := by
        have hr' := hmk.rowF
        simp only [List.length_append, List.length_cons, List.length_nil] at hr'
        rw [hr'.cellAt fr'.length (by omega)]
        simp [frVals]
      have hcap : fr'.length + 1 ≤ cap := by
        have hr' := hmk.rowF
        simp only [List.length_append, List.length_cons, List.length_nil] at hr'
        rcases hr'.2 with ⟨h', _⟩ | ⟨g', cap', cur, h', _, _, h3, _⟩
        · cases h'
        · injection h' with _ _ e3; omega
      refine (take_freed b g fr'.length p cap w' (by omega) (by omega) hcap hmk.freed4 (hmk.frozen 4) hcell).mono ?_
      rintro e w'' ⟨rfl, rfl⟩
      have := hmk.popF Ki_ok
      exact ⟨rfl, d, cp, vC, _, this.1, this.2⟩
    · rintro e w' ⟨rfl, d', cp', vC', vF', hM, hK⟩
      have e1 : S.alloc v = ({ S with L := S.L.set p ⟨s.turn + 1, true, v⟩, fr := fr' } : SI) := by
        unfold Slb.alloc; rw [hf, hfr]
        simp only [List.dropLast_concat]
        rw [show S.turn p = s.turn from htn]
      refine ⟨rfl, ⟨Nat.le_trans hlo hK.size, hgd.alloc v, d', cp', vC', vF', ?_⟩, hK⟩
      rw [e1]
      have e2 : rows ({ S with L := S.L.set p ⟨s.turn + 1, true, v⟩, fr := fr' } : SI) = (rows S).set p [.int .u32 ((s.turn + 1 : Nat) : Int), .bool true, .int .i64 v] := by
        unfold rows; rw [List.map_set]; rfl
      rw [e2]; exact hM
end
end Go.Proofs.Ytoopfoapkbjdkaa
