/-
  Slabs of texts and of structs from which nothing is freed.
-/
import Derived.Test.YtoopfoapkbjdkaaAllocS
import Derived.Test.YtoopfoapkbjdkaaAllocT
import Derived.Test.YtoopfoapkbjdkaaAlive
import Derived.Deep.Strs
namespace Go.Proofs.Ytoopfoapkbjdkaa
open Go.ChangeShapes Go.WideShapes Go.ChangeAt Go.RowKit
set_option linter.unusedVariables false

def rowS (x : ByteArray) : List Value := [.int .u32 1, .bool true, .string x]
def rowT (x : Int × Bool) : List Value := [.int .u32 1, .bool true, .int .i32 x.1, .bool x.2]
def ShS (w : World) (lo b : Nat) (l : List ByteArray) : Prop := lo ≤ w.heap.size ∧ ∃ d cp vC, Mem Ks w lo b 64 5 (l.map rowS) [] d cp vC (.slice none 0 0)
def ShT (w : World) (lo b : Nat) (l : List (Int × Bool)) : Prop := lo ≤ w.heap.size ∧ ∃ d cp vC, Mem Kt w lo b 64 5 (l.map rowT) [] d cp vC (.slice none 0 0)

section
variable {K K' : Kd} {w w' : World} {lo lo' b most c : Nat} {Lc : List (List Value)} {fr : List Nat} {d cp : Nat → Nat} {vC : Value}
/-- what only turns a slab of another kind leaves this one -/
theorem Mem.apart (h : Mem K w lo b most c Lc fr d cp vC (.slice none 0 0)) (hk : Keep K' lo' w w') (h1 : K'.own K.tS = false) (h2 : K'.own K.tC = false) (h3 : K'.own K.tP = false) : Mem K w' lo b most c Lc fr d cp vC (.slice none 0 0) := by
  refine h.stay ((hk.other h.head h1).trans h.head.symm) (fun k hkk => ?_) (fun j hj => ?_) (fun k hkk => by cases hkk)
  · have hs := (owns_type h.rowC hkk).2.choose_spec
    exact (hk.other hs h2).trans hs.symm
  · obtain ⟨_, cur, k2, _⟩ := h.chunk j hj
    exact (hk.other k2 h3).trans k2.symm
theorem mem_new (K : Kd) {lo most c : Nat} (hlo : lo ≤ w.heap.size) (h1 : 1 ≤ c) (h2 : c ≤ most) (h3 : most ≤ 65536) :
    Mem K (w.alloc (.cells #[.int .i64 (most : Int), .int .i64 (c : Int), .int .i64 0, .slice none 0 0, .slice none 0 0] K.tS)) lo w.heap.size most c [] [] (fun _ => 0) (fun _ => 0) (.slice none 0 0) (.slice none 0 0) := by
  have hn : nch c 0 = 0 := by
    refine Nat.eq_zero_of_not_pos fun h => ?_
    rw [nch_lt h1] at h; omega
  refine ⟨h1, h2, h3, by simp, by simp, by simp, hlo, ?_, ?_, ?_, ?_, ?_⟩
  · exact heap_alloc_new w _
  · simp only [List.length_nil, hn]
    exact World.ownsRow_nil _ _ _ _
  · intro j hj; simp only [List.length_nil, hn] at hj; omega
  · intro i j hi; simp only [List.length_nil, hn] at hi; omega
  · exact World.ownsRow_nil _ _ _ _
end
section
variable {w w' : World} {lo b : Nat} {l : List ByteArray} {m : List (Int × Bool)}
theorem ShS.kept (h : ShS w lo b l) (hg : w.grownBy w' none) : ShS w' lo b l := by
  obtain ⟨h1, d, cp, vC, hm⟩ := h
  exact ⟨Nat.le_trans h1 hg.size, d, cp, vC, hm.kept hg⟩
theorem ShT.kept (h : ShT w lo b m) (hg : w.grownBy w' none) : ShT w' lo b m := by
  obtain ⟨h1, d, cp, vC, hm⟩ := h
  exact ⟨Nat.le_trans h1 hg.size, d, cp, vC, hm.kept hg⟩
theorem ShS.apart (h : ShS w lo b l) {lo' : Nat} (hk : Keep Kt lo' w w') : ShS w' lo b l := by
  obtain ⟨h1, d, cp, vC, hm⟩ := h
  exact ⟨Nat.le_trans h1 hk.size, d, cp, vC, hm.apart hk (by decide) (by decide) (by decide)⟩
theorem ShT.apart (h : ShT w lo b m) {lo' : Nat} (hk : Keep Ks lo' w w') : ShT w' lo b m := by
  obtain ⟨h1, d, cp, vC, hm⟩ := h
  exact ⟨Nat.le_trans h1 hk.size, d, cp, vC, hm.apart hk (by decide) (by decide) (by decide)⟩
theorem newS_is {lo : Nat} (hlo : lo ≤ w.heap.size) : Calls Try.prog 18 #[.int .i64 64, .int .i64 5] w fun e w' => e = .returned (.tuple #[.pointer (some ⟨w.heap.size, 0, none⟩), .int .i64 0]) ∧ ShS w' lo w.heap.size [] ∧ w.grownBy w' none := by
  refine (new_yesS 64 5 w (by decide) (by decide) (by decide)).mono ?_
  rintro e w' ⟨rfl, rfl⟩
  exact ⟨rfl, ⟨by simp; omega, _, _, _, mem_new Ks hlo (by decide) (by decide) (by decide)⟩, World.grownBy_alloc _ _ none⟩
theorem newT_is {lo : Nat} (hlo : lo ≤ w.heap.size) : Calls Try.prog 19 #[.int .i64 64, .int .i64 5] w fun e w' => e = .returned (.tuple #[.pointer (some ⟨w.heap.size, 0, none⟩), .int .i64 0]) ∧ ShT w' lo w.heap.size [] ∧ w.grownBy w' none := by
  refine (new_yesT 64 5 w (by decide) (by decide) (by decide)).mono ?_
  rintro e w' ⟨rfl, rfl⟩
  exact ⟨rfl, ⟨by simp; omega, _, _, _, mem_new Kt hlo (by decide) (by decide) (by decide)⟩, World.grownBy_alloc _ _ none⟩
theorem lenS_is (h : ShS w lo b l) : Calls Try.prog 24 #[.pointer (some ⟨b, 0, none⟩)] w fun e w' => e = .returned (.int .i64 (l.length : Int)) ∧ ∃ q, w' = w.drewN q := by
  obtain ⟨_, d, cp, vC, hm⟩ := h
  have hl := hm.len
  have ht := hm.taken2
  rw [List.length_map] at hl ht
  have := len_rawS b l.length 0 0 none w (by omega) (by omega) ht hm.freed4
  rwa [Nat.sub_zero] at this
theorem lenT_is (h : ShT w lo b m) : Calls Try.prog 25 #[.pointer (some ⟨b, 0, none⟩)] w fun e w' => e = .returned (.int .i64 (m.length : Int)) ∧ ∃ q, w' = w.drewN q := by
  obtain ⟨_, d, cp, vC, hm⟩ := h
  have hl := hm.len
  have ht := hm.taken2
  rw [List.length_map] at hl ht
  have := len_rawT b m.length 0 0 none w (by omega) (by omega) ht hm.freed4
  rwa [Nat.sub_zero] at this
theorem allocS_is (h : ShS w lo b l) (x : ByteArray) (hl : l.length < 64) : Calls Try.prog 20 #[.pointer (some ⟨b, 0, none⟩), .string x] w fun e w' => e = .returned (.tuple #[.agg #[.int .i32 (l.length : Int), .int .u32 1], .int .i64 0]) ∧ ShS w' lo b (l ++ [x]) ∧ Keep Ks lo w w' := by
  obtain ⟨hlo, d, cp, vC, hm⟩ := h
  have hlm : (l.map rowS).length = l.length := List.length_map ..
  refine (alloc_rawS lo b 64 5 l.length 0 (64 - (l.length - 0)) false ⟨#[]⟩ x w (l.map rowS ++ [zero3S]) [] (.slice none 0 0) (by simp) ?_ (by decide) (by omega) hlo (fun w' hg => ?_) (fun w' hg => ?_)).mono ?_
  · rw [List.getD_eq_getElem?_getD, List.getElem?_append_right (by rw [hlm]; exact Nat.le_refl _), hlm, Nat.sub_self]; rfl
  · have hmk := hm.kept hg
    exact room_rawS b 64 l.length 0 0 none w' (by omega) (by omega) (by decide) hmk.most0 (by have := hmk.taken2; rwa [hlm] at this) hmk.freed4
  · have hlo' : lo ≤ w'.heap.size := Nat.le_trans hlo hg.size
    have ht : Calls Try.prog 40 #[.pointer (some ⟨b, 0, none⟩)] w' (TakePostS w' lo b 64 5 (l.map rowS) (.slice none 0 0)) := by
      by_cases hmod : (l.map rowS).length % 5 = 0
      · exact take_newS (hm.kept hg) (by omega) hmod hlo'
      · exact take_partS (hm.kept hg) (by omega) hmod hlo'
    refine ht.mono ?_
    rintro e w'' ⟨rfl, d', cp', vC', hM, hK⟩
    exact ⟨by rw [hlm], d', cp', vC', hM, hK⟩
  · rintro e w' ⟨rfl, d', cp', vC', hM, hK⟩
    refine ⟨rfl, ⟨Nat.le_trans hlo hK.size, d', cp', vC', ?_⟩, hK⟩
    have e2 : (l ++ [x]).map rowS = (l.map rowS ++ [zero3S]).set l.length [.int .u32 ((0 + 1 : Nat) : Int), .bool true, .string x] := by
      rw [List.map_append, List.set_append_right _ _ (by simp)]
      simp [zero3S, rowS]
    rw [e2]; exact hM
theorem allocT_is (h : ShT w lo b m) (a : Int) (f : Bool) (hl : m.length < 64) : Calls Try.prog 21 #[.pointer (some ⟨b, 0, none⟩), .agg #[.int .i32 a, .bool f]] w fun e w' => e = .returned (.tuple #[.agg #[.int .i32 (m.length : Int), .int .u32 1], .int .i64 0]) ∧ ShT w' lo b (m ++ [(a, f)]) ∧ Keep Kt lo w w' := by
  obtain ⟨hlo, d, cp, vC, hm⟩ := h
  have hlm : (m.map rowT).length = m.length := List.length_map ..
  refine (alloc_rawT lo b 64 5 m.length 0 (64 - (m.length - 0)) false 0 a false f w (m.map rowT ++ [zero3T]) [] (.slice none 0 0) (by simp) ?_ (by decide) (by omega) hlo (fun w' hg => ?_) (fun w' hg => ?_)).mono ?_
  · rw [List.getD_eq_getElem?_getD, List.getElem?_append_right (by rw [hlm]; exact Nat.le_refl _), hlm, Nat.sub_self]; rfl
  · have hmk := hm.kept hg
    exact room_rawT b 64 m.length 0 0 none w' (by omega) (by omega) (by decide) hmk.most0 (by have := hmk.taken2; rwa [hlm] at this) hmk.freed4
  · have hlo' : lo ≤ w'.heap.size := Nat.le_trans hlo hg.size
    have ht : Calls Try.prog 43 #[.pointer (some ⟨b, 0, none⟩)] w' (TakePostT w' lo b 64 5 (m.map rowT) (.slice none 0 0)) := by
      by_cases hmod : (m.map rowT).length % 5 = 0
      · exact take_newT (hm.kept hg) (by omega) hmod hlo'
      · exact take_partT (hm.kept hg) (by omega) hmod hlo'
    refine ht.mono ?_
    rintro e w'' ⟨rfl, d', cp', vC', hM, hK⟩
    exact ⟨by rw [hlm], d', cp', vC', hM, hK⟩
  · rintro e w' ⟨rfl, d', cp', vC', hM, hK⟩
    refine ⟨rfl, ⟨Nat.le_trans hlo hK.size, d', cp', vC', ?_⟩, hK⟩
    have e2 : (m ++ [(a, f)]).map rowT = (m.map rowT ++ [zero3T]).set m.length [.int .u32 ((0 + 1 : Nat) : Int), .bool true, .int .i32 a, .bool f] := by
      rw [List.map_append, List.set_append_right _ _ (by simp)]
      simp [zero3T, rowT]
    rw [e2]; exact hM
theorem getS_is (h : ShS w lo b l) {i : Nat} {x : ByteArray} (hi : l[i]? = some x) : Calls Try.prog 22 #[.pointer (some ⟨b, 0, none⟩), .agg #[.int .i32 (i : Int), .int .u32 1]] w fun e w' => e = .returned (.tuple #[.string x, .int .i64 0]) ∧ w.grownBy w' none := by
  obtain ⟨hlo, d, cp, vC, hm⟩ := h
  have hil : i < (l.map rowS).length := by rw [List.length_map]; exact (List.getElem?_eq_some_iff.1 hi).1
  have hrow : (l.map rowS).getD i [] = rowS x := by rw [List.getD_eq_getElem?_getD, List.getElem?_map, hi]; rfl
  have c0 := fun w' (hg : w.grownBy w' none) => (hm.kept hg).spotCell (t := 0) hil (by decide)
  have c1 := fun w' (hg : w.grownBy w' none) => (hm.kept hg).spotCell (t := 1) hil (by decide)
  have c2 := hm.spotCell (t := 2) hil (by decide)
  rw [hrow] at c0 c1 c2
  refine get_yesS _ (d (i / 5)) (i % 5 * 3) (i : Int) 1 x w (fun w' hg => ?_) c2
  refine find_yesS _ ⟨d (i / 5), i % 5 * 3, none⟩ (i : Int) 1 w' (fun w2 hg2 => ?_) (fun w2 hg2 => ?_)
  · exact at_yesS b (d (i / 5)) (i % 5 * 3) (i : Int) 1 w2 (fun w3 hg3 => spot_atS (hm.kept (grown_trans (grown_trans hg hg2) hg3)) hil) (c0 w2 (grown_trans hg hg2)) (c1 w2 (grown_trans hg hg2))
  · exact spot_atS (hm.kept (grown_trans hg hg2)) hil
theorem getT_is (h : ShT w lo b m) {i : Nat} {a : Int} {f : Bool} (hi : m[i]? = some (a, f)) : Calls Try.prog 23 #[.pointer (some ⟨b, 0, none⟩), .agg #[.int .i32 (i : Int), .int .u32 1]] w fun e w' => e = .returned (.tuple #[.agg #[.int .i32 a, .bool f], .int .i64 0]) ∧ w.grownBy w' none := by
  obtain ⟨hlo, d, cp, vC, hm⟩ := h
  have hil : i < (m.map rowT).length := by rw [List.length_map]; exact (List.getElem?_eq_some_iff.1 hi).1
  have hrow : (m.map rowT).getD i [] = rowT (a, f) := by rw [List.getD_eq_getElem?_getD, List.getElem?_map, hi]; rfl
  have c0 := fun w' (hg : w.grownBy w' none) => (hm.kept hg).spotCell (t := 0) hil (by decide)
  have c1 := fun w' (hg : w.grownBy w' none) => (hm.kept hg).spotCell (t := 1) hil (by decide)
  have c2 := hm.spotCell (t := 2) hil (by decide)
  have c3 := hm.spotCell (t := 3) hil (by decide)
  rw [hrow] at c0 c1 c2 c3
  refine get_yesT _ (d (i / 5)) (i % 5 * 4) (i : Int) 1 a f w (fun w' hg => ?_) c2 c3
  refine find_yesT _ ⟨d (i / 5), i % 5 * 4, none⟩ (i : Int) 1 w' (fun w2 hg2 => ?_) (fun w2 hg2 => ?_)
  · exact at_yesT b (d (i / 5)) (i % 5 * 4) (i : Int) 1 w2 (fun w3 hg3 => spot_atT (hm.kept (grown_trans (grown_trans hg hg2) hg3)) hil) (c0 w2 (grown_trans hg hg2)) (c1 w2 (grown_trans hg hg2))
  · exact spot_atT (hm.kept (grown_trans hg hg2)) hil
end

/-! ### texts that came in -/
def StrsAt (w : World) (A : Option Addr) (l : List ByteArray) : Prop :=
  l = [] ∨ ∃ b off, A = some ⟨b, off, none⟩ ∧ b < w.heap.size ∧ ∀ i x, l[i]? = some x → w.cell? ⟨b, off + i, none⟩ = some (.string x)
theorem StrsAt.kept {w w' : World} {A : Option Addr} {l : List ByteArray} (h : StrsAt w A l) (hg : w.grownBy w' none) : StrsAt w' A l := by
  rcases h with h | ⟨b, off, rfl, hlt, hc⟩
  · exact .inl h
  · exact .inr ⟨b, off, rfl, Nat.lt_of_lt_of_le hlt hg.size, fun i a hi => hg.cell (hc i a hi) (by simp)⟩
theorem StrsAt.some {w : World} {A : Option Addr} {l : List ByteArray} (h : StrsAt w A l) {i : Nat} {x : ByteArray} (hi : l[i]? = some x) :
    ∃ b off, A = some ⟨b, off, none⟩ ∧ b < w.heap.size ∧ w.cell? ⟨b, off + i, none⟩ = some (.string x) := by
  rcases h with rfl | ⟨b, off, rfl, hlt, hc⟩
  · simp at hi
  · exact ⟨b, off, rfl, hlt, hc i x hi⟩
end Go.Proofs.Ytoopfoapkbjdkaa
