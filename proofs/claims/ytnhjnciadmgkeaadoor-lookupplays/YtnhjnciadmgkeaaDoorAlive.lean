/-
  The document's example; a nil table.
-/
import Derived.Test.YtnhjnciadmgkeaaDoorDrop
namespace Go.Proofs.YtnhjnciadmgkeaaDoor
open Go.ChangeShapes Go.WideShapes Go.ChangeAt Go.RowKit
set_option linter.unusedVariables false

section
variable {w w' : World} {lo b : Nat} {T T' : Tb}
theorem IsT.kept (h : IsT w lo b T) (hg : w.grownBy w' none) : IsT w' lo b T := by
  obtain ⟨⟨gN, gO, h1⟩, h2⟩ := h
  exact ⟨⟨gN, gO, h1.kept hg⟩, h2⟩
theorem findT_is (h : IsT w lo b T) (key : Int) (hk : Wd key) (ht : Tab w) :
    Calls Tryd.prog 16 #[.pointer (some ⟨b, 0, none⟩), .int .u64 key] w fun e w' => e = .returned (tupO (T.look key)) ∧ w = w' := by
  obtain ⟨⟨gN, gO, h1⟩, h2⟩ := h
  exact findT_at h1 key hk ht
theorem len_is (h : IsT w lo b T) : Calls Tryd.prog 14 #[.pointer (some ⟨b, 0, none⟩)] w fun e w' => e = .returned (.int .i64 (T.cnt : Int)) ∧ w = w' := by
  obtain ⟨⟨gN, gO, h1⟩, h2⟩ := h
  exact len_at h1
theorem slots_is (h : IsT w lo b T) : Calls Tryd.prog 18 #[.pointer (some ⟨b, 0, none⟩)] w fun e w' => e = .returned (.int .i64 ((2 ^ T.k : Nat) : Int)) ∧ w = w' := by
  obtain ⟨⟨gN, gO, h1⟩, h2⟩ := h
  exact slots_at h1
theorem moves_is (h : IsT w lo b T) : Calls Tryd.prog 17 #[.pointer (some ⟨b, 0, none⟩)] w fun e w' => e = .returned (.int .u64 (T.mv : Int)) ∧ w = w' := by
  obtain ⟨⟨gN, gO, h1⟩, h2⟩ := h
  exact moves_at h1
theorem Tab.kept (h : Tab w) (hg : w.grownBy w' none) : Tab w' := h.but (X := fun _ => False) (But.of_new hg) (fun h => h)
theorem Tab.size (h : Tab w) : 1 < w.heap.size := block_lt_of_cell (h 0 (by decide))
end
/-- how the example stands ahead of the i-th Put -/
structure AL (i : Nat) (T : Tb) : Prop where
  cnt : T.cnt + 1 = i
  look : ∀ k2, Wd k2 → T.look k2 = if 1 ≤ k2 ∧ k2 < (i : Int) then some k2 else none
  k : T.k = if i ≤ 5 then 3 else 4
  mv : T.mv ≤ if i ≤ 5 then 0 else 4
  o : i ≤ 5 → T.o = none
theorem AL.step {i : Nat} {T T' : Tb} (h : AL i T) (h1 : 1 ≤ i) (hi : i ≤ 5) (hp : PutRel T (i : Int) (i : Int) T') : (T.look (i : Int)).isSome = false ∧ AL (i + 1) T' := by
  have hl : T.look (i : Int) = none := by rw [h.look _ ⟨by omega, by omega⟩, if_neg (by omega)]
  have hs : (T.look (i : Int)).isSome = false := by rw [hl]; rfl
  have hk := hp.k
  have hc := hp.cnt
  have hm := hp.mv4
  have hn := hp.non (h.o hi)
  have hTk := h.k
  have hTm := h.mv
  have hTc := h.cnt
  rw [hs] at hk hc
  rw [if_pos hi] at hTk hTm
  simp only [Bool.false_eq_true, if_false] at hk hc
  rw [hTk] at hk
  refine ⟨hs, by omega, fun k2 hk2 => ?_, ?_, ?_, fun h5 => ?_⟩
  · rw [hp.look k2 hk2, h.look k2 hk2]
    by_cases e1 : k2 = (i : Int)
    · rw [if_pos e1, if_pos (by omega), e1]
    · rw [if_neg e1]
      by_cases e2 : 1 ≤ k2 ∧ k2 < (i : Int)
      · rw [if_pos e2, if_pos (by omega)]
      · rw [if_neg e2, if_neg (by omega)]
  · by_cases h5 : i + 1 ≤ 5
    · rw [if_pos h5, hk, if_neg (by omega)]
    · rw [if_neg h5, hk, if_pos (by omega)]
  · by_cases h5 : i + 1 ≤ 5
    · rw [if_pos h5]
      have := (hn (by rw [hTk, hk, if_neg (by omega)])).1
      omega
    · rw [if_neg h5]; omega
  · exact (hn (by rw [hTk, hk, if_neg (by omega)])).2
set_option maxHeartbeats 1000000 in
theorem alive_any (w : World) (ht : Tab w) : Calls Tryd.prog 6 #[] w fun e w' => e = .returned (.bool true) ∧ w.grownBy w' none := by
  have HNEW := Lib.hid (new_is w)
  have HT := Lib.hid ht
  clear ht
  go_enter Tryd.func6, Tryd.ntmps6
  go_wp2_with fail
  refine HNEW.out.mono ?_
  rintro r w1 ⟨rfl, hs, hg⟩
  have HL0 : Hid (IsT w1 w.heap.size (w.heap.size + 1) Tb.new ∧ AL 1 Tb.new ∧ w.grownBy w1 none) := Lib.hid ⟨hs, ⟨rfl, fun k2 _ => by rw [new_look, if_neg (by omega)], rfl, Nat.le_refl _, fun _ => rfl⟩, hg⟩
  clear hs hg HNEW
  go_wp2_with fail
  go_loopg [2] 6 (fun m v wr => ∃ (i : Nat) (T : Tb), v = .int .i64 (i : Int) ∧ 1 ≤ i ∧ i ≤ 6 ∧ m + i = 7 ∧ Hid (IsT wr w.heap.size (w.heap.size + 1) T ∧ AL i T ∧ w.grownBy wr none))
  case atStart => exact ⟨1, Tb.new, by go_num, by omega, by omega, by omega, HL0⟩
  case round =>
    obtain ⟨i, T, rfl, h1, h6, hm, HL⟩ := hrel
    clear HL0
    by_cases h5 : i ≤ 5
    · have e1 : IntKind.u64.wrap (i : Int) = (i : Int) := by rw [IntKind.wrap_u64]; omega
      have e2 : IntKind.i32.wrap (i : Int) = (i : Int) := by rw [IntKind.wrap_i32]; omega
      have hc := HL.out.2.1.cnt
      have hmv : T.mv ≤ 4 := by have := HL.out.2.1.mv; split at this <;> omega
      have hput := put_is HL.out.1 (i : Int) (i : Int) ⟨by omega, by omega⟩ ⟨by omega, by omega⟩ (HT.out.kept HL.out.2.2) HT.out.size (by omega) (by omega)
      have HP := Lib.hid hput
      clear hput hc hmv
      go_wp2_with fail
      refine HP.out.mono ?_
      rintro r w2 ⟨rfl, T', g1, g2, g3⟩
      obtain ⟨hs, hal⟩ := HL.out.2.1.step h1 h5 g2
      rw [hs]
      have HL2 : Hid (IsT w2 w.heap.size (w.heap.size + 1) T' ∧ AL (i + 1) T' ∧ w.grownBy w2 none) := Lib.hid ⟨g1, hal, g3.grown HL.out.2.2 (Nat.le_refl _)⟩
      clear g1 g2 g3 hs hal HP HL e1 e2
      simp only [Bool.not_false]
      go_wp2_with fail
      go_roundg (gk - 1)
      case measure => omega
      case rel => exact ⟨i + 1, T', by go_num, by omega, by omega, by omega, HL2⟩
    · obtain rfl : i = 6 := by omega
      have hAL := HL.out.2.1
      have l3 : T.look 3 = some 3 := by rw [hAL.look 3 ⟨by omega, by omega⟩, if_pos (by omega)]
      have c1 := findT_is HL.out.1 3 ⟨by omega, by omega⟩ (HT.out.kept HL.out.2.2)
      rw [l3] at c1
      have c2 := len_is HL.out.1
      rw [show T.cnt = 5 by have := hAL.cnt; omega] at c2
      have c3 := slots_is HL.out.1
      rw [show T.k = 4 by rw [hAL.k]; rfl] at c3
      have c4 := moves_is HL.out.1
      have hmv : T.mv ≤ 4 := by have := hAL.mv; simpa using this
      have HG := Lib.hid HL.out.2.2
      have H1 := Lib.hid c1
      have H2 := Lib.hid c2
      have H3 := Lib.hid c3
      have H4 := Lib.hid c4
      clear hAL l3 c1 c2 c3 c4 HL
      generalize T.mv = mv at *
      go_wp2_with fail
      refine H1.out.mono ?_
      unfold tupO
      rintro r w2 ⟨rfl, rfl⟩
      go_wp2_with fail
      refine H2.out.mono ?_
      rintro r w2 ⟨rfl, rfl⟩
      go_wp2_with fail
      refine H3.out.mono ?_
      rintro r w2 ⟨rfl, rfl⟩
      go_wp2_with fail
      refine H4.out.mono ?_
      rintro r w2 ⟨rfl, rfl⟩
      have hb : decide ((mv : Int) ≤ 4) = true := by simp; omega
      go_wp2
      go_ret
      exact ⟨rfl, HG.out⟩
set_option maxHeartbeats 1000000 in
theorem lookupNil_walk (key node : Int) (w : World) (ht : Tab w) : Calls Tryd.prog 5 #[.int .u64 key, .int .i32 node] w fun e w' => e = .returned (.bool true) ∧ w.grownBy w' none := by
  have c1 := find_nil key w
  unfold tnone at c1
  have H1 := Lib.hid c1
  have H2 := Lib.hid (put_nil key node w)
  have H3 := Lib.hid (drop_nil key w)
  have H4 := Lib.hid (len_nil w)
  have H5 := Lib.hid (slots_nil w)
  have H6 := Lib.hid (keys_nil w)
  have H7 := Lib.hid (moves_nil w)
  have H8 := Lib.hid (alive_any w ht)
  clear c1 ht
  go_enter Tryd.func5, Tryd.ntmps5
  go_wp2_with fail
  refine H1.out.mono ?_
  rintro r w2 ⟨rfl, rfl⟩
  go_wp2_with fail
  refine H2.out.mono ?_
  rintro r w2 ⟨rfl, rfl⟩
  go_wp2_with fail
  refine H3.out.mono ?_
  rintro r w2 ⟨rfl, rfl⟩
  go_wp2_with fail
  refine H4.out.mono ?_
  rintro r w2 ⟨rfl, rfl⟩
  go_wp2_with fail
  refine H5.out.mono ?_
  rintro r w2 ⟨rfl, rfl⟩
  go_wp2_with fail
  refine H6.out.mono ?_
  rintro r w2 ⟨rfl, rfl⟩
  go_wp2_with fail
  refine H7.out.mono ?_
  rintro r w2 ⟨rfl, rfl⟩
  go_wp2_with fail
  refine H8.out.mono ?_
  rintro r w2 ⟨rfl, hg⟩
  have HG := Lib.hid hg
  clear hg
  go_wp2
  go_ret
  exact ⟨rfl, HG.out⟩
end Go.Proofs.YtnhjnciadmgkeaaDoor
