/-
  Configs: Check, May, Policy, Room, Lost.
-/
import Derived.Test.YtdchmpbmaeoeoaaDoorCfg
import Derived.Below
import Derived.BigQuiet
import Derived.Deep.QuietTactic
namespace Go.Proofs.YtdchmpbmaeoeoaaDoor
open Go.RowKit
set_option linter.unusedVariables false
theorem nbl_ne {a b : ByteArray} (h : a ≠ b) : (a.toList == b.toList) = false := by
  rw [ByteArray.toList_eq, ByteArray.toList_eq, beq_eq_false_iff_ne]
  exact fun e => h (ByteArray.ext (Array.toList_inj.1 e))
theorem nbl_eq (a : ByteArray) : (a.toList == a.toList) = true := by simp
theorem alloc_below (w : World) (o : Obj) : Below w.heap.size w (w.alloc o) := (Below.refl _ _).alloc (Nat.le_refl _) _
theorem nm_none {p : Int} (h : ¬ (1 ≤ p ∧ p ≤ 4)) : nm p = [] := by
  rw [nm, if_neg (by omega), if_neg (by omega), if_neg (by omega), if_neg (by omega)]
theorem nm_some {p : Int} (h : 1 ≤ p ∧ p ≤ 4) : nm p ≠ [] := by
  have : p = 1 ∨ p = 2 ∨ p = 3 ∨ p = 4 := by omega
  rcases this with rfl | rfl | rfl | rfl <;> decide
theorem ns_none {p : Int} (h : ¬ (1 ≤ p ∧ p ≤ 4)) : ns p = ⟨#[]⟩ := by rw [ns, nm_none h]
theorem ns_some {p : Int} (h : 1 ≤ p ∧ p ≤ 4) : ns p ≠ ⟨#[]⟩ := fun e => nm_some h (ns_eq.1 e)
theorem pol_ne {l : List UInt8} (h : ∀ p : Int, 1 ≤ p → p ≤ 4 → nm p ≠ l) : pol l = 0 := by
  rw [pol, if_neg (fun e => h 1 (by omega) (by omega) e.symm), if_neg (fun e => h 2 (by omega) (by omega) e.symm), if_neg (fun e => h 3 (by omega) (by omega) e.symm), if_neg (fun e => h 4 (by omega) (by omega) e.symm)]
theorem pol_eq {p : Int} (h : 1 ≤ p ∧ p ≤ 4) : pol (nm p) = p := by
  have : p = 1 ∨ p = 2 ∨ p = 3 ∨ p = 4 := by omega
  rcases this with rfl | rfl | rfl | rfl <;> decide
theorem pol_range (l : List UInt8) : 0 ≤ pol l ∧ pol l ≤ 4 := by
  unfold pol; repeat' split
  all_goals omega
theorem pol_nm {l : List UInt8} (h : pol l ≠ 0) : nm (pol l) = l := by
  by_cases h1 : l = nm 1
  · rw [h1]; decide
  by_cases h2 : l = nm 2
  · rw [h2]; decide
  by_cases h3 : l = nm 3
  · rw [h3]; decide
  by_cases h4 : l = nm 4
  · rw [h4]; decide
  · exact absurd (by rw [pol, if_neg h1, if_neg h2, if_neg h3, if_neg h4]) h
theorem emp_ne {a : ByteArray} (h : a ≠ ⟨#[]⟩) : a.toList.isEmpty = false := by
  have := nbl_ne h
  simpa using this
set_option maxHeartbeats 400000 in
set_option maxRecDepth 100000 in
theorem check_at (p c q g : Int) (w : World) : Calls Tryd.prog 7 #[.agg #[.int .i64 p, .int .i64 c, .int .i64 q, .int .i64 g]] w fun e w' => e = .returned (.int .i64 (ck p c q g)) ∧ Below w.heap.size w w' := by
  obtain ⟨x, hx⟩ : ∃ x, x = ns p := ⟨_, rfl⟩
  have cn : ∀ W, Calls Tryd.prog 12 #[.int .i64 p] W fun e w' => e = .returned (.string x) ∧ w' = W := fun W => hx ▸ name_at p W
  by_cases hp : 1 ≤ p ∧ p ≤ 4
  · have hne := emp_ne (show x ≠ ⟨#[]⟩ by rw [hx]; exact ns_some hp)
    have hne2 : ¬ x.toList = [] := fun e => by rw [e] at hne; cases hne
    clear hx
    by_cases hc : 2 ≤ c ∧ c ≤ 256
    · have cc : ∀ W, Calls Tryd.prog 19 #[.int .i64 c, .int .i64 2, .int .i64 256] W fun e w' => e = .returned (.bool true) ∧ w' = W := fun W => decide_eq_true hc ▸ within_at c 2 256 W
      by_cases hq : 1 ≤ q ∧ q < c
      · have cq : ∀ W, Calls Tryd.prog 19 #[.int .i64 q, .int .i64 1, .int .i64 (c - 1)] W fun e w' => e = .returned (.bool true) ∧ w' = W := fun W => decide_eq_true (show 1 ≤ q ∧ q ≤ c - 1 by omega) ▸ within_at q 1 (c - 1) W
        by_cases hg : 0 ≤ g ∧ g ≤ 512
        · have cg : ∀ W, Calls Tryd.prog 19 #[.int .i64 g, .int .i64 0, .int .i64 512] W fun e w' => e = .returned (.bool true) ∧ w' = W := fun W => decide_eq_true hg ▸ within_at g 0 512 W
          rw [ck, if_pos ⟨hp, hc, hq, hg⟩]
          clear hp hq hg
          go_enter Tryd.func7, Tryd.ntmps7
          go_wp2_with (first | (with_reducible refine (cn _).mono ?_; rintro e w' ⟨rfl, rfl⟩) | (with_reducible refine (cc _).mono ?_; rintro e w' ⟨rfl, rfl⟩) | (with_reducible refine (cq _).mono ?_; rintro e w' ⟨rfl, rfl⟩) | (with_reducible refine (cg _).mono ?_; rintro e w' ⟨rfl, rfl⟩))
          go_ret
          exact ⟨rfl, alloc_below _ _⟩
        · have cg : ∀ W, Calls Tryd.prog 19 #[.int .i64 g, .int .i64 0, .int .i64 512] W fun e w' => e = .returned (.bool false) ∧ w' = W := fun W => decide_eq_false hg ▸ within_at g 0 512 W
          rw [ck, if_neg (fun h => hg h.2.2.2)]
          clear hp hq hg
          go_enter Tryd.func7, Tryd.ntmps7
          go_wp2_with (first | (with_reducible refine (cn _).mono ?_; rintro e w' ⟨rfl, rfl⟩) | (with_reducible refine (cc _).mono ?_; rintro e w' ⟨rfl, rfl⟩) | (with_reducible refine (cq _).mono ?_; rintro e w' ⟨rfl, rfl⟩) | (with_reducible refine (cg _).mono ?_; rintro e w' ⟨rfl, rfl⟩))
          go_ret
          exact ⟨rfl, alloc_below _ _⟩
      · have cq : ∀ W, Calls Tryd.prog 19 #[.int .i64 q, .int .i64 1, .int .i64 (c - 1)] W fun e w' => e = .returned (.bool false) ∧ w' = W := fun W => decide_eq_false (show ¬ (1 ≤ q ∧ q ≤ c - 1) by omega) ▸ within_at q 1 (c - 1) W
        rw [ck, if_neg (fun h => hq h.2.2.1)]
        clear hp hq
        go_enter Tryd.func7, Tryd.ntmps7
        go_wp2_with (first | (with_reducible refine (cn _).mono ?_; rintro e w' ⟨rfl, rfl⟩) | (with_reducible refine (cc _).mono ?_; rintro e w' ⟨rfl, rfl⟩) | (with_reducible refine (cq _).mono ?_; rintro e w' ⟨rfl, rfl⟩))
        go_ret
        exact ⟨rfl, alloc_below _ _⟩
    · have cc : ∀ W, Calls Tryd.prog 19 #[.int .i64 c, .int .i64 2, .int .i64 256] W fun e w' => e = .returned (.bool false) ∧ w' = W := fun W => decide_eq_false hc ▸ within_at c 2 256 W
      rw [ck, if_neg (fun h => hc h.2.1)]
      clear hp hc
      go_enter Tryd.func7, Tryd.ntmps7
      go_wp2_with (first | (with_reducible refine (cn _).mono ?_; rintro e w' ⟨rfl, rfl⟩) | (with_reducible refine (cc _).mono ?_; rintro e w' ⟨rfl, rfl⟩))
      go_ret
      exact ⟨rfl, alloc_below _ _⟩
  · rw [ns_none hp] at hx
    subst hx
    rw [ck, if_neg (fun h => hp h.1)]
    clear hp
    go_enter Tryd.func7, Tryd.ntmps7
    go_wp2_with (first | (with_reducible refine (cn _).mono ?_; rintro e w' ⟨rfl, rfl⟩))
    go_ret
    exact ⟨rfl, alloc_below _ _⟩
set_option maxHeartbeats 400000 in
set_option maxRecDepth 100000 in
theorem may_at (p c q g : Int) (w : World) : Calls Tryd.prog 9 #[.agg #[.int .i64 p, .int .i64 c, .int .i64 q, .int .i64 g]] w fun e w' => e = .returned (.bool (decide (Mb p c q g))) ∧ Below w.heap.size w w' := by
  by_cases hp1 : 1 ≤ p
  · by_cases hp2 : p ≤ 4
    · by_cases hc1 : 2 ≤ c
      · by_cases hc2 : c ≤ 256
        · by_cases hq1 : 1 ≤ q
          · by_cases hq2 : q < c
            · by_cases hg1 : 0 ≤ g
              · by_cases hg2 : g ≤ 512
                · rw [decide_eq_true (show Mb p c q g from ⟨⟨hp1, hp2⟩, ⟨hc1, hc2⟩, ⟨hq1, hq2⟩, ⟨hg1, hg2⟩⟩)]
                  go_enter Tryd.func9, Tryd.ntmps9
                  go_wp2
                  go_ret
                  exact ⟨rfl, alloc_below _ _⟩
                · rw [decide_eq_false (fun h : Mb p c q g => hg2 h.2.2.2.2)]
                  go_enter Tryd.func9, Tryd.ntmps9
                  go_wp2
                  go_ret
                  exact ⟨rfl, alloc_below _ _⟩
              · rw [decide_eq_false (fun h : Mb p c q g => hg1 h.2.2.2.1)]
                go_enter Tryd.func9, Tryd.ntmps9
                go_wp2
                go_ret
                exact ⟨rfl, alloc_below _ _⟩
            · rw [decide_eq_false (fun h : Mb p c q g => hq2 h.2.2.1.2)]
              go_enter Tryd.func9, Tryd.ntmps9
              go_wp2
              go_ret
              exact ⟨rfl, alloc_below _ _⟩
          · rw [decide_eq_false (fun h : Mb p c q g => hq1 h.2.2.1.1)]
            go_enter Tryd.func9, Tryd.ntmps9
            go_wp2
            go_ret
            exact ⟨rfl, alloc_below _ _⟩
        · rw [decide_eq_false (fun h : Mb p c q g => hc2 h.2.1.2)]
          go_enter Tryd.func9, Tryd.ntmps9
          go_wp2
          go_ret
          exact ⟨rfl, alloc_below _ _⟩
      · rw [decide_eq_false (fun h : Mb p c q g => hc1 h.2.1.1)]
        go_enter Tryd.func9, Tryd.ntmps9
        go_wp2
        go_ret
        exact ⟨rfl, alloc_below _ _⟩
    · rw [decide_eq_false (fun h : Mb p c q g => hp2 h.1.2)]
      go_enter Tryd.func9, Tryd.ntmps9
      go_wp2
      go_ret
      exact ⟨rfl, alloc_below _ _⟩
  · rw [decide_eq_false (fun h : Mb p c q g => hp1 h.1.1)]
    go_enter Tryd.func9, Tryd.ntmps9
    go_wp2
    go_ret
    exact ⟨rfl, alloc_below _ _⟩
end Go.Proofs.YtdchmpbmaeoeoaaDoor
