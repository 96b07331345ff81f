/-
  The walk of the law that a nil set has nothing.
-/
import Derived.Test.YtjdapbianbikpaaDoorTold
namespace Go.Proofs.YtjdapbianbikpaaDoor
open Go.ChangeShapes Go.WideShapes Go.ChangeAt Go.RowKit
set_option linter.unusedVariables false

theorem told_nil (w : World) (most : Nat) (h0 : 0 < w.heap.size) (hm : most ≤ 1000000) : Calls Tryd.prog 19 #[.pointer none, .int .i64 (most : Int)] w (ToldPost w [] most) :=
  told_at w none most [] h0 hm fun w' hg hc => all_seq_nil _ _ w' hc
theorem told_set (w : World) (b g N most : Nat) (m : Nat → Bool) (hs : IsSet w b g N m) (ht : Tab w) (h0 : 0 < w.heap.size) (hm : most ≤ 1000000) :
    Calls Tryd.prog 19 #[.pointer (some ⟨b, 0, none⟩), .int .i64 (most : Int)] w (ToldPost w (els m N) most) :=
  told_at w _ most _ h0 hm fun w' hg hc => all_seq _ _ b g N m w' h0 hc (hs.kept hg (by simp) (by simp)) (ht.kept hg (by simp))

set_option maxHeartbeats 1000000 in
theorem nil_walk (i : Int) (w : World) (ht : Tab w) (h0 : 0 < w.heap.size) :
    Calls Tryd.prog 6 #[.int .i64 i] w fun e w' => e = .returned (.bool true) ∧ w.grownBy w' none := by
  have Ht := Lib.hid ht
  clear ht
  go_enter Tryd.func6, Tryd.ntmps6
  go_wp2_with fail
  refine (next_nil i _).mono ?_
  rintro e w' ⟨rfl, rfl⟩
  go_wp2_with fail
  refine (pick_no none i _ (.inl rfl)).mono ?_
  rintro e w' ⟨rfl, rfl⟩
  go_wp2_with fail
  refine (told_nil w 9 h0 (by decide)).mono ?_
  rintro e w1 ⟨v, rfl, hown, hg1⟩
  obtain ⟨A, cap, rfl⟩ : ∃ A cap, v = .slice A 0 cap := by
    rcases hown.2 with ⟨rfl, h⟩ | ⟨g, cap, cur, rfl, _⟩
    · exact ⟨none, 0, rfl⟩
    · exact ⟨_, _, rfl⟩
  have HG1 := Lib.hid hg1
  have h1 : 0 < w1.heap.size := by have := hg1.size; omega
  clear hg1 hown
  go_wp2_with fail
  refine (put_nil i _).mono ?_
  rintro e w' ⟨rfl, q1, rfl⟩
  go_wp2_with fail
  refine (drop_nil i _).mono ?_
  rintro e w' ⟨rfl, q2, rfl⟩
  go_wp2_with fail
  refine (has_nil i _).mono ?_
  rintro e w' ⟨rfl, q3, rfl⟩
  go_wp2_with fail
  refine (count_nil _).mono ?_
  rintro e w' ⟨rfl, rfl⟩
  go_wp2_with fail
  refine (rank_nil i _).mono ?_
  rintro e w' ⟨rfl, rfl⟩
  go_wp2_with fail
  refine (width_nil _).mono ?_
  rintro e w' ⟨rfl, rfl⟩
  go_wp2_with fail
  refine (copy_nil _).mono ?_
  rintro e w' ⟨rfl, rfl⟩
  go_wp2_with fail
  refine (alive_any _ ((Ht.out.kept HG1.out (by simp)).kept (grown_drewN _ _ none) (by simp)) (by exact h1)).mono ?_
  rintro e w6 ⟨rfl, hg6⟩
  have HG6 := Lib.hid hg6
  clear hg6
  go_wp2
  go_ret
  exact ⟨rfl, grown_trans (grown_trans HG1.out (grown_drewN _ _ none)) HG6.out⟩
theorem marksNil_law (a0 : Int) (w : World) (w0 : (Lit.int .i64 a0).wf = true) (ht : Tab w) (h0 : 0 < w.heap.size) :
    Calls Tryd.prog 6 #[.int .i64 a0] w fun e w' => e = .returned (.bool true) ∧ Below w.heap.size w w' :=
  (nil_walk a0 w ht h0).mono fun _ _ ⟨he, hg⟩ => ⟨he, grown_below hg (Nat.le_refl _) (by simp)⟩
end Go.Proofs.YtjdapbianbikpaaDoor
