/-
  The walk of the law that a nil dial has nothing.
-/
import Derived.Test.YtjligfgaahcogaaAlive
namespace Go.Proofs.Ytjligfgaahcogaa
open Go.ChangeShapes Go.WideShapes Go.ChangeAt Go.RowKit
set_option linter.unusedVariables false
set_option maxRecDepth 100000

set_option maxHeartbeats 4000000 in
theorem nil_walk (hand n : Int) (w : World) : Calls Try.prog 6 #[.int .i64 hand, .int .i32 n] w fun e w' => e = .returned (.bool true) ∧ w.grownBy w' none := by
  have t1 : ∀ w, Calls Try.prog 15 #[.pointer none, .int .i64 hand, .int .i64 5] w (ToldPost w [] 5) := fun w => told_nil w hand 5 (by decide)
  have T1 := Lib.hid t1
  clear t1
  go_enter Try.func6, Try.ntmps6
  go_wp2_with fail
  refine (at_nil hand w).mono ?_
  unfold tnone
  rintro e w' ⟨rfl, rfl⟩
  go_wp2_with fail
  refine (next_nil n w).mono ?_
  unfold tnone
  rintro e w' ⟨rfl, rfl⟩
  go_wp2_with fail
  refine (T1.out w).mono ?_
  rintro e w1 ⟨v1, rfl, hr1, hg1⟩
  obtain ⟨A1, cap1, rfl⟩ := owns_slice hr1
  simp only [List.take_nil, List.length_nil]
  have HG1 := Lib.hid hg1
  clear hr1 hg1
  go_wp2_with fail
  refine (insert_nil n hand w1).mono ?_
  rintro e w' ⟨rfl, rfl⟩
  go_wp2_with fail
  refine (set_nil hand n w1).mono ?_
  rintro e w' ⟨rfl, rfl⟩
  go_wp2_with fail
  refine (remove_no none n w1 (has_nil n w1)).mono ?_
  rintro e w' ⟨rfl, rfl⟩
  go_wp2_with fail
  refine (has_nil n w1).mono ?_
  rintro e w' ⟨rfl, rfl⟩
  go_wp2_with fail
  refine (step_nil hand w1).mono ?_
  rintro e w' ⟨rfl, rfl⟩
  go_wp2_with fail
  refine (len_nil w1).mono ?_
  rintro e w' ⟨rfl, rfl⟩
  go_wp2_with fail
  refine (gap_none none hand hand w1 (at_nil hand w1)).mono ?_
  rintro e w2 ⟨rfl, hg2⟩
  have HG2 := Lib.hid (grown_trans HG1.out hg2)
  clear hg2 HG1
  go_wp2_with fail
  refine (alive_any w2).mono ?_
  rintro e w3 ⟨rfl, hg3⟩
  have HG3 := Lib.hid (grown_trans HG2.out hg3)
  clear hg3 HG2
  go_wp2
  go_ret
  exact ⟨rfl, HG3.out⟩
end Go.Proofs.Ytjligfgaahcogaa
