/-
  The walk of the law that a nil queue has nothing.
-/
import Derived.Test.YtcphbendmnmpiaaTold
namespace Go.Proofs.Ytcphbendmnmpiaa
open Go.ChangeShapes Go.WideShapes Go.ChangeAt Go.RowKit
set_option linter.unusedVariables false
set_option maxRecDepth 100000

set_option maxHeartbeats 4000000 in
theorem nil_walk (v i : Int) (w : World) : Calls Try.prog 7 #[.int .i64 v, .int .i64 i] w fun e w' => e = .returned (.bool true) ∧ w.grownBy w' none := by
  have t1 : ∀ w, Calls Try.prog 13 #[.pointer none, .int .i64 5] w (ToldPost w [] 5) := fun w => told_at w none 5 [] (by decide) (by decide) (tells_nil w)
  have T1 := Lib.hid t1
  clear t1
  go_enter Try.func7, Try.ntmps7
  go_wp2_with fail
  refine (push_nil v w).mono ?_
  unfold z0
  rintro e w1 ⟨rfl, hg⟩
  have HG1 := Lib.hid hg
  clear hg
  go_wp2_with fail
  refine (pop_nil w1).mono ?_
  rintro e w2 ⟨rfl, hg⟩
  have HG2 := Lib.hid (grown_trans HG1.out hg)
  clear hg HG1
  go_wp2_with fail
  refine (at_nil i w2).mono ?_
  rintro e w3 ⟨rfl, hg⟩
  have HG3 := Lib.hid (grown_trans HG2.out hg)
  clear hg HG2
  go_wp2_with fail
  refine (T1.out w3).mono ?_
  rintro e w4 ⟨v1, rfl, hr1, hg⟩
  obtain ⟨A1, cap1, rfl⟩ := owns_slice hr1
  simp only [List.take_nil, List.length_nil]
  have HG4 := Lib.hid (grown_trans HG3.out hg)
  clear hr1 hg HG3
  go_wp2_with fail
  refine (len_nil w4).mono ?_
  rintro e w' ⟨rfl, rfl⟩
  go_wp2_with fail
  refine (total_nil w4).mono ?_
  rintro e w' ⟨rfl, rfl⟩
  go_wp2_with fail
  refine (alive_any w4).mono ?_
  rintro e w5 ⟨rfl, hg⟩
  have HG5 := Lib.hid (grown_trans HG4.out hg)
  clear hg HG4
  go_wp2_with fail
  go_ret
  exact ⟨rfl, HG5.out⟩
end Go.Proofs.Ytcphbendmnmpiaa
