/-
  The walk of the law that nil chains have nothing.
-/
import Derived.Test.YtmjccpgkgkindaaAlive
namespace Go.Proofs.Ytmjccpgkgkindaa
open Go.ChangeShapes Go.WideShapes Go.ChangeAt Go.RowKit
set_option linter.unusedVariables false
set_option maxRecDepth 100000

set_option maxHeartbeats 4000000 in
theorem nil_walk (list n : Int) (w : World) : Calls Try.prog 6 #[.int .i64 list, .int .i32 n] w fun e w' => e = .returned (.bool true) ∧ w.grownBy w' none := by
  have t1 : ∀ w, Calls Try.prog 15 #[.pointer none, .int .i64 list, .int .i64 5] w (ToldPost w [] 5) := fun w => told_nil w list 5 (by decide)
  have t2 : ∀ w, Calls Try.prog 21 #[.pointer none, .int .i64 list, .int .i64 5] w (ToldPost w [] 5) := fun w => back_nil w list 5 (by decide)
  have T1 := Lib.hid t1
  have T2 := Lib.hid t2
  clear t1 t2
  go_enter Try.func6, Try.ntmps6
  go_wp2_with fail
  refine (first_nil list w).mono ?_
  unfold tnone
  rintro e w' ⟨rfl, rfl⟩
  go_wp2_with fail
  refine (last_nil list w).mono ?_
  unfold tnone
  rintro e w' ⟨rfl, rfl⟩
  go_wp2_with fail
  refine (next_nil n w).mono ?_
  unfold tnone
  rintro e w' ⟨rfl, rfl⟩
  go_wp2_with fail
  refine (prev_nil n w).mono ?_
  unfold tnone
  rintro e w' ⟨rfl, rfl⟩
  go_wp2_with fail
  refine (list_nil n w).mono ?_
  rintro e w' ⟨rfl, rfl⟩
  go_wp2_with fail
  refine (T1.out w).mono ?_
  rintro e w1 ⟨v1, rfl, hr1, hg1⟩
  obtain ⟨A1, cap1, rfl⟩ := owns_slice hr1
  simp only [List.take_nil, List.length_nil]
  have HG1 := Lib.hid hg1
  clear hr1 hg1
  go_wp2_with fail
  refine (T2.out w1).mono ?_
  rintro e w2 ⟨v2, rfl, hr2, hg2⟩
  obtain ⟨A2, cap2, rfl⟩ := owns_slice hr2
  simp only [List.take_nil, List.length_nil]
  have HG2 := Lib.hid (grown_trans HG1.out hg2)
  clear hr2 hg2 HG1
  go_wp2_with fail
  refine (ahead_no none list n 9 w2 (by decide) (may_nil list n w2)).mono ?_
  rintro e w' ⟨rfl, rfl⟩
  go_wp2_with fail
  refine (behind_no none list n 9 w2 (by decide) (may_nil list n w2)).mono ?_
  rintro e w' ⟨rfl, rfl⟩
  go_wp2_with fail
  refine (insert_nil n n w2).mono ?_
  rintro e w' ⟨rfl, rfl⟩
  go_wp2_with fail
  refine (remove_no none n w2 (stands_nil n w2)).mono ?_
  rintro e w' ⟨rfl, rfl⟩
  go_wp2_with fail
  refine (len_nil list w2).mono ?_
  rintro e w' ⟨rfl, rfl⟩
  go_wp2_with fail
  refine (alive_any w2).mono ?_
  rintro e w3 ⟨rfl, hg3⟩
  have HG3 := Lib.hid (grown_trans HG2.out hg3)
  clear hg3 HG2
  go_wp2
  go_ret
  exact ⟨rfl, HG3.out⟩
end Go.Proofs.Ytmjccpgkgkindaa
