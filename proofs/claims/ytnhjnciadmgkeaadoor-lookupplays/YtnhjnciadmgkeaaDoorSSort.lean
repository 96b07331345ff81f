/-
  The library's sort of numbers of 64 bits: what it comes to.
-/
import Derived.Test.YtnhjnciadmgkeaaDoorSPdq
namespace Go.Proofs.YtnhjnciadmgkeaaDoor
open Go.ChangeShapes Go.WideShapes Go.ChangeAt Go.RowKit
set_option linter.unusedVariables false
theorem sorts_all {g n cap : Nat} (hn : n < 65536) : ∀ M, Sorts g n cap M
  | 0 => fun w d a b lim h => absurd h (Nat.not_lt_zero _)
  | M + 1 => pdq_step hn M (sorts_all hn M)
set_option maxHeartbeats 1000000 in
theorem sort_at {w : World} {g n cap : Nat} {d : Nat → Int} (h : DAt w g n d) (hn : n < 65536) :
    Calls Tryd.prog 23 #[.slice (some ⟨g, 0, none⟩) n cap] w fun r w' => r = .returned (.tuple #[]) ∧ ∃ d', SP w g n 0 n d w' d' ∧ Srt 0 n d' := by
  have hb := bitLen_lt n hn
  have c : Calls Tryd.prog 30 #[.slice (some ⟨g, 0, none⟩) n cap, .int .i64 0, .int .i64 (n : Int), .int .i64 (Lib.bitLen n : Int)] w fun r w' => r = .returned (.tuple #[]) ∧ ∃ d', SP w g n 0 n d w' d' ∧ Srt 0 n d' :=
    sorts_all hn (n + 1) w d 0 n (Lib.bitLen n) (by omega) h (Nat.zero_le _) (Nat.le_refl _) (by omega) (fun h0 => absurd h0 (Nat.lt_irrefl 0))
  have H1 := Lib.hid (len_at' n w hn)
  have HC := Lib.hid c
  have eu : IntKind.u64.wrap (n : Int) = (n : Int) := by rw [IntKind.wrap_u64]; omega
  clear c h
  generalize Lib.bitLen n = k at *
  go_enter Tryd.func23, Tryd.ntmps23
  go_wp2_with fail
  refine H1.out.mono ?_
  rintro r w' ⟨rfl, rfl⟩
  go_wp2_with fail
  refine HC.out.mono ?_
  rintro r w2 ⟨rfl, d', hs, hS⟩
  have HS := Lib.hid hs
  have HSS := Lib.hid hS
  clear hs hS
  go_wp2
  first | go_end0 | refine bodyPost_ret (results_none rfl _ _ _) rfl ?_
  exact ⟨rfl, d', HS.out, HSS.out⟩
end Go.Proofs.YtnhjnciadmgkeaaDoor
