/-
  Put into a full vault; Drop of a number that no block has.
-/
import Derived.Test.YthpcjgfbngemiaaNilLaw
namespace Go.Proofs.Ythpcjgfbngemiaa
open Go.ChangeShapes Go.WideShapes Go.ChangeAt Go.RowKit
set_option linter.unusedVariables false
set_option maxRecDepth 100000
section
variable {w : World} {lo b : Nat} {h : Hd} {V : Vl}
theorem put_full (x : VAt w lo b h V) (A : Option Addr) (n c : Nat) (hr : V.room ≤ 1048576) (hu : V.used ≤ V.room) (hf : V.room < V.used + n) : Calls Try.prog 9 #[.pointer (some ⟨b, 0, none⟩), .slice A n c] w fun e w' => e = .returned (.tuple #[.int .i64 0, .int .i64 3]) ∧ w.grownBy w' none := by
  have c0 := x.c0
  have c5 := x.c5
  obtain ⟨us, HUS⟩ : ∃ us, Hid (V.used = us) := ⟨_, Lib.hid rfl⟩
  obtain ⟨rm, HRM⟩ : ∃ rm, Hid (V.room = rm) := ⟨_, Lib.hid rfl⟩
  rw [HUS.out] at c5 hu hf
  rw [HRM.out] at c0 hu hf hr
  have k0 : (rm : Int) - (us : Int) < (n : Int) := by omega
  clear x hf
  go_enter Try.func9, Try.ntmps9
  go_wp2_with fail
  go_quiet (fail)
  have HG0 := Lib.hid (grown_drewN w nq none)
  clear c0 c5
  generalize w.drewN nq = w0 at *
  go_wp2
  go_ret2
  exact ⟨rfl, HG0.out⟩
theorem drop_no (x : VAt w lo b h V) (hn : V.bk.length ≤ 1000000) (i : Int) (hi : i < 0 ∨ (V.bk.length : Int) ≤ i ∨ ∃ (k : Nat) (p : Int × Int × Int), i = (k : Int) ∧ V.bk[k]? = some p ∧ p.1 = -1) :
    Calls Try.prog 12 #[.pointer (some ⟨b, 0, none⟩), .int .i64 i] w fun e w' => e = .returned (.bool false) ∧ w.grownBy w' none := by
  have HF := Lib.hid (find_no x hn i hi)
  clear x hn hi
  unfold blkV at HF
  dsimp only at HF
  go_enter Try.func12, Try.ntmps12
  go_wp2_with fail
  refine HF.out.mono ?_
  rintro e w1 ⟨rfl, hg1⟩
  have HG1 := Lib.hid (grown_trans hg1 (World.grownBy_alloc w1 (.cells #[.int .i64 0, .int .i64 0, .int .i64 0] 59) none))
  clear hg1 HF
  go_wp2
  go_ret
  exact ⟨rfl, HG1.out⟩
end
end Go.Proofs.Ythpcjgfbngemiaa
