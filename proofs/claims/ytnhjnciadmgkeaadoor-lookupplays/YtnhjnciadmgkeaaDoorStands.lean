/-
  The law's look at a table, as a key asks: it is the document's.
-/
import Derived.Test.YtnhjnciadmgkeaaDoorPlaysM
namespace Go.Proofs.YtnhjnciadmgkeaaDoor
open Go.ChangeShapes Go.WideShapes Go.ChangeAt Go.RowKit
set_option linter.unusedVariables false
set_option maxRecDepth 100000
theorem qsame {P : Program} {f : FuncId} {args : Array Value} {w : World} {n : Nat} {v : Value}
    (h : Calls P f args (w.drewN n) fun e w' => e = .returned v ∧ w.drewN n = w') : Calls P f args (w.drewN n) fun e w'' => e = .returned v ∧ ∃ m, w'' = w.drewN m :=
  h.mono fun _ _ ⟨he, hm⟩ => ⟨he, n, hm.symm⟩
theorem gdrew (w : World) (n : Nat) : w.grownBy (w.drewN n) none := ⟨rfl, rfl, rfl, Nat.le_refl _, fun _ _ _ => rfl⟩
theorem tupO_parts (o : Option Int) : ∃ x b, tupO o = .tuple #[.int .i32 x, .bool b] := by
  cases o with
  | none => exact ⟨0, false, rfl⟩
  | some x => exact ⟨x, true, rfl⟩
section
variable {w : World} {lo b base n c : Nat} {T : Tb} {ps : List (Int × Int)} {A : Option Addr}
set_option maxHeartbeats 1000000 in
theorem stands_at (h : IsT w lo b T) (hr : RL T ps) (hp : PRow w base A n c ps) (ht : Tab w) (key : Int) (hk : Wd key) (hn : n ≤ 1000) :
    Calls Tryd.prog 21 #[.pointer (some ⟨b, 0, none⟩), .agg #[.slice A n c, .int .i64 ((2 ^ T.k : Nat) : Int)], .int .u64 key] w fun e w' => e = .returned (.bool true) ∧ w.grownBy w' none := by
  obtain ⟨s, HSs⟩ : ∃ s : Int, Hid (((2 ^ T.k : Nat) : Int) = s) := ⟨_, Lib.hid rfl⟩
  rw [HSs.out]
  obtain ⟨x, bb, htup⟩ := tupO_parts (pfind key ps)
  have HF : Hid (∀ w', w.grownBy w' none → Calls Tryd.prog 16 #[.pointer (some ⟨b, 0, none⟩), .int .u64 key] w' fun e w'' => e = .returned (.tuple #[.int .i32 x, .bool bb]) ∧ w' = w'') := Lib.hid fun w' hg => by
    have := findT_is (h.kept hg) key hk (ht.kept hg)
    rw [hr.look key hk, htup] at this
    exact this
  have HRF : Hid (∀ w', w.grownBy w' none → Calls Tryd.prog 29 #[.agg #[.slice A n c, .int .i64 s], .int .u64 key] w' fun e w'' => e = .returned (.tuple #[.int .i32 x, .bool bb]) ∧ w'.grownBy w'' none) := Lib.hid fun w' hg => by
    have := rfind_at (hp.kept hg) s key (by omega)
    rw [htup] at this
    exact this
  have HL : Hid (∀ w', w.grownBy w' none → Calls Tryd.prog 14 #[.pointer (some ⟨b, 0, none⟩)] w' fun e w'' => e = .returned (.int .i64 (n : Int)) ∧ w' = w'') := Lib.hid fun w' hg => by
    have := len_is (h.kept hg)
    rw [hr.cnt, ← hp.2] at this
    exact this
  have HS : Hid (∀ w', w.grownBy w' none → Calls Tryd.prog 18 #[.pointer (some ⟨b, 0, none⟩)] w' fun e w'' => e = .returned (.int .i64 s) ∧ w' = w'') := Lib.hid fun w' hg => by
    have := slots_is (h.kept hg)
    rw [HSs.out] at this
    exact this
  have HG0 := Lib.hid (World.grownBy_alloc w (.cells #[.slice A n c, .int .i64 s] 29) none)
  have HB0 := Lib.hid (heap_alloc_new w (.cells #[.slice A n c, .int .i64 s] 29))
  clear h hr hp ht hk hn htup HSs
  go_enter Tryd.func21, Tryd.ntmps21
  go_wp2_with fail
  generalize w.alloc (.cells #[.slice A n c, .int .i64 s] 29) = w0 at *
  refine (HF.out w0 HG0.out).mono ?_
  rintro e w1 ⟨rfl, rfl⟩
  obtain ⟨b0, b1, f0, f1, l0⟩ := cells2 HB0.out
  go_wp2_with fail
  refine (HRF.out w0 HG0.out).mono ?_
  rintro e w1 ⟨rfl, hg1⟩
  clear b0 b1 f0 f1 l0
  have HG1 := Lib.hid (grown_trans HG0.out hg1)
  obtain ⟨b0, b1, f0, f1, l0⟩ := cells2 (kept2 HB0.out hg1)
  clear hg1 f0 f1 l0 HB0 HG0
  cases bb <;>
  · go_wp2_with fail
    go_quiet (first | (go_at_call 14; exact qsame (HL.out _ (grown_trans HG1.out (gdrew _ _)))) | (go_at_call 18; exact qsame (HS.out _ (grown_trans HG1.out (gdrew _ _)))))
    go_wp2
    go_ret
    exact ⟨rfl, grown_trans HG1.out (gdrew _ _)⟩
end
end Go.Proofs.YtnhjnciadmgkeaaDoor
