/-
  Some keys are moved: moveSome, as a call that was deferred.
-/
import Derived.Test.YtnhjnciadmgkeaaDoorReads
import Derived.Defers
import Derived.LoopN
import Derived.Deep.CutRange
namespace Go.Proofs.YtnhjnciadmgkeaaDoor
open Go.ChangeShapes Go.WideShapes Go.ChangeAt Go.RowKit
set_option linter.unusedVariables false

theorem TAt.drew {w : World} {lo b gN gO : Nat} {T : Tb} (h : TAt w lo b gN gO T) : TAt w.drew lo b gN gO T := h.kept (grown_drewN w 1 none)
theorem Tab.drew {w : World} (h : Tab w) : Tab w.drew := fun i hi => by simpa using h i hi
theorem Keep.drew {lo : Nat} {w w' : World} (h : Keep lo w w') : Keep lo w w'.drew := h.trans (Keep.of_new (grown_drewN w' 1 none))
/-- what moving some comes to -/
structure Moved (T T' : Tb) : Prop where
  k : T'.k = T.k
  cnt : T'.cnt = T.cnt
  fnd : ∀ key, Wd key → T'.fnd key = T.fnd key
  mv0 : T.mv ≤ T'.mv
  mv4 : T'.mv ≤ T.mv + 4
  pot : T'.o = none ∨ (T'.o = T.o ∧ T'.pot + 32 ≤ T.pot ∧ 0 < T'.pot)
  non : T.o = none → T'.mv = T.mv ∧ T'.o = none
section
variable {w : World} {lo b gN gO : Nat} {T : Tb}
def SomePost (w : World) (lo b gN gO : Nat) (T : Tb) (w' : World) : Prop := ∃ T', TAt w' lo b gN gO T' ∧ Moved T T' ∧ Keep lo w w'
theorem some_drop (h : TAt w lo b gN gO T) (ho : ∀ j, T.o = some j → T.nx = 2 ^ j) : SomePost w lo b gN gO T (w.setCell ⟨b, 1, none⟩ (.slice none 0 0)) :=
  ⟨_, h.drop ho, ⟨rfl, rfl, fun key hk => drop_fnd h ho hk, Nat.le_refl _, Nat.le_add_right _ _, .inl rfl, fun _ => ⟨rfl, rfl⟩⟩, Keep.of_block (grown_setCell w b 1 _) h.blo h.head rfl⟩
theorem SomePost.of_drew {w' : World} (hp : SomePost w.drew lo b gN gO T w') : SomePost w lo b gN gO T w' := by
  obtain ⟨T', h1, h2, h3⟩ := hp
  exact ⟨T', h1, h2, (Keep.of_new (grown_drewN w 1 none)).trans h3⟩
set_option maxHeartbeats 1000000 in
theorem some_none (u : FrameMode) (h : TAt w lo b gN gO T) (hj : T.o = none) :
    CallsD Tryd.prog 24 #[.pointer (some ⟨b, 0, none⟩)] u w fun e u' w' => u' = u ∧ (e = .returned (.tuple #[]) ∧ SomePost w lo b gN gO T w') := by
  have c1 := h.c1
  rw [vold_none hj] at c1
  have c2 := h.c2
  have nxb := h.nxb
  have f1 := h.free 1
  have HE : Hid (SomePost w lo b gN gO T ((w.drew.drew).setCell ⟨b, 1, none⟩ (.slice none 0 0))) :=
    Lib.hid (SomePost.of_drew (SomePost.of_drew (some_drop h.drew.drew (by intro j hj'; rw [hj] at hj'; cases hj'))))
  have HE2 : Hid (SomePost w lo b gN gO T (w.drew.drew)) := Lib.hid ⟨T, h.drew.drew, ⟨rfl, rfl, fun _ _ => rfl, Nat.le_refl _, Nat.le_add_right _ _, .inl hj, fun _ => ⟨rfl, hj⟩⟩, (Keep.refl lo w).drew.drew⟩
  have hnx : Hid (T.nx = T.nx) := Lib.hid rfl
  generalize hnn : T.nx = nx at c2 nxb
  have e1 : (if (0 : Int) < (nx : Int) + 32 then (0 : Int) else (nx : Int) + 32) = 0 := by rw [if_pos (by omega)]
  clear h hj hnx hnn
  go_enter_d Tryd.func24, Tryd.ntmps24
  go_wp2_with fail
  go_region
  go_wp2_with fail
  refine wp_loop_rounds 1 ?_
  rw [rounds_succ]
  go_wp2_with fail
  by_cases h0 : nx = 0
  · subst h0
    go_region
    go_wp2
    go_end0
    exact ⟨rfl, HE.out⟩
  · have hb0 : (nx == 0) = false := beq_eq_false_iff_ne.2 h0
    have hb1 : ((nx : Int) == 0) = false := beq_eq_false_iff_ne.2 (by omega)
    go_region
    go_wp2
    go_end0
    exact ⟨rfl, HE2.out⟩
end
end Go.Proofs.YtnhjnciadmgkeaaDoor
