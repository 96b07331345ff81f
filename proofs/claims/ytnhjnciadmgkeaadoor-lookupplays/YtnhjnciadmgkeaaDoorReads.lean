/-
  What the functions that read a table return; what all functions tell of a nil table.
-/
import Derived.Test.YtnhjnciadmgkeaaDoorTable
namespace Go.Proofs.YtnhjnciadmgkeaaDoor
open Go.ChangeShapes Go.WideShapes Go.ChangeAt Go.RowKit
set_option linter.unusedVariables false

theorem put_nil (key node : Int) (w : World) : Calls Tryd.prog 13 #[.pointer none, .int .u64 key, .int .i32 node] w fun e w' => e = .returned (.bool false) ∧ w = w' := by
  go_enter Tryd.func13, Tryd.ntmps13
  go_wp2
  go_ret
  exact ⟨rfl, rfl⟩
theorem drop_nil (key : Int) (w : World) : Calls Tryd.prog 15 #[.pointer none, .int .u64 key] w fun e w' => e = .returned (.bool false) ∧ w = w' := by
  go_enter Tryd.func15, Tryd.ntmps15
  go_wp2
  go_ret
  exact ⟨rfl, rfl⟩
def tnone : Value := .tuple #[.int .i32 0, .bool false]
theorem find_nil (key : Int) (w : World) : Calls Tryd.prog 16 #[.pointer none, .int .u64 key] w fun e w' => e = .returned tnone ∧ w = w' := by
  go_enter Tryd.func16, Tryd.ntmps16
  go_wp2
  go_ret2
  exact ⟨rfl, rfl⟩
theorem len_nil (w : World) : Calls Tryd.prog 14 #[.pointer none] w fun e w' => e = .returned (.int .i64 0) ∧ w = w' := by
  go_enter Tryd.func14, Tryd.ntmps14
  go_wp2
  go_ret
  exact ⟨rfl, rfl⟩
theorem slots_nil (w : World) : Calls Tryd.prog 18 #[.pointer none] w fun e w' => e = .returned (.int .i64 0) ∧ w = w' := by
  go_enter Tryd.func18, Tryd.ntmps18
  go_wp2
  go_ret
  exact ⟨rfl, rfl⟩
theorem moves_nil (w : World) : Calls Tryd.prog 17 #[.pointer none] w fun e w' => e = .returned (.int .u64 0) ∧ w = w' := by
  go_enter Tryd.func17, Tryd.ntmps17
  go_wp2
  go_ret
  exact ⟨rfl, rfl⟩
theorem keys_nil (w : World) : Calls Tryd.prog 11 #[.pointer none] w fun e w' => e = .returned (.slice none 0 0) ∧ w = w' := by
  go_enter Tryd.func11, Tryd.ntmps11
  go_wp2
  go_ret
  exact ⟨rfl, rfl⟩

section
variable {w : World} {lo b gN gO : Nat} {T : Tb}
theorem len_at (h : TAt w lo b gN gO T) : Calls Tryd.prog 14 #[.pointer (some ⟨b, 0, none⟩)] w fun e w' => e = .returned (.int .i64 (T.cnt : Int)) ∧ w = w' := by
  have h2 := h.c3
  go_enter Tryd.func14, Tryd.ntmps14
  go_wp2
  go_ret
  exact ⟨rfl, rfl⟩
theorem moves_at (h : TAt w lo b gN gO T) : Calls Tryd.prog 17 #[.pointer (some ⟨b, 0, none⟩)] w fun e w' => e = .returned (.int .u64 (T.mv : Int)) ∧ w = w' := by
  have h2 := h.c4
  go_enter Tryd.func17, Tryd.ntmps17
  go_wp2
  go_ret
  exact ⟨rfl, rfl⟩
theorem slots_at (h : TAt w lo b gN gO T) : Calls Tryd.prog 18 #[.pointer (some ⟨b, 0, none⟩)] w fun e w' => e = .returned (.int .i64 ((2 ^ T.k : Nat) : Int)) ∧ w = w' := by
  have h2 := h.c0
  generalize 2 ^ T.k = n at *
  go_enter Tryd.func18, Tryd.ntmps18
  go_wp2
  go_ret
  exact ⟨rfl, rfl⟩
theorem find_old (h : TAt w lo b gN gO T) (key : Int) (hk : Wd key) (ht : Tab w) :
    Calls Tryd.prog 32 #[vold T gO, .int .u64 key] w fun e w' => e = .returned (.pointer (pE (T.fo key))) ∧ w = w' := by
  cases hj : T.o with
  | none => rw [vold_none hj, fo_none hj]; exact find_none key w
  | some j =>
    rw [vold_some hj, fo_some hj]
    have ho := h.old j hj
    have := ho.jk
    have := h.k3
    have := h.k30
    exact find_at ho.arr (by omega) (by omega) key hk ht
theorem vold_slice (T : Tb) (gO : Nat) : ∃ A n, vold T gO = .slice A n n ∧ n = T.so := by
  unfold vold Tb.so
  cases T.o with
  | none => exact ⟨_, _, rfl, rfl⟩
  | some j => exact ⟨_, _, rfl, rfl⟩
set_option maxHeartbeats 1000000 in
theorem tfind_at (h : TAt w lo b gN gO T) (key : Int) (hk : Wd key) (ht : Tab w) :
    Calls Tryd.prog 25 #[.pointer (some ⟨b, 0, none⟩), .int .u64 key] w fun e w' => e = .returned (.pointer (pE (T.fnd key))) ∧ w = w' := by
  have h1 := find_at h.now (by have := h.k3; omega) h.k30 key hk ht
  have h2 := find_old h key hk ht
  have c0 := h.c0
  have c1 := h.c1
  obtain ⟨A, m, e1, -⟩ := vold_slice T gO
  rw [e1] at h2 c1
  generalize 2 ^ T.k = n at *
  unfold Tb.fnd
  have H2 := Lib.hid h2
  cases hf : fndB T.k T.bn key with
  | none =>
    rw [hf] at h1
    have H1 : Hid (Calls Tryd.prog 32 #[.slice (some ⟨gN, 0, none⟩) n n, .int .u64 key] w fun e w' => e = .returned (.pointer none) ∧ w = w') := Lib.hid h1
    clear h h1 h2 hk ht e1 hf
    simp only [Option.none_or]
    obtain ⟨u, hu⟩ : ∃ u, pE (T.fo key) = u := ⟨_, rfl⟩
    rw [hu] at H2 ⊢
    clear hu
    go_enter Tryd.func25, Tryd.ntmps25
    go_wp2_with fail
    refine H1.out.mono ?_
    rintro e w' ⟨rfl, rfl⟩
    go_wp2_with fail
    refine H2.out.mono ?_
    rintro e w' ⟨rfl, rfl⟩
    go_wp2
    go_ret
    exact ⟨rfl, rfl⟩
  | some x =>
    rw [hf] at h1
    have H1 : Hid (Calls Tryd.prog 32 #[.slice (some ⟨gN, 0, none⟩) n n, .int .u64 key] w fun e w' => e = .returned (.pointer (some ⟨x.blk, 0, none⟩)) ∧ w = w') := Lib.hid h1
    clear h h1 h2 hk ht e1 hf
    simp only [Option.some_or, pE]
    obtain ⟨xb, xk, xn⟩ := x
    dsimp only at *
    go_enter Tryd.func25, Tryd.ntmps25
    go_wp2_with fail
    refine H1.out.mono ?_
    rintro e w' ⟨rfl, rfl⟩
    go_wp2
    go_ret
    exact ⟨rfl, rfl⟩
/-- a node, or nothing -/
def tupO : Option Int → Value
  | some x => .tuple #[.int .i32 x, .bool true]
  | none => .tuple #[.int .i32 0, .bool false]
theorem fnd_in (h : TAt w lo b gN gO T) {key : Int} (hk : Wd key) {e : Ent} (hf : T.fnd key = some e) : T.In e ∧ e.key = key := by
  unfold Tb.fnd at hf
  have k3 := h.k3
  have k30 := h.k30
  cases h1 : fndB T.k T.bn key with
  | some x =>
    rw [h1] at hf
    simp only [Option.some_or, Option.some.injEq] at hf
    subst hf
    obtain ⟨h2, h3⟩ := h.now.fnd_in (by omega) k30 hk h1
    exact ⟨.inl h2, h3⟩
  | none =>
    rw [h1] at hf
    simp only [Option.none_or] at hf
    cases hj : T.o with
    | none => rw [fo_none hj] at hf; cases hf
    | some j =>
      rw [fo_some hj] at hf
      have ho := h.old j hj
      have := ho.jk
      obtain ⟨h2, h3⟩ := ho.arr.fnd_in (by omega) (by omega) hk hf
      exact ⟨.inr (by rw [so_some hj]; exact h2), h3⟩
set_option maxHeartbeats 1000000 in
theorem findT_at (h : TAt w lo b gN gO T) (key : Int) (hk : Wd key) (ht : Tab w) :
    Calls Tryd.prog 16 #[.pointer (some ⟨b, 0, none⟩), .int .u64 key] w fun e w' => e = .returned (tupO (T.look key)) ∧ w = w' := by
  have h1 := tfind_at h key hk ht
  unfold Tb.look
  cases hf : T.fnd key with
  | none =>
    rw [hf] at h1
    have H1 : Hid (Calls Tryd.prog 25 #[.pointer (some ⟨b, 0, none⟩), .int .u64 key] w fun e w' => e = .returned (.pointer none) ∧ w = w') := Lib.hid h1
    clear h h1 hk ht hf
    go_enter Tryd.func16, Tryd.ntmps16
    go_wp2_with fail
    refine H1.out.mono ?_
    rintro e w' ⟨rfl, rfl⟩
    go_wp2
    go_ret2
    exact ⟨rfl, rfl⟩
  | some x =>
    rw [hf] at h1
    have H1 : Hid (Calls Tryd.prog 25 #[.pointer (some ⟨b, 0, none⟩), .int .u64 key] w fun e w' => e = .returned (.pointer (some ⟨x.blk, 0, none⟩)) ∧ w = w') := Lib.hid h1
    obtain ⟨⟨a, ha⟩, _⟩ := h.in_ent (fnd_in h hk hf).1
    have d1 := ha.cell1
    clear h h1 hk ht hf ha
    obtain ⟨xb, xk, xn⟩ := x
    simp only [Option.map_some, tupO] at *
    go_enter Tryd.func16, Tryd.ntmps16
    go_wp2_with fail
    refine H1.out.mono ?_
    rintro e w' ⟨rfl, rfl⟩
    go_wp2
    go_ret2
    exact ⟨rfl, rfl⟩
end
end Go.Proofs.YtnhjnciadmgkeaaDoor
