/-
  The library's sort: how many bits a number has; a power of two that is not less; numbers without a plain order.
-/
import Derived.Test.YtnhjnciadmgkeaaDoorSIns
import Derived.Lib.BitFns
import Derived.Lib.ItoaNum
import Derived.Deep.CutRange
namespace Go.Proofs.YtnhjnciadmgkeaaDoor
open Go.ChangeShapes Go.WideShapes Go.ChangeAt Go.RowKit
set_option linter.unusedVariables false
theorem tab8_size : ∀ x : Fin 256, x.val < Lib.len8tab.size := by decide +kernel
theorem tab8_fin : ∀ x : Fin 256, (Lib.len8tab[x.val]'(tab8_size x)).toNat = Lib.bitLen x.val := by decide +kernel
theorem tab8 (x : Nat) (h : x < 256) (h' : x < Lib.len8tab.size) : (Lib.len8tab[x]'h').toNat = Lib.bitLen x := tab8_fin ⟨x, h⟩
set_option maxRecDepth 100000 in
set_option maxHeartbeats 1000000 in
theorem len64_at (x : Nat) (w : World) (hx : x < 65536) :
    Calls Tryd.prog 44 #[.int .u64 (x : Int)] w fun r w' => r = .returned (.int .i64 (Lib.bitLen x : Int)) ∧ w = w' := by
  have h1 : decide ((4294967296 : Int) ≤ (x : Int)) = false := by simp; omega
  have h2 : decide ((65536 : Int) ≤ (x : Int)) = false := by simp; omega
  by_cases h3 : x < 256
  · have h3b : decide ((256 : Int) ≤ (x : Int)) = false := by simp; omega
    have h4 : IntKind.u8.wrap (x : Int) = (x : Int) := by rw [IntKind.wrap_u8]; omega
    go_enter Tryd.func44, Tryd.ntmps44
    go_wp2
    go_ret
    refine ⟨ret_int ?_, rfl⟩
    rw [tab8 x h3]
    have := Lib.bitLen_le8 ⟨x, h3⟩
    dsimp only at this
    unfold wrap64; omega
  · have h3b : decide ((256 : Int) ≤ (x : Int)) = true := by simp; omega
    obtain ⟨y, hy⟩ : ∃ y, y = x / 256 := ⟨_, rfl⟩
    have hy2 : y < 256 := by omega
    have e1 : (x : Int) / 256 = (y : Int) := by omega
    have h4 : IntKind.u8.wrap (y : Int) = (y : Int) := by rw [IntKind.wrap_u8]; omega
    have HY := Lib.hid hy
    clear hy
    go_enter Tryd.func44, Tryd.ntmps44
    go_wp2
    go_ret
    refine ⟨ret_int ?_, rfl⟩
    rw [tab8 y hy2]
    have := Lib.bitLen_le8 ⟨y, hy2⟩
    dsimp only at this
    have h5 := Lib.bitLen_shift8 x (by omega) (by omega)
    rw [← HY.out] at h5
    unfold wrap64; omega
theorem len_at' (x : Nat) (w : World) (hx : x < 65536) :
    Calls Tryd.prog 31 #[.int .u64 (x : Int)] w fun r w' => r = .returned (.int .i64 (Lib.bitLen x : Int)) ∧ w = w' := by
  have H0 := Lib.hid (len64_at x w hx)
  go_enter Tryd.func31, Tryd.ntmps31
  go_wp2_with (go_at_call 44; refine H0.out.mono ?_; rintro e w' ⟨rfl, rfl⟩)
  go_ret
  exact ⟨rfl, rfl⟩
theorem bitLen_lt (x : Nat) (h : x < 65536) : Lib.bitLen x ≤ 16 := Lib.bitLen_le x 16 (by decide) h
theorem bitLen_pow (x : Nat) (h0 : x ≠ 0) (h : x < 65536) : x < 2 ^ Lib.bitLen x ∧ 2 ^ Lib.bitLen x ≤ 2 * x := by
  obtain ⟨h1, h2, h3⟩ := Lib.bitLenAux_bounds 64 x (by omega) h0
  refine ⟨h3, ?_⟩
  have : 2 ^ Lib.bitLen x = 2 * 2 ^ (Lib.bitLen x - 1) := by
    rw [← Nat.pow_succ']; congr 1; show Lib.bitLenAux 64 x = _; unfold Lib.bitLen; omega
  rw [this]
  exact Nat.mul_le_mul_left 2 h2
set_option maxHeartbeats 400000 in
theorem pow_at (x : Nat) (w : World) (hx : x < 65536) :
    Calls Tryd.prog 48 #[.int .i64 (x : Int)] w fun r w' => r = .returned (.int .u64 ((2 ^ Lib.bitLen x : Nat) : Int)) ∧ w = w' := by
  have H0 := Lib.hid (len_at' x w hx)
  have hb := bitLen_lt x hx
  have e1 : IntKind.u64.wrap (x : Int) = (x : Int) := by rw [IntKind.wrap_u64]; omega
  have ep : IntKind.u64.wrap (2 ^ Lib.bitLen x) = ((2 ^ Lib.bitLen x : Nat) : Int) := by
    have h1 : 2 ^ Lib.bitLen x ≤ 2 ^ 16 := Nat.pow_le_pow_right (by decide) hb
    have e : ((2 ^ Lib.bitLen x : Nat) : Int) = (2 : Int) ^ Lib.bitLen x := by simp
    rw [← e, IntKind.wrap_u64]
    generalize 2 ^ Lib.bitLen x = P at *
    clear e
    omega
  have HE := Lib.hid ep
  clear ep
  generalize Lib.bitLen x = k at *
  go_enter Tryd.func48, Tryd.ntmps48
  go_wp2_with (go_at_call 31; refine H0.out.mono ?_; rintro e w' ⟨rfl, rfl⟩)
  go_ret
  refine ⟨ret_int ?_, rfl⟩
  exact HE.out
/-- a number without a plain order -/
def RndAt (w : World) (s : Nat) (x : Int) : Prop := w.heap[s]? = some (.cells #[.int .u64 x] 82 (0, 0)) ∧ Wd x
theorem RndAt.set {w : World} {s : Nat} {x : Int} (h : RndAt w s x) {y : Int} (hy : Wd y) : RndAt (w.setCell ⟨s, 0, none⟩ (.int .u64 y)).drew s y := ⟨by
    have h1 : (w.setCell ⟨s, 0, none⟩ (.int .u64 y)).heap[s]? = _ := head_set h.1 0 (.int .u64 y)
    exact h1, hy⟩
theorem wd_xor (a b : Int) : Wd (bits .xor .u64 a b) := Wd.of_wf (wf_bits _ _ _ _)
set_option maxHeartbeats 1000000 in
theorem next_at (s : Nat) (x : Int) (w : World) (h : RndAt w s x) :
    Calls Tryd.prog 49 #[.pointer (some ⟨s, 0, none⟩)] w fun r w' => ∃ y, r = .returned (.int .u64 y) ∧ RndAt w' s y ∧ But (fun k => k = s) w w' := by
  have c0 : w.cell? ⟨s, 0, none⟩ = some (.int .u64 x) := by rw [cell_of_head h.1]; rfl
  have f0 : w.frozen? ⟨s, 0, none⟩ = false := frozen_of_head h.1 0
  have x0 := h.2.1
  have HR := Lib.hid h
  clear h
  go_enter Tryd.func49, Tryd.ntmps49
  go_wp2_with fail
  go_region
  have HR1 : Hid (RndAt (w.setCell ⟨s, 0, none⟩ (.int .u64 (bits .xor .u64 x (IntKind.u64.wrap (x * 8192))))).drew s (bits .xor .u64 x (IntKind.u64.wrap (x * 8192))) ∧ But (fun k => k = s) w (w.setCell ⟨s, 0, none⟩ (.int .u64 (bits .xor .u64 x (IntKind.u64.wrap (x * 8192))))).drew) :=
    Lib.hid ⟨HR.out.set (wd_xor _ _), (But.of_set (X := fun k => k = s) w s 0 _ rfl).trans (But.of_new (grown_drewN _ 1 none))⟩
  clear HR c0 f0
  generalize bits .xor .u64 x (IntKind.u64.wrap (x * 8192)) = y1 at *
  generalize (w.setCell ⟨s, 0, none⟩ (.int .u64 y1)).drew = w1 at *
  have c1 : w1.cell? ⟨s, 0, none⟩ = some (.int .u64 y1) := by rw [cell_of_head HR1.out.1.1]; rfl
  have f1 : w1.frozen? ⟨s, 0, none⟩ = false := frozen_of_head HR1.out.1.1 0
  have x1 := HR1.out.1.2.1
  go_wp2_with fail
  go_region
  have HR2 : Hid (RndAt (w1.setCell ⟨s, 0, none⟩ (.int .u64 (bits .xor .u64 y1 (y1 / 128)))).drew s (bits .xor .u64 y1 (y1 / 128)) ∧ But (fun k => k = s) w (w1.setCell ⟨s, 0, none⟩ (.int .u64 (bits .xor .u64 y1 (y1 / 128)))).drew) :=
    Lib.hid ⟨HR1.out.1.set (wd_xor _ _), HR1.out.2.trans ((But.of_set (X := fun k => k = s) w1 s 0 _ rfl).trans (But.of_new (grown_drewN _ 1 none)))⟩
  clear HR1 c1 f1
  generalize bits .xor .u64 y1 (y1 / 128) = y2 at *
  generalize (w1.setCell ⟨s, 0, none⟩ (.int .u64 y2)).drew = w2 at *
  have c2 : w2.cell? ⟨s, 0, none⟩ = some (.int .u64 y2) := by rw [cell_of_head HR2.out.1.1]; rfl
  have f2 : w2.frozen? ⟨s, 0, none⟩ = false := frozen_of_head HR2.out.1.1 0
  have x2 := HR2.out.1.2.1
  go_wp2_with fail
  go_region
  have HR3 : Hid (RndAt (w2.setCell ⟨s, 0, none⟩ (.int .u64 (bits .xor .u64 y2 (IntKind.u64.wrap (y2 * 131072))))).drew s (bits .xor .u64 y2 (IntKind.u64.wrap (y2 * 131072))) ∧ But (fun k => k = s) w (w2.setCell ⟨s, 0, none⟩ (.int .u64 (bits .xor .u64 y2 (IntKind.u64.wrap (y2 * 131072))))).drew) :=
    Lib.hid ⟨HR2.out.1.set (wd_xor _ _), HR2.out.2.trans ((But.of_set (X := fun k => k = s) w2 s 0 _ rfl).trans (But.of_new (grown_drewN _ 1 none)))⟩
  clear HR2 c2 f2
  generalize bits .xor .u64 y2 (IntKind.u64.wrap (y2 * 131072)) = y3 at *
  generalize (w2.setCell ⟨s, 0, none⟩ (.int .u64 y3)).drew = w3 at *
  have c3 : w3.cell? ⟨s, 0, none⟩ = some (.int .u64 y3) := by rw [cell_of_head HR3.out.1.1]; rfl
  go_wp2
  go_ret
  exact ⟨y3, rfl, HR3.out.1, HR3.out.2⟩
end Go.Proofs.YtnhjnciadmgkeaaDoor
