/-
  The document's Hex and ReadHex.
-/
import Derived.Test.YtieeanbmdaaldaaDoorRHex
namespace Go.Proofs.YtieeanbmdaaldaaDoor
open Go.Shelf Go.RowKit Go.Sort
open Go.Lib hiding intOf
set_option linter.unusedVariables false
set_option maxRecDepth 100000 in
theorem rdigit_at (n : Nat) (hn : n < 16) (N X : Int) (hN : N = (n : Int)) (hX : X = ((hd n).toNat : Int)) (w : World) : Calls Tryd.prog 30 #[.int .i64 N] w fun e w' => e = .returned (.int .u8 X) ∧ w = w' := by
  by_cases h : n < 10
  · have hx : X = 48 + N := by rw [hX, hd, if_pos h, UInt8.toNat_ofNat']; omega
    have h1 : N < 10 := by omega
    have h2 : 0 ≤ N := by omega
    subst hx
    clear hN hX h
    go_enter Tryd.func30, Tryd.ntmps30
    go_wp2
    go_ret
    exact ⟨rfl, rfl⟩
  · have hx : X = 87 + N := by rw [hX, hd, if_neg h, UInt8.toNat_ofNat']; omega
    have h1 : ¬ N < 10 := by omega
    have h2 : 0 ≤ N := by omega
    have h3 : N < 16 := by omega
    subst hx
    clear hN hX h
    go_enter Tryd.func30, Tryd.ntmps30
    go_wp2
    go_ret
    exact ⟨rfl, rfl⟩
def hdI (z : Int) : Int := ((hd z.toNat).toNat : Int)
theorem rdigitI_at (z : Int) (h0 : 0 ≤ z) (h1 : z < 16) (w : World) : Calls Tryd.prog 30 #[.int .i64 z] w fun e w' => e = .returned (.int .u8 (hdI z)) ∧ w = w' :=
  rdigit_at z.toNat (by omega) z (hdI z) (by omega) rfl w
set_option maxHeartbeats 400000 in
set_option maxRecDepth 100000 in
theorem rhex_at (l : List UInt8) (A : Option Addr) (cap : Nat) (hl : l.length ≤ 100000) (w : World) (h : BRow w A l) :
    Calls Tryd.prog 19 #[.slice A l.length cap] w fun e w' => e = .returned (.string (hstr l)) ∧ Below w.heap.size w w' := by
  obtain ⟨L, hL⟩ : ∃ L, L = l.length := ⟨_, rfl⟩
  have HL := Lib.hid hL
  have hl2 : L ≤ 100000 := by omega
  rw [← hL]
  clear hL hl
  have HB := Lib.hid h
  clear h
  go_enter Tryd.func19, Tryd.ntmps19
  go_wp2
  go_loopw [3, 4] (fun v i wr => ∃ k : Nat, k ≤ L ∧ i = .int .i64 (k : Int) ∧ Hid (wr.ownsRow w.heap.size 5 1 v (2 * k) (bvals (hexOf (l.take k))) ∧ Below w.heap.size w wr)) (fun _ i _ => L - (intOf i).toNat)
  case atStart => exact ⟨0, by omega, by go_num, Lib.hid ⟨by simpa [hexOf, bvals] using World.ownsRow_nil w w.heap.size 5 1, Below.refl _ _⟩⟩
  case round =>
    obtain ⟨k, hk, rfl, HK⟩ := hrel
    by_cases hlt : k < L
    · have hkl : k < l.length := by have := HL.out; omega
      rcases HB.out.kept HK.out.2 with e | ⟨b, off, e, hc⟩
      · rw [e] at hkl; simp at hkl
      · subst e
        have hcell := hc k hkl
        obtain ⟨c, hcc⟩ : ∃ c, c = l[k] := ⟨_, rfl⟩
        rw [← hcc] at hcell
        have hlc := c.toNat_lt
        obtain ⟨x, hx⟩ : ∃ x, x = hd (c.toNat / 16) := ⟨_, rfl⟩
        obtain ⟨y, hy⟩ : ∃ y, y = hd (c.toNat % 16) := ⟨_, rfl⟩
        obtain ⟨C, hC⟩ : ∃ C : Int, C = (c.toNat : Int) := ⟨_, rfl⟩
        obtain ⟨X, hX⟩ : ∃ X : Int, X = (x.toNat : Int) := ⟨_, rfl⟩
        obtain ⟨Y, hY⟩ : ∃ Y : Int, Y = (y.toNat : Int) := ⟨_, rfl⟩
        rw [← hC] at hcell
        obtain ⟨v', w2, hrun, ho2, hb2⟩ := app2 x y HK.out.1 HK.out.2.size (by omega)
        rw [← hX, ← hY] at hrun
        have hXv : X = hdI (C / 16) := by rw [hX, hx, hdI, hC]; congr 3
        have hYv : Y = hdI (C % 16) := by rw [hY, hy, hdI, hC]; congr 3
        rw [hXv, hYv] at hrun
        have HX := Lib.hid (And.intro hcc (And.intro hx hy))
        have HR := Lib.hid hrun
        have HO := Lib.hid (And.intro ho2 (HK.out.2.trans hb2))
        clear hc hrun ho2 hb2
        have hC0 : 0 ≤ C := by omega
        have hC1 : C ≤ 255 := by omega
        clear hcc hx hy hC hX hY hlc hXv hYv
        have hq0 : IntKind.i64.wrap C = C := by rw [IntKind.wrap_i64]; omega
        have hq1 : C.tdiv 16 = C / 16 := Int.tdiv_eq_ediv_of_nonneg hC0
        have hq2 : C.tmod 16 = C % 16 := Int.tmod_eq_emod_of_nonneg hC0
        have hq3 : IntKind.i64.wrap (C / 16) = C / 16 := by rw [IntKind.wrap_i64]; omega
        have hq4 : IntKind.i64.wrap (C % 16) = C % 16 := by rw [IntKind.wrap_i64]; omega
        go_wp2_with fail
        go_region_law (first | (go_simp; go_at_call 30; refine (rdigitI_at _ (by omega) (by omega) _).mono ?_; rintro e wcl ⟨rfl, rfl⟩) | (refine step_append_run rfl (.tmp 11) (.tmp 26) 32 rfl rfl rfl HR.out ?_))
        all_goals go_wp2
        all_goals go_round
        all_goals first
          | (simp only [intOf]; omega)
          | (refine ⟨k + 1, by omega, by go_num, Lib.hid ⟨?_, HO.out.2⟩⟩
             obtain ⟨e1, e2, e3⟩ := HX.out
             rw [take_more l k hkl, hexOf_app, ← e1, hx2, ← e2, ← e3, show 2 * (k + 1) = 2 * k + 2 by omega]
             exact HO.out.1)
    · have hcv := conv_own HK.out.1
      have hkl : l.take k = l := by rw [List.take_of_length_le]; have := HL.out; omega
      rw [hkl] at hcv
      go_wp2
      go_ret
      exact ⟨rfl, HK.out.2⟩
end Go.Proofs.YtieeanbmdaaldaaDoor
