/-
  Bytes told: Hex.
-/
import Derived.Test.YtieeanbmdaaldaaDoorBRow
import Derived.Laws.BitsLemmas
namespace Go.Proofs.YtieeanbmdaaldaaDoor
open Go.Shelf Go.RowKit Go.Sort
open Go.Lib hiding intOf
set_option linter.unusedVariables false
def hstr (l : List UInt8) : ByteArray := ⟨(hexOf l).toArray⟩
theorem take_more (l : List UInt8) (k : Nat) (h : k < l.length) : l.take (k + 1) = l.take k ++ [l[k]] := by rw [List.take_add_one, List.getElem?_eq_getElem h]; rfl
theorem hds_get : ∀ n : Fin 16, (#[48, 49, 50, 51, 52, 53, 54, 55, 56, 57, 97, 98, 99, 100, 101, 102] : Array UInt8)[n.val]? = some (hd n.val) := by decide
theorem idx_hd (z : Int) (n : Nat) (hz : z = (n : Int)) (hn : n < 16) (X : Int) (hX : X = ((hd n).toNat : Int)) (W : World) :
    (Instr.index 9 (.string ⟨#[48, 49, 50, 51, 52, 53, 54, 55, 56, 57, 97, 98, 99, 100, 101, 102]⟩) (.int .u8 z)).run Tryd.prog W = .ok (.int .u8 X) W := by
  subst hz
  rw [run_index_string W 9 _ .u8 _ Tryd.underlying9, dif_pos ⟨by omega, by show (n : Int) < 16; omega⟩]
  have h := hds_get ⟨n, hn⟩
  have e : ((n : Int)).toNat = n := by omega
  simp only [e]
  have h2 := (Array.getElem?_eq_some_iff.1 h).2
  rw [hX, ← h2]
  rfl
set_option maxHeartbeats 400000 in
set_option maxRecDepth 100000 in
theorem hex_at (l : List UInt8) (A : Option Addr) (cap : Nat) (hl : l.length ≤ 100000) (w : World) (h : BRow w A l) :
    Calls Tryd.prog 16 #[.slice A l.length cap] w fun e w' => e = .returned (.string (hstr l)) ∧ Below w.heap.size w w' := by
  obtain ⟨L, hL⟩ : ∃ L, L = l.length := ⟨_, rfl⟩
  have HL := Lib.hid hL
  have hl2 : L ≤ 100000 := by omega
  rw [← hL]
  clear hL hl
  obtain ⟨w1, hmk, ho0, hb0⟩ := makeB (2 * L) (2 * (L : Int)) (by omega) (by omega) w
  have H0 := Lib.hid (And.intro ho0 hb0)
  have HB := Lib.hid h
  clear ho0 hb0 h
  go_enter Tryd.func16, Tryd.ntmps16
  go_wp2
  go_loopw [3, 12] (fun v i wr => ∃ k : Nat, k ≤ L ∧ i = .int .i64 (k : Int) ∧ Hid (wr.ownsRow w.heap.size 5 1 v (2 * k) (bvals (hexOf (l.take k))) ∧ Below w.heap.size w wr)) (fun _ i _ => L - (intOf i).toNat)
  case atStart => exact ⟨0, by omega, by go_num, by simpa [hexOf] using H0⟩
  case round =>
    obtain ⟨k, hk, rfl, HK⟩ := hrel
    by_cases hlt : k < L
    · have hkl : k < l.length := by have := HL.out; omega
      rcases HB.out.kept HK.out.2 with e | ⟨b, off, e, hc⟩
      · rw [e] at hkl; simp at hkl
      · subst e
        have hcell := hc k hkl
        obtain ⟨c, hcc⟩ : ∃ c, c = l[k] := ⟨_, rfl⟩
        rw [← hcc] at hcell
        have hlc := c.toNat_lt
        obtain ⟨x, hx⟩ : ∃ x, x = hd (c.toNat / 16) := ⟨_, rfl⟩
        obtain ⟨y, hy⟩ : ∃ y, y = hd (c.toNat % 16) := ⟨_, rfl⟩
        obtain ⟨C, hC⟩ : ∃ C : Int, C = (c.toNat : Int) := ⟨_, rfl⟩
        obtain ⟨X, hX⟩ : ∃ X : Int, X = (x.toNat : Int) := ⟨_, rfl⟩
        obtain ⟨Y, hY⟩ : ∃ Y : Int, Y = (y.toNat : Int) := ⟨_, rfl⟩
        rw [← hC] at hcell
        obtain ⟨v', w2, hrun, ho2, hb2⟩ := app2 x y HK.out.1 HK.out.2.size (by omega)
        rw [← hX, ← hY] at hrun
        have hI1 := idx_hd (C / 16) (c.toNat / 16) (by omega) (by omega) X (by rw [hX, hx])
        have hI2 := idx_hd (C % 16) (c.toNat % 16) (by omega) (by omega) Y (by rw [hY, hy])
        have hand : bits .and .u8 C 15 = C % 16 := u8_and15 C (by omega) (by omega)
        have HX := Lib.hid (And.intro hcc (And.intro hx hy))
        have HR := Lib.hid hrun
        have HO := Lib.hid (And.intro ho2 (HK.out.2.trans hb2))
        clear hc hrun ho2 hb2
        have hC0 : 0 ≤ C := by omega
        have hC1 : C ≤ 255 := by omega
        clear hcc hx hy hC hX hY
        go_wp2_with fail
        go_region_law ((refine step_append_run rfl (.tmp 16) (.tmp 23) 32 rfl rfl rfl HR.out ?_))
        all_goals go_wp2
        all_goals go_round
        all_goals first
          | (simp only [intOf]; omega)
          | (refine ⟨k + 1, by omega, by go_num, Lib.hid ⟨?_, HO.out.2⟩⟩
             obtain ⟨e1, e2, e3⟩ := HX.out
             rw [take_more l k hkl, hexOf_app, ← e1, hx2, ← e2, ← e3, show 2 * (k + 1) = 2 * k + 2 by omega]
             exact HO.out.1)
    · have hcv := conv_own HK.out.1
      have hkl : l.take k = l := by rw [List.take_of_length_le]; have := HL.out; omega
      rw [hkl] at hcv
      go_wp2
      go_ret
      exact ⟨rfl, HK.out.2⟩
end Go.Proofs.YtieeanbmdaaldaaDoor
