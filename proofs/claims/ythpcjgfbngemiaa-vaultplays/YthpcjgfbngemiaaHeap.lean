/-
  The free numbers as a heap: down, Push, Pop.
-/
import Derived.Test.YthpcjgfbngemiaaHFns
import Derived.Deep.RegionLaw
namespace Go.Proofs.Ythpcjgfbngemiaa
open Go.ChangeShapes Go.WideShapes Go.ChangeAt Go.RowKit
set_option linter.unusedVariables false
set_option maxRecDepth 100000
section
variable {w : World} {lo b n : Nat} {h : Hd} {V : Vl} {d : Nat → Int}
def DownPost (w : World) (lo b n : Nat) (h : Hd) (V : Vl) (d : Nat → Int) (m : Nat) (e : Ending) (w' : World) : Prop := (∃ bb, e = .returned (.bool bb)) ∧ HeapPost w lo b n h V d m w'
set_option maxHeartbeats 2000000 in
theorem down_at (x : FAt w lo b h V d n) (m : Nat) (hm : m < n) (hn : n ≤ 1000000) (hu : HDn m 0 d) : Calls Try.prog 56 #[nums b, .int .i64 0, .int .i64 (m : Int)] w (DownPost w lo b n h V d m) := by
  unfold nums
  obtain ⟨g, c, e⟩ := owns_some x.row (by omega)
  have HE := Lib.hid e
  have HX0 : Hid (FAt w lo b h { V with fr := vals d n } d n) := Lib.hid (by have := x; obtain ⟨h1, h2⟩ := x; rw [← h2]; exact ⟨h1, h2⟩)
  have HU := Lib.hid hu
  clear e x hu
  go_enter Try.func56, Try.ntmps56
  go_wp2_with fail
  go_loopg [7] n (fun q v wr => ∃ (i : Nat) (d' : Nat → Int), v = .int .i64 (i : Int) ∧ i ≤ m ∧ Hid (q + i = n) ∧ Hid (FAt wr lo b h { V with fr := vals d' n } d' n ∧ Stp b h h w wr ∧ HDn m i d' ∧ PR 0 m d d'))
  case atStart => exact ⟨0, d, by go_num, by omega, Lib.hid (by omega), Lib.hid ⟨HX0.out, Stp.refl _ _ _, HU.out, PR.refl⟩⟩
  case round =>
    obtain ⟨i, d', rfl, him, HM, HI⟩ := hrel
    by_cases h0 : m ≤ 2 * i + 1
    · have h0I : (m : Int) ≤ 2 * (i : Int) + 1 := by omega
      have HD := Lib.hid (HI.out.2.2.1.done (fun k h1 h2 h3 => by omega))
      clear h0
      go_wp2
      go_ret
      exact ⟨⟨_, rfl⟩, d', HI.out.1, HI.out.2.1, HD.out, HI.out.2.2.2⟩
    · have h0I : ¬ ((m : Int) ≤ 2 * (i : Int) + 1) := by omega
      obtain ⟨j1, HJ1⟩ : ∃ j1 : Nat, Hid (2 * (i : Int) + 1 = (j1 : Int) ∧ j1 = 2 * i + 1) := ⟨2 * i + 1, Lib.hid ⟨by omega, rfl⟩⟩
      have hj1 := HJ1.out.1
      have hj1m : j1 < m := by have := HJ1.out.2; omega
      by_cases hj2 : j1 + 1 < m
      · have hj2I : (j1 : Int) + 1 < (m : Int) := by omega
        obtain ⟨j2, HJ2⟩ : ∃ j2 : Nat, Hid ((j1 : Int) + 1 = (j2 : Int) ∧ j2 = j1 + 1) := ⟨j1 + 1, Lib.hid ⟨by omega, rfl⟩⟩
        have hj2e := HJ2.out.1
        have hj2m : j2 < m := by have := HJ2.out.2; omega
        have hj2b : (j2 : Int) < (m : Int) := by omega
        have c3 := HI.out.1.1.c3
        rw [HE.out] at c3
        have ml := mless c3
        have HL := less_at HI.out.1 HE.out (i := j2) (j := j1) (by omega) (by omega)
        clear hj2 hj2I
        by_cases hlt2 : d' j2 < d' j1
        · rw [decide_eq_true hlt2] at HL
          have HLL := Lib.hid HL
          have hjm := hj2m
          have HPar : Hid ((j2 - 1) / 2 = i ∧ i < j2) := Lib.hid (by have := HJ1.out.2; have := HJ2.out.2; omega)
          have HMin : Hid (∀ k, 0 < k → k < m → (k - 1) / 2 = i → d' j2 ≤ d' k) := Lib.hid fun k h1 h2 h3 => by
            have e1 := HJ1.out.2
            have e2 := HJ2.out.2
            obtain rfl | rfl : k = j1 ∨ k = j2 := by omega
            · omega
            · exact Int.le_refl _
          clear HL hlt2
          go_wp2_with fail
          refine HLL.out.mono ?_
          rintro e wx ⟨rfl, hgx⟩
          have HFx := Lib.hid (HI.out.1.kept hgx)
          have HSx := Lib.hid (HI.out.2.1.trans (Stp.of_new (h := h) (b := b) hgx))
          clear hgx c3 ml HLL
          have c3 := HFx.out.1.c3
          rw [HE.out] at c3
          have ml := mless c3
          have HL := less_at HFx.out HE.out (i := j2) (j := i) (by omega) (by omega)
          by_cases hlt : d' j2 < d' i
          · rw [decide_eq_true hlt] at HL
            have HLL := Lib.hid HL
            have HS : Hid (HDn m j2 (sw d' i j2)) := Lib.hid (HI.out.2.2.1.step (by have := HPar.out; omega) hjm HPar.out.1 HMin.out hlt)
            have hij : i < j2 := HPar.out.2
            clear HL hlt
            go_wp2_with fail
            refine HLL.out.mono ?_
            rintro e w1 ⟨rfl, hg1⟩
            have HF1 := Lib.hid (HFx.out.kept hg1)
            have HG1 := Lib.hid hg1
            clear c3 ml HLL hg1
            have c3 := HF1.out.1.c3
            rw [HE.out] at c3
            have ms := mswap c3
            have HSW := Lib.hid (swap_at HF1.out HE.out (i := i) (j := j2) (by omega) (by omega))
            go_wp2_with fail
            refine HSW.out.mono ?_
            rintro e w2 ⟨rfl, hf2, hs2⟩
            have HF2 := Lib.hid hf2
            have HS2 := Lib.hid ((HSx.out.trans (Stp.of_new HG1.out)).trans hs2)
            clear hf2 hs2 c3 ms HSW
            go_wp2_with fail
            go_roundg (n - j2)
            case measure => have := HM.out; omega
            case rel => exact ⟨j2, sw d' i j2, by first | rfl | go_num, by omega, Lib.hid (by omega), Lib.hid ⟨HF2.out, HS2.out, HS.out, HI.out.2.2.2.step (Nat.zero_le _) (by omega) (Nat.zero_le _) hjm⟩⟩
          · rw [decide_eq_false hlt] at HL
            have HLL := Lib.hid HL
            have HD := Lib.hid (HI.out.2.2.1.done (fun k h1 h2 h3 => by have := HMin.out k h1 h2 h3; omega))
            clear HL hlt
            go_wp2_with fail
            refine HLL.out.mono ?_
            rintro e w1 ⟨rfl, hg1⟩
            have HF1 := Lib.hid (HFx.out.kept hg1)
            have HG1 := Lib.hid hg1
            clear hg1 c3 ml HLL
            go_wp2
            go_ret
            exact ⟨⟨_, rfl⟩, d', HF1.out, HSx.out.trans (Stp.of_new HG1.out), HD.out, HI.out.2.2.2⟩
        · rw [decide_eq_false hlt2] at HL
          have HLL := Lib.hid HL
          have hjm := hj1m
          have HPar : Hid ((j1 - 1) / 2 = i ∧ i < j1) := Lib.hid (by have := HJ1.out.2; omega)
          have HMin : Hid (∀ k, 0 < k → k < m → (k - 1) / 2 = i → d' j1 ≤ d' k) := Lib.hid fun k h1 h2 h3 => by
            have e1 := HJ1.out.2
            have e2 := HJ2.out.2
            obtain rfl | rfl : k = j1 ∨ k = j2 := by omega
            · exact Int.le_refl _
            · omega
          clear HL hlt2
          go_wp2_with fail
          refine HLL.out.mono ?_
          rintro e wx ⟨rfl, hgx⟩
          have HFx := Lib.hid (HI.out.1.kept hgx)
          have HSx := Lib.hid (HI.out.2.1.trans (Stp.of_new (h := h) (b := b) hgx))
          clear hgx c3 ml HLL
          have c3 := HFx.out.1.c3
          rw [HE.out] at c3
          have ml := mless c3
          have HL := less_at HFx.out HE.out (i := j1) (j := i) (by omega) (by omega)
          by_cases hlt : d' j1 < d' i
          · rw [decide_eq_true hlt] at HL
            have HLL := Lib.hid HL
            have HS : Hid (HDn m j1 (sw d' i j1)) := Lib.hid (HI.out.2.2.1.step (by have := HPar.out; omega) hjm HPar.out.1 HMin.out hlt)
            have hij : i < j1 := HPar.out.2
            clear HL hlt
            go_wp2_with fail
            refine HLL.out.mono ?_
            rintro e w1 ⟨rfl, hg1⟩
            have HF1 := Lib.hid (HFx.out.kept hg1)
            have HG1 := Lib.hid hg1
            clear c3 ml HLL hg1
            have c3 := HF1.out.1.c3
            rw [HE.out] at c3
            have ms := mswap c3
            have HSW := Lib.hid (swap_at HF1.out HE.out (i := i) (j := j1) (by omega) (by omega))
            go_wp2_with fail
            refine HSW.out.mono ?_
            rintro e w2 ⟨rfl, hf2, hs2⟩
            have HF2 := Lib.hid hf2
            have HS2 := Lib.hid ((HSx.out.trans (Stp.of_new HG1.out)).trans hs2)
            clear hf2 hs2 c3 ms HSW
            go_wp2_with fail
            go_roundg (n - j1)
            case measure => have := HM.out; omega
            case rel => exact ⟨j1, sw d' i j1, by first | rfl | go_num, by omega, Lib.hid (by omega), Lib.hid ⟨HF2.out, HS2.out, HS.out, HI.out.2.2.2.step (Nat.zero_le _) (by omega) (Nat.zero_le _) hjm⟩⟩
          · rw [decide_eq_false hlt] at HL
            have HLL := Lib.hid HL
            have HD := Lib.hid (HI.out.2.2.1.done (fun k h1 h2 h3 => by have := HMin.out k h1 h2 h3; omega))
            clear HL hlt
            go_wp2_with fail
            refine HLL.out.mono ?_
            rintro e w1 ⟨rfl, hg1⟩
            have HF1 := Lib.hid (HFx.out.kept hg1)
            have HG1 := Lib.hid hg1
            clear hg1 c3 ml HLL
            go_wp2
            go_ret
            exact ⟨⟨_, rfl⟩, d', HF1.out, HSx.out.trans (Stp.of_new HG1.out), HD.out, HI.out.2.2.2⟩
      · have hj2I : ¬ ((j1 : Int) + 1 < (m : Int)) := by omega
        have hjm := hj1m
        have HPar : Hid ((j1 - 1) / 2 = i ∧ i < j1) := Lib.hid (by have := HJ1.out.2; omega)
        have HMin : Hid (∀ k, 0 < k → k < m → (k - 1) / 2 = i → d' j1 ≤ d' k) := Lib.hid fun k h1 h2 h3 => by
          have e1 := HJ1.out.2
          obtain rfl : k = j1 := by omega
          exact Int.le_refl _
        have HFx := Lib.hid HI.out.1
        have HSx := Lib.hid HI.out.2.1
        have c3 := HFx.out.1.c3
        rw [HE.out] at c3
        have ml := mless c3
        have HL := less_at HFx.out HE.out (i := j1) (j := i) (by omega) (by omega)
        by_cases hlt : d' j1 < d' i
        · rw [decide_eq_true hlt] at HL
          have HLL := Lib.hid HL
          have HS : Hid (HDn m j1 (sw d' i j1)) := Lib.hid (HI.out.2.2.1.step (by have := HPar.out; omega) hjm HPar.out.1 HMin.out hlt)
          have hij : i < j1 := HPar.out.2
          clear HL hlt
          go_wp2_with fail
          refine HLL.out.mono ?_
          rintro e w1 ⟨rfl, hg1⟩
          have HF1 := Lib.hid (HFx.out.kept hg1)
          have HG1 := Lib.hid hg1
          clear c3 ml HLL hg1
          have c3 := HF1.out.1.c3
          rw [HE.out] at c3
          have ms := mswap c3
          have HSW := Lib.hid (swap_at HF1.out HE.out (i := i) (j := j1) (by omega) (by omega))
          go_wp2_with fail
          refine HSW.out.mono ?_
          rintro e w2 ⟨rfl, hf2, hs2⟩
          have HF2 := Lib.hid hf2
          have HS2 := Lib.hid ((HSx.out.trans (Stp.of_new HG1.out)).trans hs2)
          clear hf2 hs2 c3 ms HSW
          go_wp2_with fail
          go_roundg (n - j1)
          case measure => have := HM.out; omega
          case rel => exact ⟨j1, sw d' i j1, by first | rfl | go_num, by omega, Lib.hid (by omega), Lib.hid ⟨HF2.out, HS2.out, HS.out, HI.out.2.2.2.step (Nat.zero_le _) (by omega) (Nat.zero_le _) hjm⟩⟩
        · rw [decide_eq_false hlt] at HL
          have HLL := Lib.hid HL
          have HD := Lib.hid (HI.out.2.2.1.done (fun k h1 h2 h3 => by have := HMin.out k h1 h2 h3; omega))
          clear HL hlt
          go_wp2_with fail
          refine HLL.out.mono ?_
          rintro e w1 ⟨rfl, hg1⟩
          have HF1 := Lib.hid (HFx.out.kept hg1)
          have HG1 := Lib.hid hg1
          clear hg1 c3 ml HLL
          go_wp2
          go_ret
          exact ⟨⟨_, rfl⟩, d', HF1.out, HSx.out.trans (Stp.of_new HG1.out), HD.out, HI.out.2.2.2⟩
end
end Go.Proofs.Ythpcjgfbngemiaa
