/-
  The library's sort: the two partitions.
-/
import Derived.Test.YtnhjnciadmgkeaaDoorSHeap2
import Derived.Deep.CutRange
namespace Go.Proofs.YtnhjnciadmgkeaaDoor
open Go.ChangeShapes Go.WideShapes Go.ChangeAt Go.RowKit
set_option linter.unusedVariables false

/-- what is looked through so far: below the pivot at a, or not -/
structure Pt (a b i j : Nat) (d : Nat → Int) : Prop where
  ai : a < i
  ij : i ≤ j + 1
  jb : j < b
  left : ∀ k, a < k → k < i → d k < d a
  right : ∀ k, j < k → k < b → d a ≤ d k
theorem Pt.up {a b i j : Nat} {d : Nat → Int} (h : Pt a b i j d) (hij : i ≤ j) (hl : d i < d a) : Pt a b (i + 1) j d :=
  ⟨by have := h.ai; omega, by omega, h.jb, fun k h1 h2 => by
    by_cases hk : k = i
    · subst hk; exact hl
    · exact h.left k h1 (by omega), h.right⟩
theorem Pt.down {a b i j : Nat} {d : Nat → Int} (h : Pt a b i (j + 1) d) (hij : i ≤ j + 1) (hl : d a ≤ d (j + 1)) : Pt a b i j d :=
  ⟨h.ai, hij, by have := h.jb; omega, h.left, fun k h1 h2 => by
    by_cases hk : k = j + 1
    · subst hk; omega
    · exact h.right k (by omega) h2⟩
theorem Pt.swap {a b i j : Nat} {d : Nat → Int} (h : Pt a b i (j + 1) d) (hij : i ≤ j + 1) (h1 : d a ≤ d i) (h2 : d (j + 1) < d a) : i ≤ j ∧ Pt a b (i + 1) j (sw d i (j + 1)) := by
  have hne : i ≠ j + 1 := by rintro rfl; omega
  have ai := h.ai
  have ea : sw d i (j + 1) a = d a := by unfold sw; rw [if_neg (by omega), if_neg (by omega)]
  refine ⟨by omega, by omega, by omega, by have := h.jb; omega, fun k h3 h4 => ?_, fun k h3 h4 => ?_⟩
  · rw [ea]; unfold sw; rw [if_neg (by omega)]
    by_cases hk : k = i
    · rw [if_pos hk]; exact h2
    · rw [if_neg hk]; exact h.left k h3 (by omega)
  · rw [ea]; unfold sw
    by_cases hk : k = j + 1
    · rw [if_pos hk]; omega
    · rw [if_neg hk, if_neg (by omega)]; exact h.right k (by omega) h4
/-- the pivot goes to its place -/
structure Parted (a b m : Nat) (d : Nat → Int) : Prop where
  am : a ≤ m
  mb : m < b
  left : ∀ k, a ≤ k → k < m → d k < d m
  right : ∀ k, m < k → k < b → d m ≤ d k
theorem Pt.done {a b i j : Nat} {d : Nat → Int} (h : Pt a b i j d) (hij : ¬ i ≤ j) : Parted a b j (sw d j a) := by
  have ai := h.ai
  have hi := h.ij
  have ej : sw d j a j = d a := by
    unfold sw
    by_cases hk : j = a
    · rw [if_pos hk, hk]
    · rw [if_neg hk, if_pos rfl]
  refine ⟨by omega, h.jb, fun k h1 h2 => ?_, fun k h1 h2 => ?_⟩
  · rw [ej]; unfold sw
    by_cases hk : k = a
    · rw [if_pos hk]; exact h.left j (by omega) (by omega)
    · rw [if_neg hk, if_neg (by omega)]; exact h.left k (by omega) (by omega)
  · rw [ej]; unfold sw
    rw [if_neg (by omega), if_neg (by omega)]; exact h.right k h1 h2
/-- the same for what is not above the pivot, and above it -/
structure Pe (v : Int) (a b i j : Nat) (d : Nat → Int) : Prop where
  pv : d a = v
  ai : a < i
  ij : i ≤ j + 1
  jb : j < b
  left : ∀ k, a < k → k < i → d k ≤ d a
  right : ∀ k, j < k → k < b → d a < d k
theorem Pe.up {v : Int} {a b i j : Nat} {d : Nat → Int} (h : Pe v a b i j d) (hij : i ≤ j) (hl : d i ≤ d a) : Pe v a b (i + 1) j d :=
  ⟨h.pv, by have := h.ai; omega, by omega, h.jb, fun k h1 h2 => by
    by_cases hk : k = i
    · subst hk; omega
    · exact h.left k h1 (by omega), h.right⟩
theorem Pe.down {v : Int} {a b i j : Nat} {d : Nat → Int} (h : Pe v a b i (j + 1) d) (hij : i ≤ j + 1) (hl : d a < d (j + 1)) : Pe v a b i j d :=
  ⟨h.pv, h.ai, hij, by have := h.jb; omega, h.left, fun k h1 h2 => by
    by_cases hk : k = j + 1
    · subst hk; exact hl
    · exact h.right k (by omega) h2⟩
theorem Pe.swap {v : Int} {a b i j : Nat} {d : Nat → Int} (h : Pe v a b i (j + 1) d) (hij : i ≤ j + 1) (h1 : d a < d i) (h2 : d (j + 1) ≤ d a) : i ≤ j ∧ Pe v a b (i + 1) j (sw d i (j + 1)) := by
  have hne : i ≠ j + 1 := by rintro rfl; omega
  have ai := h.ai
  have ea : sw d i (j + 1) a = d a := by unfold sw; rw [if_neg (by omega), if_neg (by omega)]
  refine ⟨by omega, ea.trans h.pv, by omega, by omega, by have := h.jb; omega, fun k h3 h4 => ?_, fun k h3 h4 => ?_⟩
  · rw [ea]; unfold sw; rw [if_neg (by omega)]
    by_cases hk : k = i
    · rw [if_pos hk]; omega
    · rw [if_neg hk]; exact h.left k h3 (by omega)
  · rw [ea]; unfold sw
    by_cases hk : k = j + 1
    · rw [if_pos hk]; exact h1
    · rw [if_neg hk, if_neg (by omega)]; exact h.right k (by omega) h4
section
variable {w : World} {g n cap : Nat} {d : Nat → Int}
set_option maxRecDepth 100000 in
set_option maxHeartbeats 2000000 in
theorem part_at (h : DAt w g n d) (a b p : Nat) (hap : a ≤ p) (hpb : p < b) (hbn : b ≤ n) (hn : n ≤ 1000000) :
    Calls Tryd.prog 42 #[.slice (some ⟨g, 0, none⟩) n cap, .int .i64 (a : Int), .int .i64 (b : Int), .int .i64 (p : Int)] w fun r w' => ∃ (m : Nat) (al : Bool), r = .returned (.tuple #[.int .i64 (m : Int), .bool al]) ∧ ∃ d', SP w g n a b d w' d' ∧ Parted a b m d' := by
  have HP : Hid (SP w g n a b d w d ∧ True) := Lib.hid ⟨⟨h, .refl, But.refl _ _⟩, trivial⟩
  clear h
  go_enter Tryd.func42, Tryd.ntmps42
  go_wp2_with fail
  have cX := HP.out.1.at_.cell (i := a) (by omega)
  have cY := HP.out.1.at_.cell (i := p) (by omega)
  have fX := HP.out.1.at_.free a
  have fY := HP.out.1.at_.free p
  have ixX := ix34 g a n cap (by omega)
  have ixY := ix34 g p n cap (by omega)
  go_cut [24] from 12 to 25 (fun _ wc => Hid (SP w g n a b d wc (sw d a p)))
  case first =>
    have HSW : Hid (SP w g n a b d (((w.setCell ⟨g, a, none⟩ (.int .u64 (d p))).setCell ⟨g, p, none⟩ (.int .u64 (d a))).drewN 1) (sw d a p)) := Lib.hid ((HP.out.1.swap (by omega) (by omega) (by omega) (by omega)).drewN 1)
    clear HP
    by_cases hxy : a = p
    · subst hxy
      go_region
      go_wp2_with fail
      go_meet
      exact HSW
    · have hyx : ¬ (p = a) := fun e => hxy e.symm
      go_region
      go_wp2_with fail
      go_meet
      exact HSW
  case rest =>
    clear HP cX cY fX fY ixX ixY
    obtain ⟨d1, hd1⟩ : ∃ d1, d1 = sw d a p := ⟨_, rfl⟩
    obtain ⟨i0, hi0⟩ : ∃ i0, i0 = a + 1 := ⟨_, rfl⟩
    obtain ⟨j0, hj0⟩ : ∃ j0, j0 = b - 1 := ⟨_, rfl⟩
    have HS : Hid (SP w g n a b d wc d1 ∧ Pt a b i0 j0 d1) := Lib.hid ⟨by rw [hd1]; exact hcut.out, ⟨by omega, by omega, by omega, fun k h1 h2 => by omega, fun k h1 h2 => by omega⟩⟩
    have ei : (a : Int) + 1 = (i0 : Int) := by omega
    have ej : (b : Int) - 1 = (j0 : Int) := by omega
    have wi : IntKind.i64.wrap (i0 : Int) = (i0 : Int) := by rw [IntKind.wrap_i64]; omega
    have wj : IntKind.i64.wrap (j0 : Int) = (j0 : Int) := by rw [IntKind.wrap_i64]; omega
    have bj0 : j0 < n := by omega
    have bi0 : i0 ≤ n := by omega
    clear hd1 hi0 hj0 hcut
    go_wp2_with fail
    go_loopg [10] (b - i0) (fun m v wr => ∃ i : Nat, v = .int .i64 (i : Int) ∧ m + i = b ∧ (i0 ≤ i ∧ i ≤ j0 + 1) ∧ Hid (SP w g n a b d wr d1 ∧ Pt a b i j0 d1))
    case atStart => exact ⟨i0, by first | rfl | go_num, by have := HS.out.2.ij; have := HS.out.2.jb; omega, ⟨Nat.le_refl _, HS.out.2.ij⟩, HS⟩
    case round =>
      obtain ⟨i, rfl, hmv, hvb, HL⟩ := hrel
      obtain ⟨hva, hvb⟩ := hvb
      clear HS
      have hPij := HL.out.2.ij
      have hPai := HL.out.2.ai
      have hPjb := HL.out.2.jb
      obtain ⟨tu, htt⟩ : ∃ t : Bool, t = decide (i ≤ j0 ∧ d1 i < d1 a) := ⟨_, rfl⟩
      have HTT := Lib.hid htt
      clear htt
      go_wp2_with fail
      go_cut [43] from 30 to 45 (fun v wc => v = .bool tu ∧ Hid (SP w g n a b d wc d1 ∧ Pt a b i j0 d1))
      case first =>
        by_cases hij : i ≤ j0
        · have hle : decide ((i : Int) ≤ (j0 : Int)) = true := by simp; omega
          have ixv := ix34 g i n cap (by omega)
          have ixa := ix34 g a n cap (by omega)
          have cV := HL.out.1.at_.cell (i := i) (by omega)
          have cA := HL.out.1.at_.cell (i := a) (by omega)
          by_cases hl : d1 i < d1 a
          · have hlb : decide (d1 i < d1 a) = true := by simpa using hl
            have htt : tu = true := by rw [HTT.out]; simp; omega
            go_quiet ((go_at_call 40; exact quiet_same (less_any _ _ _)))
            have HC := Lib.hid (⟨HL.out.1.drewN nq, HL.out.2⟩ : SP w g n a b d (wr.drewN nq) d1 ∧ Pt a b i j0 d1)
            clear HL cV cA
            generalize wr.drewN nq = wq at *
            go_wp2_with fail
            go_meet
            exact ⟨by rw [htt], HC⟩
          · have hlb : decide (d1 i < d1 a) = false := by simpa using hl
            have htt : tu = false := by rw [HTT.out]; simp; omega
            go_quiet ((go_at_call 40; exact quiet_same (less_any _ _ _)))
            have HC := Lib.hid (⟨HL.out.1.drewN nq, HL.out.2⟩ : SP w g n a b d (wr.drewN nq) d1 ∧ Pt a b i j0 d1)
            clear HL cV cA
            generalize wr.drewN nq = wq at *
            go_wp2_with fail
            go_meet
            exact ⟨by rw [htt], HC⟩
        · have hle : decide ((i : Int) ≤ (j0 : Int)) = false := by simp; omega
          have htt : tu = false := by rw [HTT.out]; simp; omega
          go_quiet (fail)
          have HC := Lib.hid (⟨HL.out.1.drewN nq, HL.out.2⟩ : SP w g n a b d (wr.drewN nq) d1 ∧ Pt a b i j0 d1)
          clear HL
          generalize wr.drewN nq = wq at *
          go_wp2_with fail
          go_meet
          exact ⟨by rw [htt], HC⟩
      case rest =>
        obtain ⟨rfl, HC⟩ := hcut
        clear HL
        cases tu with
        | true =>
          have hc : i ≤ j0 ∧ d1 i < d1 a := of_decide_eq_true HTT.out.symm
          obtain ⟨hc1, hc2⟩ := hc
          clear HTT
          go_wp2_with fail
          go_roundg (gk - 1)
          case measure => omega
          case rel => exact ⟨i + 1, by first | rfl | go_num, by omega, ⟨by omega, by omega⟩, Lib.hid ⟨HC.out.1, HC.out.2.up hc1 hc2⟩⟩
        | false =>
          have HEU : Hid (¬ (i ≤ j0 ∧ d1 i < d1 a)) := Lib.hid (of_decide_eq_false HTT.out.symm)
          clear HTT
          obtain ⟨wn, hwn⟩ : ∃ wn : World, wn = wc := ⟨_, rfl⟩
          have HS2 : Hid (SP w g n a b d wn d1 ∧ Pt a b i j0 d1) := Lib.hid (by rw [hwn]; exact HC.out)
          rw [← hwn]
          clear hwn HC wc
          go_wp2_with fail
          go_loopg [11] (j0 + 1) (fun m v wr => ∃ j : Nat, v = .int .i64 (j : Int) ∧ m = j + 1 ∧ j ≤ j0 ∧ Hid (SP w g n a b d wr d1 ∧ Pt a b i j d1))
          case atStart => exact ⟨j0, by first | rfl | go_num, rfl, Nat.le_refl _, HS2⟩
          case round =>
            obtain ⟨j, rfl, hmv, hvb, HL⟩ := hrel
            clear HS2
            have hPij := HL.out.2.ij
            have hPai := HL.out.2.ai
            have hPjb := HL.out.2.jb
            obtain ⟨td, htt⟩ : ∃ t : Bool, t = decide (i ≤ j ∧ d1 a ≤ d1 j) := ⟨_, rfl⟩
            have HTT := Lib.hid htt
            clear htt
            go_wp2_with fail
            go_cut [60] from 46 to 62 (fun v wc => v = .bool td ∧ Hid (SP w g n a b d wc d1 ∧ Pt a b i j d1))
            case first =>
              by_cases hij : i ≤ j
              · have hle : decide ((i : Int) ≤ (j : Int)) = true := by simp; omega
                have ixv := ix34 g j n cap (by omega)
                have ixa := ix34 g a n cap (by omega)
                have cV := HL.out.1.at_.cell (i := j) (by omega)
                have cA := HL.out.1.at_.cell (i := a) (by omega)
                by_cases hl : d1 j < d1 a
                · have hlb : decide (d1 j < d1 a) = true := by simpa using hl
                  have htt : td = false := by rw [HTT.out]; simp; omega
                  go_quiet ((go_at_call 40; exact quiet_same (less_any _ _ _)))
                  have HC := Lib.hid (⟨HL.out.1.drewN nq, HL.out.2⟩ : SP w g n a b d (wr.drewN nq) d1 ∧ Pt a b i j d1)
                  clear HL cV cA
                  generalize wr.drewN nq = wq at *
                  go_wp2_with fail
                  go_meet
                  exact ⟨by rw [htt], HC⟩
                · have hlb : decide (d1 j < d1 a) = false := by simpa using hl
                  have htt : td = true := by rw [HTT.out]; simp; omega
                  go_quiet ((go_at_call 40; exact quiet_same (less_any _ _ _)))
                  have HC := Lib.hid (⟨HL.out.1.drewN nq, HL.out.2⟩ : SP w g n a b d (wr.drewN nq) d1 ∧ Pt a b i j d1)
                  clear HL cV cA
                  generalize wr.drewN nq = wq at *
                  go_wp2_with fail
                  go_meet
                  exact ⟨by rw [htt], HC⟩
              · have hle : decide ((i : Int) ≤ (j : Int)) = false := by simp; omega
                have htt : td = false := by rw [HTT.out]; simp; omega
                go_quiet (fail)
                have HC := Lib.hid (⟨HL.out.1.drewN nq, HL.out.2⟩ : SP w g n a b d (wr.drewN nq) d1 ∧ Pt a b i j d1)
                clear HL
                generalize wr.drewN nq = wq at *
                go_wp2_with fail
                go_meet
                exact ⟨by rw [htt], HC⟩
            case rest =>
              obtain ⟨rfl, HC⟩ := hcut
              clear HL
              cases td with
              | true =>
                have hc : i ≤ j ∧ d1 a ≤ d1 j := of_decide_eq_true HTT.out.symm
                obtain ⟨hc1, hc2⟩ := hc
                clear HTT
                obtain ⟨j1, hj1⟩ : ∃ j1, j = j1 + 1 := ⟨j - 1, by omega⟩
                have HJ := Lib.hid hj1
                have e1 : (j : Int) - 1 = (j1 : Int) := by omega
                have w1' : IntKind.i64.wrap (j1 : Int) = (j1 : Int) := by rw [IntKind.wrap_i64]; omega
                clear hj1
                go_wp2_with fail
                go_roundg (gk - 1)
                case measure => omega
                case rel =>
                  have hJ := HJ.out
                  refine ⟨j1, by first | rfl | go_num, by omega, by omega, Lib.hid ⟨HC.out.1, ?_⟩⟩
                  have hh := HC.out.2
                  rw [hJ] at hh hc2 hc1
                  exact hh.down hc1 hc2
              | false =>
                have HED : Hid (¬ (i ≤ j ∧ d1 a ≤ d1 j)) := Lib.hid (of_decide_eq_false HTT.out.symm)
                clear HTT
                obtain ⟨wn, hwn⟩ : ∃ wn : World, wn = wc := ⟨_, rfl⟩
                have HS2 : Hid (SP w g n a b d wn d1 ∧ Pt a b i j d1) := Lib.hid (by rw [hwn]; exact HC.out)
                rw [← hwn]
                clear hwn HC wc
                have hPij := HS2.out.2.ij
                have hPai := HS2.out.2.ai
                have hPjb := HS2.out.2.jb
                by_cases hfin : i ≤ j
                · have q1 : d1 a ≤ d1 i := Int.not_lt.1 fun h => HEU.out ⟨by omega, h⟩
                  have q2 : d1 j < d1 a := by
                    refine Int.not_le.1 fun h => HED.out ⟨hfin, by omega⟩
                  obtain ⟨j1, hj1⟩ : ∃ j1, j = j1 + 1 := ⟨j - 1, by omega⟩
                  have hsw : i ≤ j1 ∧ Pt a b (i + 1) j1 (sw d1 i j) := by
                    have hh := HS2.out.2
                    rw [hj1] at hh q2 hfin ⊢
                    exact hh.swap hfin q1 q2
                  have HSW : Hid (SP w g n a b d (((wn.setCell ⟨g, i, none⟩ (.int .u64 (d1 j))).setCell ⟨g, j, none⟩ (.int .u64 (d1 i))).drewN 1) (sw d1 i j) ∧ Pt a b (i + 1) j1 (sw d1 i j)) := Lib.hid ⟨(HS2.out.1.swap (by omega) (by omega) (by omega) (by omega)).drewN 1, hsw.2⟩
                  have hij1 := hsw.1
                  have hg1 : decide (j < i) = false := by simp; omega
                  have hg2 : decide ((j : Int) < (i : Int)) = false := by simp; omega
                  have ixi := ix34 g i n cap (by omega)
                  have ixj := ix34 g j n cap (by omega)
                  have cI := HS2.out.1.at_.cell (i := i) (by omega)
                  have cJ := HS2.out.1.at_.cell (i := j) (by omega)
                  have fI := HS2.out.1.at_.free i
                  have fJ := HS2.out.1.at_.free j
                  have hne : ¬ (i = j) := by omega
                  have hne2 : ¬ (j = i) := by omega
                  have e1 : (j : Int) - 1 = (j1 : Int) := by omega
                  have w1' : IntKind.i64.wrap (j1 : Int) = (j1 : Int) := by rw [IntKind.wrap_i64]; omega
                  have hJ := Lib.hid hj1
                  clear HS2 hsw hj1 q1 q2 HEU HED
                  go_wp2_with fail
                  go_region
                  clear cI cJ fI fJ ixi ixj
                  go_wp2_with fail
                  obtain ⟨w0, hw0⟩ : ∃ w0 : World, w0 = ((wn.setCell ⟨g, i, none⟩ (.int .u64 (d1 j))).setCell ⟨g, j, none⟩ (.int .u64 (d1 i))).drewN 1 := ⟨_, rfl⟩
                  have HS3 : Hid (SP w g n a b d w0 (sw d1 i j) ∧ Pt a b (i + 1) j1 (sw d1 i j)) := Lib.hid (by rw [hw0]; exact HSW.out)
                  have hw0' : w0 = ((wn.setCell ⟨g, i, none⟩ (.int .u64 (d1 j))).setCell ⟨g, j, none⟩ (.int .u64 (d1 i))).drew := hw0
                  rw [← hw0']
                  clear hw0 hw0' HSW
                  go_loopg [10, 11] (j1 + 1 - (i + 1)) (fun m v u wr => ∃ (i' j' : Nat) (d2 : Nat → Int), v = .int .i64 (i' : Int) ∧ u = .int .i64 (j' : Int) ∧ m = j' + 1 - i' ∧ j' < n ∧ Hid (SP w g n a b d wr d2 ∧ Pt a b i' j' d2))
                  case atStart => exact ⟨i + 1, j1, sw d1 i j, by first | rfl | go_num, by first | rfl | go_num, rfl, by have := hJ.out; omega, HS3⟩
                  case round =>
                    clear HS3 hmv hvb hPij hPai hPjb hfin hne hne2 e1 w1' hij1 hJ hg1 hg2
                    obtain ⟨i1, j2, d2, rfl, rfl, hgm, hj2n, HS⟩ := hrel
                    obtain ⟨wo, hwo⟩ : ∃ wo : World, wo = wr := ⟨_, rfl⟩
                    rw [← hwo] at HS ⊢
                    clear hwo wr
                    have hQij := HS.out.2.ij
                    have hQjb := HS.out.2.jb
                    go_wp2_with fail
                    go_loopg [10] (b - i1) (fun m v wr => ∃ i : Nat, v = .int .i64 (i : Int) ∧ m + i = b ∧ (i1 ≤ i ∧ i ≤ j2 + 1) ∧ Hid (SP w g n a b d wr d2 ∧ Pt a b i j2 d2))
                    case atStart => exact ⟨i1, by first | rfl | go_num, by have := HS.out.2.ij; have := HS.out.2.jb; omega, ⟨Nat.le_refl _, HS.out.2.ij⟩, HS⟩
                    case round =>
                      obtain ⟨i, rfl, hmv, hvb, HL⟩ := hrel
                      obtain ⟨hva, hvb⟩ := hvb
                      clear HS
                      have hPij := HL.out.2.ij
                      have hPai := HL.out.2.ai
                      have hPjb := HL.out.2.jb
                      obtain ⟨tu, htt⟩ : ∃ t : Bool, t = decide (i ≤ j2 ∧ d2 i < d2 a) := ⟨_, rfl⟩
                      have HTT := Lib.hid htt
                      clear htt
                      go_wp2_with fail
                      go_cut [112] from 99 to 114 (fun v wc => v = .bool tu ∧ Hid (SP w g n a b d wc d2 ∧ Pt a b i j2 d2))
                      case first =>
                        by_cases hij : i ≤ j2
                        · have hle : decide ((i : Int) ≤ (j2 : Int)) = true := by simp; omega
                          have ixv := ix34 g i n cap (by omega)
                          have ixa := ix34 g a n cap (by omega)
                          have cV := HL.out.1.at_.cell (i := i) (by omega)
                          have cA := HL.out.1.at_.cell (i := a) (by omega)
                          by_cases hl : d2 i < d2 a
                          · have hlb : decide (d2 i < d2 a) = true := by simpa using hl
                            have htt : tu = true := by rw [HTT.out]; simp; omega
                            go_quiet ((go_at_call 40; exact quiet_same (less_any _ _ _)))
                            have HC := Lib.hid (⟨HL.out.1.drewN nq, HL.out.2⟩ : SP w g n a b d (wr.drewN nq) d2 ∧ Pt a b i j2 d2)
                            clear HL cV cA
                            generalize wr.drewN nq = wq at *
                            go_wp2_with fail
                            go_meet
                            exact ⟨by rw [htt], HC⟩
                          · have hlb : decide (d2 i < d2 a) = false := by simpa using hl
                            have htt : tu = false := by rw [HTT.out]; simp; omega
                            go_quiet ((go_at_call 40; exact quiet_same (less_any _ _ _)))
                            have HC := Lib.hid (⟨HL.out.1.drewN nq, HL.out.2⟩ : SP w g n a b d (wr.drewN nq) d2 ∧ Pt a b i j2 d2)
                            clear HL cV cA
                            generalize wr.drewN nq = wq at *
                            go_wp2_with fail
                            go_meet
                            exact ⟨by rw [htt], HC⟩
                        · have hle : decide ((i : Int) ≤ (j2 : Int)) = false := by simp; omega
                          have htt : tu = false := by rw [HTT.out]; simp; omega
                          go_quiet (fail)
                          have HC := Lib.hid (⟨HL.out.1.drewN nq, HL.out.2⟩ : SP w g n a b d (wr.drewN nq) d2 ∧ Pt a b i j2 d2)
                          clear HL
                          generalize wr.drewN nq = wq at *
                          go_wp2_with fail
                          go_meet
                          exact ⟨by rw [htt], HC⟩
                      case rest =>
                        obtain ⟨rfl, HC⟩ := hcut
                        clear HL
                        cases tu with
                        | true =>
                          have hc : i ≤ j2 ∧ d2 i < d2 a := of_decide_eq_true HTT.out.symm
                          obtain ⟨hc1, hc2⟩ := hc
                          clear HTT
                          go_wp2_with fail
                          go_roundg (gk - 1)
                          case measure => omega
                          case rel => exact ⟨i + 1, by first | rfl | go_num, by omega, ⟨by omega, by omega⟩, Lib.hid ⟨HC.out.1, HC.out.2.up hc1 hc2⟩⟩
                        | false =>
                          have HEU : Hid (¬ (i ≤ j2 ∧ d2 i < d2 a)) := Lib.hid (of_decide_eq_false HTT.out.symm)
                          clear HTT
                          obtain ⟨wn, hwn⟩ : ∃ wn : World, wn = wc := ⟨_, rfl⟩
                          have HS2 : Hid (SP w g n a b d wn d2 ∧ Pt a b i j2 d2) := Lib.hid (by rw [hwn]; exact HC.out)
                          rw [← hwn]
                          clear hwn HC wc
                          go_wp2_with fail
                          go_loopg [11] (j2 + 1) (fun m v wr => ∃ j : Nat, v = .int .i64 (j : Int) ∧ m = j + 1 ∧ j ≤ j2 ∧ Hid (SP w g n a b d wr d2 ∧ Pt a b i j d2))
                          case atStart => exact ⟨j2, by first | rfl | go_num, rfl, Nat.le_refl _, HS2⟩
                          case round =>
                            obtain ⟨j, rfl, hmv, hvb, HL⟩ := hrel
                            clear HS2
                            have hPij := HL.out.2.ij
                            have hPai := HL.out.2.ai
                            have hPjb := HL.out.2.jb
                            obtain ⟨td, htt⟩ : ∃ t : Bool, t = decide (i ≤ j ∧ d2 a ≤ d2 j) := ⟨_, rfl⟩
                            have HTT := Lib.hid htt
                            clear htt
                            go_wp2_with fail
                            go_cut [129] from 115 to 131 (fun v wc => v = .bool td ∧ Hid (SP w g n a b d wc d2 ∧ Pt a b i j d2))
                            case first =>
                              by_cases hij : i ≤ j
                              · have hle : decide ((i : Int) ≤ (j : Int)) = true := by simp; omega
                                have ixv := ix34 g j n cap (by omega)
                                have ixa := ix34 g a n cap (by omega)
                                have cV := HL.out.1.at_.cell (i := j) (by omega)
                                have cA := HL.out.1.at_.cell (i := a) (by omega)
                                by_cases hl : d2 j < d2 a
                                · have hlb : decide (d2 j < d2 a) = true := by simpa using hl
                                  have htt : td = false := by rw [HTT.out]; simp; omega
                                  go_quiet ((go_at_call 40; exact quiet_same (less_any _ _ _)))
                                  have HC := Lib.hid (⟨HL.out.1.drewN nq, HL.out.2⟩ : SP w g n a b d (wr.drewN nq) d2 ∧ Pt a b i j d2)
                                  clear HL cV cA
                                  generalize wr.drewN nq = wq at *
                                  go_wp2_with fail
                                  go_meet
                                  exact ⟨by rw [htt], HC⟩
                                · have hlb : decide (d2 j < d2 a) = false := by simpa using hl
                                  have htt : td = true := by rw [HTT.out]; simp; omega
                                  go_quiet ((go_at_call 40; exact quiet_same (less_any _ _ _)))
                                  have HC := Lib.hid (⟨HL.out.1.drewN nq, HL.out.2⟩ : SP w g n a b d (wr.drewN nq) d2 ∧ Pt a b i j d2)
                                  clear HL cV cA
                                  generalize wr.drewN nq = wq at *
                                  go_wp2_with fail
                                  go_meet
                                  exact ⟨by rw [htt], HC⟩
                              · have hle : decide ((i : Int) ≤ (j : Int)) = false := by simp; omega
                                have htt : td = false := by rw [HTT.out]; simp; omega
                                go_quiet (fail)
                                have HC := Lib.hid (⟨HL.out.1.drewN nq, HL.out.2⟩ : SP w g n a b d (wr.drewN nq) d2 ∧ Pt a b i j d2)
                                clear HL
                                generalize wr.drewN nq = wq at *
                                go_wp2_with fail
                                go_meet
                                exact ⟨by rw [htt], HC⟩
                            case rest =>
                              obtain ⟨rfl, HC⟩ := hcut
                              clear HL
                              cases td with
                              | true =>
                                have hc : i ≤ j ∧ d2 a ≤ d2 j := of_decide_eq_true HTT.out.symm
                                obtain ⟨hc1, hc2⟩ := hc
                                clear HTT
                                obtain ⟨j1, hj1⟩ : ∃ j1, j = j1 + 1 := ⟨j - 1, by omega⟩
                                have HJ := Lib.hid hj1
                                have e1 : (j : Int) - 1 = (j1 : Int) := by omega
                                have w1' : IntKind.i64.wrap (j1 : Int) = (j1 : Int) := by rw [IntKind.wrap_i64]; omega
                                clear hj1
                                go_wp2_with fail
                                go_roundg (gk - 1)
                                case measure => omega
                                case rel =>
                                  have hJ := HJ.out
                                  refine ⟨j1, by first | rfl | go_num, by omega, by omega, Lib.hid ⟨HC.out.1, ?_⟩⟩
                                  have hh := HC.out.2
                                  rw [hJ] at hh hc2 hc1
                                  exact hh.down hc1 hc2
                              | false =>
                                have HED : Hid (¬ (i ≤ j ∧ d2 a ≤ d2 j)) := Lib.hid (of_decide_eq_false HTT.out.symm)
                                clear HTT
                                obtain ⟨wn, hwn⟩ : ∃ wn : World, wn = wc := ⟨_, rfl⟩
                                have HS2 : Hid (SP w g n a b d wn d2 ∧ Pt a b i j d2) := Lib.hid (by rw [hwn]; exact HC.out)
                                rw [← hwn]
                                clear hwn HC wc
                                have hPij := HS2.out.2.ij
                                have hPai := HS2.out.2.ai
                                have hPjb := HS2.out.2.jb
                                by_cases hfin : i ≤ j
                                · have q1 : d2 a ≤ d2 i := Int.not_lt.1 fun h => HEU.out ⟨by omega, h⟩
                                  have q2 : d2 j < d2 a := by
                                    refine Int.not_le.1 fun h => HED.out ⟨hfin, by omega⟩
                                  obtain ⟨j1, hj1⟩ : ∃ j1, j = j1 + 1 := ⟨j - 1, by omega⟩
                                  have hsw : i ≤ j1 ∧ Pt a b (i + 1) j1 (sw d2 i j) := by
                                    have hh := HS2.out.2
                                    rw [hj1] at hh q2 hfin ⊢
                                    exact hh.swap hfin q1 q2
                                  have HSW : Hid (SP w g n a b d (((wn.setCell ⟨g, i, none⟩ (.int .u64 (d2 j))).setCell ⟨g, j, none⟩ (.int .u64 (d2 i))).drewN 1) (sw d2 i j) ∧ Pt a b (i + 1) j1 (sw d2 i j)) := Lib.hid ⟨(HS2.out.1.swap (by omega) (by omega) (by omega) (by omega)).drewN 1, hsw.2⟩
                                  have hij1 := hsw.1
                                  have hg1 : decide (j < i) = false := by simp; omega
                                  have hg2 : decide ((j : Int) < (i : Int)) = false := by simp; omega
                                  have ixi := ix34 g i n cap (by omega)
                                  have ixj := ix34 g j n cap (by omega)
                                  have cI := HS2.out.1.at_.cell (i := i) (by omega)
                                  have cJ := HS2.out.1.at_.cell (i := j) (by omega)
                                  have fI := HS2.out.1.at_.free i
                                  have fJ := HS2.out.1.at_.free j
                                  have hne : ¬ (i = j) := by omega
                                  have hne2 : ¬ (j = i) := by omega
                                  have e1 : (j : Int) - 1 = (j1 : Int) := by omega
                                  have w1' : IntKind.i64.wrap (j1 : Int) = (j1 : Int) := by rw [IntKind.wrap_i64]; omega
                                  have hJ := Lib.hid hj1
                                  clear HS2 hsw hj1 q1 q2 HEU HED
                                  go_wp2_with fail
                                  go_region
                                  clear cI cJ fI fJ ixi ixj
                                  go_wp2_with fail
                                  go_roundg (j1 + 1 - (i + 1))
                                  case measure => have := hJ.out; omega
                                  case rel => exact ⟨i + 1, j1, sw d2 i j, by first | rfl | go_num, by first | rfl | go_num, rfl, by have := hJ.out; omega, HSW⟩
                                · have HPF := Lib.hid (HS2.out.2.done hfin)
                                  go_wp2_with fail
                                  have cX := HS2.out.1.at_.cell (i := j) (by omega)
                                  have cY := HS2.out.1.at_.cell (i := a) (by omega)
                                  have fX := HS2.out.1.at_.free j
                                  have fY := HS2.out.1.at_.free a
                                  have ixX := ix34 g j n cap (by omega)
                                  have ixY := ix34 g a n cap (by omega)
                                  go_cut [166] from 153 to 166 (fun _ wc => Hid (SP w g n a b d wc (sw d2 j a)))
                                  case first =>
                                    have HSW : Hid (SP w g n a b d (((wn.setCell ⟨g, j, none⟩ (.int .u64 (d2 a))).setCell ⟨g, a, none⟩ (.int .u64 (d2 j))).drewN 1) (sw d2 j a)) := Lib.hid ((HS2.out.1.swap (by omega) (by omega) (by omega) (by omega)).drewN 1)
                                    clear HS2
                                    by_cases hxy : j = a
                                    · subst hxy
                                      go_region
                                      go_wp2_with fail
                                      go_meet
                                      exact HSW
                                    · have hyx : ¬ (a = j) := fun e => hxy e.symm
                                      go_region
                                      go_wp2_with fail
                                      go_meet
                                      exact HSW
                                  case rest =>
                                    go_wp2
                                    go_ret2
                                    exact ⟨j, _, rfl, _, hcut.out, HPF.out⟩
                · have HPF := Lib.hid (HS2.out.2.done hfin)
                  go_wp2_with fail
                  have cX := HS2.out.1.at_.cell (i := j) (by omega)
                  have cY := HS2.out.1.at_.cell (i := a) (by omega)
                  have fX := HS2.out.1.at_.free j
                  have fY := HS2.out.1.at_.free a
                  have ixX := ix34 g j n cap (by omega)
                  have ixY := ix34 g a n cap (by omega)
                  go_cut [79] from 66 to 79 (fun _ wc => Hid (SP w g n a b d wc (sw d1 j a)))
                  case first =>
                    have HSW : Hid (SP w g n a b d (((wn.setCell ⟨g, j, none⟩ (.int .u64 (d1 a))).setCell ⟨g, a, none⟩ (.int .u64 (d1 j))).drewN 1) (sw d1 j a)) := Lib.hid ((HS2.out.1.swap (by omega) (by omega) (by omega) (by omega)).drewN 1)
                    clear HS2
                    by_cases hxy : j = a
                    · subst hxy
                      go_region
                      go_wp2_with fail
                      go_meet
                      exact HSW
                    · have hyx : ¬ (a = j) := fun e => hxy e.symm
                      go_region
                      go_wp2_with fail
                      go_meet
                      exact HSW
                  case rest =>
                    go_wp2
                    go_ret2
                    exact ⟨j, _, rfl, _, hcut.out, HPF.out⟩
set_option maxRecDepth 100000 in
set_option maxHeartbeats 2000000 in
theorem equal_at (h : DAt w g n d) (a b p : Nat) (hap : a ≤ p) (hpb : p < b) (hbn : b ≤ n) (hn : n ≤ 1000000) :
    Calls Tryd.prog 41 #[.slice (some ⟨g, 0, none⟩) n cap, .int .i64 (a : Int), .int .i64 (b : Int), .int .i64 (p : Int)] w fun r w' => ∃ (m : Nat), r = .returned (.int .i64 (m : Int)) ∧ ∃ d', SP w g n a b d w' d' ∧ a < m ∧ m ≤ b ∧ (∀ k, a ≤ k → k < m → d' k ≤ d p) ∧ (∀ k, m ≤ k → k < b → d p < d' k) := by
  have HP : Hid (SP w g n a b d w d ∧ True) := Lib.hid ⟨⟨h, .refl, But.refl _ _⟩, trivial⟩
  clear h
  go_enter Tryd.func41, Tryd.ntmps41
  go_wp2_with fail
  have cX := HP.out.1.at_.cell (i := a) (by omega)
  have cY := HP.out.1.at_.cell (i := p) (by omega)
  have fX := HP.out.1.at_.free a
  have fY := HP.out.1.at_.free p
  have ixX := ix34 g a n cap (by omega)
  have ixY := ix34 g p n cap (by omega)
  go_cut [23] from 11 to 24 (fun _ wc => Hid (SP w g n a b d wc (sw d a p)))
  case first =>
    have HSW : Hid (SP w g n a b d (((w.setCell ⟨g, a, none⟩ (.int .u64 (d p))).setCell ⟨g, p, none⟩ (.int .u64 (d a))).drewN 1) (sw d a p)) := Lib.hid ((HP.out.1.swap (by omega) (by omega) (by omega) (by omega)).drewN 1)
    clear HP
    by_cases hxy : a = p
    · subst hxy
      go_region
      go_wp2_with fail
      go_meet
      exact HSW
    · have hyx : ¬ (p = a) := fun e => hxy e.symm
      go_region
      go_wp2_with fail
      go_meet
      exact HSW
  case rest =>
    clear HP cX cY fX fY ixX ixY
    obtain ⟨d1, hd1⟩ : ∃ d1, d1 = sw d a p := ⟨_, rfl⟩
    obtain ⟨pv, hv⟩ : ∃ pv, pv = d p := ⟨_, rfl⟩
    have HV := Lib.hid hv
    have hva : d1 a = pv := by
      rw [hd1, hv]; unfold sw
      by_cases hk : a = p
      · rw [if_pos hk, hk]
      · rw [if_neg hk, if_pos rfl]
    obtain ⟨i0, hi0⟩ : ∃ i0, i0 = a + 1 := ⟨_, rfl⟩
    obtain ⟨j0, hj0⟩ : ∃ j0, j0 = b - 1 := ⟨_, rfl⟩
    have HS0 : Hid (SP w g n a b d wc d1 ∧ Pe pv a b i0 j0 d1) := Lib.hid ⟨by rw [hd1]; exact hcut.out, ⟨hva, by omega, by omega, by omega, fun k h1 h2 => by omega, fun k h1 h2 => by omega⟩⟩
    have ei : (a : Int) + 1 = (i0 : Int) := by omega
    have ej : (b : Int) - 1 = (j0 : Int) := by omega
    have wi : IntKind.i64.wrap (i0 : Int) = (i0 : Int) := by rw [IntKind.wrap_i64]; omega
    have wj : IntKind.i64.wrap (j0 : Int) = (j0 : Int) := by rw [IntKind.wrap_i64]; omega
    have bj0 : j0 < n := by omega
    have bi0 : i0 ≤ n := by omega
    clear hd1 hi0 hj0 hcut hv hva
    go_wp2_with fail
    go_loopg [9, 10] (j0 + 1 - i0) (fun m v' u wr => ∃ (i' j' : Nat) (d2 : Nat → Int), v' = .int .i64 (i' : Int) ∧ u = .int .i64 (j' : Int) ∧ m = j' + 1 - i' ∧ j' < n ∧ Hid (SP w g n a b d wr d2 ∧ Pe pv a b i' j' d2))
    case atStart => exact ⟨i0, j0, d1, by first | rfl | go_num, by first | rfl | go_num, rfl, by omega, HS0⟩
    case round =>
      clear HS0
      obtain ⟨i1, j2, d2, rfl, rfl, hgm, hj2n, HS⟩ := hrel
      obtain ⟨wo, hwo⟩ : ∃ wo : World, wo = wr := ⟨_, rfl⟩
      rw [← hwo] at HS ⊢
      clear hwo wr
      have hQij := HS.out.2.ij
      have hQjb := HS.out.2.jb
      go_wp2_with fail
      go_loopg [9] (b - i1) (fun m v wr => ∃ i : Nat, v = .int .i64 (i : Int) ∧ m + i = b ∧ (i1 ≤ i ∧ i ≤ j2 + 1) ∧ Hid (SP w g n a b d wr d2 ∧ Pe pv a b i j2 d2))
      case atStart => exact ⟨i1, by first | rfl | go_num, by have := HS.out.2.ij; have := HS.out.2.jb; omega, ⟨Nat.le_refl _, HS.out.2.ij⟩, HS⟩
      case round =>
        obtain ⟨i, rfl, hmv, hvb, HL⟩ := hrel
        obtain ⟨hva, hvb⟩ := hvb
        clear HS
        have hPij := HL.out.2.ij
        have hPai := HL.out.2.ai
        have hPjb := HL.out.2.jb
        obtain ⟨tu, htt⟩ : ∃ t : Bool, t = decide (i ≤ j2 ∧ d2 i ≤ d2 a) := ⟨_, rfl⟩
        have HTT := Lib.hid htt
        clear htt
        go_wp2_with fail
        go_cut [43] from 29 to 45 (fun v wc => v = .bool tu ∧ Hid (SP w g n a b d wc d2 ∧ Pe pv a b i j2 d2))
        case first =>
          by_cases hij : i ≤ j2
          · have hle : decide ((i : Int) ≤ (j2 : Int)) = true := by simp; omega
            have ixv := ix34 g i n cap (by omega)
            have ixa := ix34 g a n cap (by omega)
            have cV := HL.out.1.at_.cell (i := i) (by omega)
            have cA := HL.out.1.at_.cell (i := a) (by omega)
            by_cases hl : d2 a < d2 i
            · have hlb : decide (d2 a < d2 i) = true := by simpa using hl
              have htt : tu = false := by rw [HTT.out]; simp; omega
              go_quiet ((go_at_call 40; exact quiet_same (less_any _ _ _)))
              have HC := Lib.hid (⟨HL.out.1.drewN nq, HL.out.2⟩ : SP w g n a b d (wr.drewN nq) d2 ∧ Pe pv a b i j2 d2)
              clear HL cV cA
              generalize wr.drewN nq = wq at *
              go_wp2_with fail
              go_meet
              exact ⟨by rw [htt], HC⟩
            · have hlb : decide (d2 a < d2 i) = false := by simpa using hl
              have htt : tu = true := by rw [HTT.out]; simp; omega
              go_quiet ((go_at_call 40; exact quiet_same (less_any _ _ _)))
              have HC := Lib.hid (⟨HL.out.1.drewN nq, HL.out.2⟩ : SP w g n a b d (wr.drewN nq) d2 ∧ Pe pv a b i j2 d2)
              clear HL cV cA
              generalize wr.drewN nq = wq at *
              go_wp2_with fail
              go_meet
              exact ⟨by rw [htt], HC⟩
          · have hle : decide ((i : Int) ≤ (j2 : Int)) = false := by simp; omega
            have htt : tu = false := by rw [HTT.out]; simp; omega
            go_quiet (fail)
            have HC := Lib.hid (⟨HL.out.1.drewN nq, HL.out.2⟩ : SP w g n a b d (wr.drewN nq) d2 ∧ Pe pv a b i j2 d2)
            clear HL
            generalize wr.drewN nq = wq at *
            go_wp2_with fail
            go_meet
            exact ⟨by rw [htt], HC⟩
        case rest =>
          obtain ⟨rfl, HC⟩ := hcut
          clear HL
          cases tu with
          | true =>
            have hc : i ≤ j2 ∧ d2 i ≤ d2 a := of_decide_eq_true HTT.out.symm
            obtain ⟨hc1, hc2⟩ := hc
            clear HTT
            go_wp2_with fail
            go_roundg (gk - 1)
            case measure => omega
            case rel => exact ⟨i + 1, by first | rfl | go_num, by omega, ⟨by omega, by omega⟩, Lib.hid ⟨HC.out.1, HC.out.2.up hc1 hc2⟩⟩
          | false =>
            have HEU : Hid (¬ (i ≤ j2 ∧ d2 i ≤ d2 a)) := Lib.hid (of_decide_eq_false HTT.out.symm)
            clear HTT
            obtain ⟨wn, hwn⟩ : ∃ wn : World, wn = wc := ⟨_, rfl⟩
            have HS2 : Hid (SP w g n a b d wn d2 ∧ Pe pv a b i j2 d2) := Lib.hid (by rw [hwn]; exact HC.out)
            rw [← hwn]
            clear hwn HC wc
            go_wp2_with fail
            go_loopg [10] (j2 + 1) (fun m v wr => ∃ j : Nat, v = .int .i64 (j : Int) ∧ m = j + 1 ∧ j ≤ j2 ∧ Hid (SP w g n a b d wr d2 ∧ Pe pv a b i j d2))
            case atStart => exact ⟨j2, by first | rfl | go_num, rfl, Nat.le_refl _, HS2⟩
            case round =>
              obtain ⟨j, rfl, hmv, hvb, HL⟩ := hrel
              clear HS2
              have hPij := HL.out.2.ij
              have hPai := HL.out.2.ai
              have hPjb := HL.out.2.jb
              obtain ⟨td, htt⟩ : ∃ t : Bool, t = decide (i ≤ j ∧ d2 a < d2 j) := ⟨_, rfl⟩
              have HTT := Lib.hid htt
              clear htt
              go_wp2_with fail
              go_cut [59] from 46 to 61 (fun v wc => v = .bool td ∧ Hid (SP w g n a b d wc d2 ∧ Pe pv a b i j d2))
              case first =>
                by_cases hij : i ≤ j
                · have hle : decide ((i : Int) ≤ (j : Int)) = true := by simp; omega
                  have ixv := ix34 g j n cap (by omega)
                  have ixa := ix34 g a n cap (by omega)
                  have cV := HL.out.1.at_.cell (i := j) (by omega)
                  have cA := HL.out.1.at_.cell (i := a) (by omega)
                  by_cases hl : d2 a < d2 j
                  · have hlb : decide (d2 a < d2 j) = true := by simpa using hl
                    have htt : td = true := by rw [HTT.out]; simp; omega
                    go_quiet ((go_at_call 40; exact quiet_same (less_any _ _ _)))
                    have HC := Lib.hid (⟨HL.out.1.drewN nq, HL.out.2⟩ : SP w g n a b d (wr.drewN nq) d2 ∧ Pe pv a b i j d2)
                    clear HL cV cA
                    generalize wr.drewN nq = wq at *
                    go_wp2_with fail
                    go_meet
                    exact ⟨by rw [htt], HC⟩
                  · have hlb : decide (d2 a < d2 j) = false := by simpa using hl
                    have htt : td = false := by rw [HTT.out]; simp; omega
                    go_quiet ((go_at_call 40; exact quiet_same (less_any _ _ _)))
                    have HC := Lib.hid (⟨HL.out.1.drewN nq, HL.out.2⟩ : SP w g n a b d (wr.drewN nq) d2 ∧ Pe pv a b i j d2)
                    clear HL cV cA
                    generalize wr.drewN nq = wq at *
                    go_wp2_with fail
                    go_meet
                    exact ⟨by rw [htt], HC⟩
                · have hle : decide ((i : Int) ≤ (j : Int)) = false := by simp; omega
                  have htt : td = false := by rw [HTT.out]; simp; omega
                  go_quiet (fail)
                  have HC := Lib.hid (⟨HL.out.1.drewN nq, HL.out.2⟩ : SP w g n a b d (wr.drewN nq) d2 ∧ Pe pv a b i j d2)
                  clear HL
                  generalize wr.drewN nq = wq at *
                  go_wp2_with fail
                  go_meet
                  exact ⟨by rw [htt], HC⟩
              case rest =>
                obtain ⟨rfl, HC⟩ := hcut
                clear HL
                cases td with
                | true =>
                  have hc : i ≤ j ∧ d2 a < d2 j := of_decide_eq_true HTT.out.symm
                  obtain ⟨hc1, hc2⟩ := hc
                  clear HTT
                  obtain ⟨j1, hj1⟩ : ∃ j1, j = j1 + 1 := ⟨j - 1, by omega⟩
                  have HJ := Lib.hid hj1
                  have e1 : (j : Int) - 1 = (j1 : Int) := by omega
                  have w1' : IntKind.i64.wrap (j1 : Int) = (j1 : Int) := by rw [IntKind.wrap_i64]; omega
                  clear hj1
                  go_wp2_with fail
                  go_roundg (gk - 1)
                  case measure => omega
                  case rel =>
                    have hJ := HJ.out
                    refine ⟨j1, by first | rfl | go_num, by omega, by omega, Lib.hid ⟨HC.out.1, ?_⟩⟩
                    have hh := HC.out.2
                    rw [hJ] at hh hc2 hc1
                    exact hh.down hc1 hc2
                | false =>
                  have HED : Hid (¬ (i ≤ j ∧ d2 a < d2 j)) := Lib.hid (of_decide_eq_false HTT.out.symm)
                  clear HTT
                  obtain ⟨wn, hwn⟩ : ∃ wn : World, wn = wc := ⟨_, rfl⟩
                  have HS2 : Hid (SP w g n a b d wn d2 ∧ Pe pv a b i j d2) := Lib.hid (by rw [hwn]; exact HC.out)
                  rw [← hwn]
                  clear hwn HC wc
                  have hPij := HS2.out.2.ij
                  have hPai := HS2.out.2.ai
                  have hPjb := HS2.out.2.jb
                  by_cases hfin : i ≤ j
                  · have q1 : d2 a < d2 i := Int.not_le.1 fun h => HEU.out ⟨by omega, h⟩
                    have q2 : d2 j ≤ d2 a := Int.not_lt.1 fun h => HED.out ⟨hfin, h⟩
                    obtain ⟨j1, hj1⟩ : ∃ j1, j = j1 + 1 := ⟨j - 1, by omega⟩
                    have hsw : i ≤ j1 ∧ Pe pv a b (i + 1) j1 (sw d2 i j) := by
                      have hh := HS2.out.2
                      rw [hj1] at hh q2 hfin ⊢
                      exact hh.swap hfin q1 q2
                    have HSW : Hid (SP w g n a b d (((wn.setCell ⟨g, i, none⟩ (.int .u64 (d2 j))).setCell ⟨g, j, none⟩ (.int .u64 (d2 i))).drewN 1) (sw d2 i j) ∧ Pe pv a b (i + 1) j1 (sw d2 i j)) := Lib.hid ⟨(HS2.out.1.swap (by omega) (by omega) (by omega) (by omega)).drewN 1, hsw.2⟩
                    have hij1 := hsw.1
                    have hg1 : decide (j < i) = false := by simp; omega
                    have hg2 : decide ((j : Int) < (i : Int)) = false := by simp; omega
                    have ixi := ix34 g i n cap (by omega)
                    have ixj := ix34 g j n cap (by omega)
                    have cI := HS2.out.1.at_.cell (i := i) (by omega)
                    have cJ := HS2.out.1.at_.cell (i := j) (by omega)
                    have fI := HS2.out.1.at_.free i
                    have fJ := HS2.out.1.at_.free j
                    have hne : ¬ (i = j) := by omega
                    have hne2 : ¬ (j = i) := by omega
                    have e1 : (j : Int) - 1 = (j1 : Int) := by omega
                    have w1' : IntKind.i64.wrap (j1 : Int) = (j1 : Int) := by rw [IntKind.wrap_i64]; omega
                    have hJ := Lib.hid hj1
                    clear HS2 hsw hj1 q1 q2 HEU HED
                    go_wp2_with fail
                    go_region
                    clear cI cJ fI fJ ixi ixj
                    go_wp2_with fail
                    go_roundg (j1 + 1 - (i + 1))
                    case measure => have := hJ.out; omega
                    case rel => exact ⟨i + 1, j1, sw d2 i j, by first | rfl | go_num, by first | rfl | go_num, rfl, by have := hJ.out; omega, HSW⟩
                  · go_wp2
                    go_ret
                    refine ⟨i, rfl, d2, HS2.out.1, hPai, by omega, fun k h1 h2 => ?_, fun k h1 h2 => ?_⟩
                    · rw [← HV.out, ← HS2.out.2.pv]
                      by_cases hk : k = a
                      · rw [hk]; exact Int.le_refl _
                      · exact HS2.out.2.left k (by omega) h2
                    · rw [← HV.out, ← HS2.out.2.pv]
                      exact HS2.out.2.right k (by omega) h2
end
end Go.Proofs.YtnhjnciadmgkeaaDoor
