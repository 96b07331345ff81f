/-
  The library's sort: the sort by a few insertions, if that is enough.
-/
import Derived.Test.YtnhjnciadmgkeaaDoorSPart
namespace Go.Proofs.YtnhjnciadmgkeaaDoor
open Go.ChangeShapes Go.WideShapes Go.ChangeAt Go.RowKit
set_option linter.unusedVariables false

/-- what stands ahead of a is not above what stands from a to b -/
def Ahead (a b : Nat) (d : Nat → Int) : Prop := 0 < a → ∀ k, a ≤ k → k < b → d (a - 1) ≤ d k
theorem Ahead.pr {a b : Nat} {d d' : Nat → Int} (h : Ahead a b d) (hp : PR a b d d') : Ahead a b d' := fun h0 k h1 h2 => by
  rw [hp.out (k := a - 1) (by omega)]
  exact hp.all (P := fun x => d (a - 1) ≤ x) (h h0) k h1 h2
section
variable {w : World} {g n cap : Nat} {d : Nat → Int}
set_option maxRecDepth 100000 in
set_option maxHeartbeats 2000000 in
theorem pins_at (h : DAt w g n d) (a b : Nat) (hab : a < b) (hbn : b ≤ n) (hn : n ≤ 1000000) (hah : Ahead a b d) :
    Calls Tryd.prog 39 #[.slice (some ⟨g, 0, none⟩) n cap, .int .i64 (a : Int), .int .i64 (b : Int)] w fun r w' => ∃ al : Bool, r = .returned (.bool al) ∧ ∃ d', SP w g n a b d w' d' ∧ (al = true → Srt a b d') := by
  have HP : Hid (SP w g n a b d w d ∧ Srt a (a + 1) d) := Lib.hid ⟨⟨h, .refl, But.refl _ _⟩, fun p q h1 h2 h3 => by rw [show p = q by omega]; exact Int.le_refl _⟩
  have HAH := Lib.hid hah
  clear h hah
  go_enter Tryd.func39, Tryd.ntmps39
  go_wp2_with fail
  go_loopg [7, 8] 5 (fun m v u wr => ∃ (i t : Nat) (d1 : Nat → Int), v = .int .i64 (i : Int) ∧ u = .int .i64 (t : Int) ∧ m + t = 5 ∧ a < i ∧ i ≤ b ∧ Hid (SP w g n a b d wr d1 ∧ Srt a i d1))
  case atStart => exact ⟨a + 1, 0, d, by go_num, by go_num, rfl, by omega, by omega, HP⟩
  case round =>
    obtain ⟨i0, t, d1, rfl, rfl, hmt, hai0, hi0b, HS⟩ := hrel
    clear HP
    by_cases ht : t < 5
    · obtain ⟨wo, hwo⟩ : ∃ wo : World, wo = wr := ⟨_, rfl⟩
      rw [← hwo] at HS ⊢
      clear hwo wr
      have htb : decide ((t : Int) < 5) = true := by simp; omega
      go_wp2_with fail
      go_loopg [7] (b - i0) (fun m v wr => ∃ i : Nat, v = .int .i64 (i : Int) ∧ m + i = b ∧ a < i ∧ i ≤ b ∧ Hid (SP w g n a b d wr d1 ∧ Srt a i d1))
      case atStart => exact ⟨i0, by first | rfl | go_num, by omega, by omega, by omega, HS⟩
      case round =>
        obtain ⟨i, rfl, hmi, hai, hib, HL⟩ := hrel
        clear HS hai0 hi0b
        obtain ⟨i1, hi1⟩ : ∃ i1, i = i1 + 1 := ⟨i - 1, by omega⟩
        have e1 : (i : Int) - 1 = (i1 : Int) := by omega
        have w1' : IntKind.i64.wrap (i1 : Int) = (i1 : Int) := by rw [IntKind.wrap_i64]; omega
        have HI1 := Lib.hid hi1
        clear hi1
        obtain ⟨tu, htt⟩ : ∃ t : Bool, t = decide (i < b ∧ d1 i1 ≤ d1 i) := ⟨_, rfl⟩
        have HTT := Lib.hid htt
        clear htt
        go_wp2_with fail
        go_cut [32] from 17 to 34 (fun v wc => v = .bool tu ∧ Hid (SP w g n a b d wc d1 ∧ Srt a i d1))
        case first =>
          by_cases hlt : i < b
          · have hle : decide ((i : Int) < (b : Int)) = true := by simp; omega
            have ixi := ix34 g i n cap (by omega)
            have ixj := ix34 g i1 n cap (by have := HI1.out; omega)
            have cI := HL.out.1.at_.cell (i := i) (by omega)
            have cJ := HL.out.1.at_.cell (i := i1) (by have := HI1.out; omega)
            by_cases hl : d1 i < d1 i1
            · have hlb : decide (d1 i < d1 i1) = true := by simpa using hl
              have htt : tu = false := by rw [HTT.out]; simp; omega
              go_quiet ((go_at_call 40; exact quiet_same (less_any _ _ _)))
              have HC := Lib.hid (⟨HL.out.1.drewN nq, HL.out.2⟩ : SP w g n a b d (wr.drewN nq) d1 ∧ Srt a i d1)
              clear HL cI cJ
              generalize wr.drewN nq = wq at *
              go_wp2_with fail
              go_meet
              exact ⟨by rw [htt], HC⟩
            · have hlb : decide (d1 i < d1 i1) = false := by simpa using hl
              have htt : tu = true := by rw [HTT.out]; simp; omega
              go_quiet ((go_at_call 40; exact quiet_same (less_any _ _ _)))
              have HC := Lib.hid (⟨HL.out.1.drewN nq, HL.out.2⟩ : SP w g n a b d (wr.drewN nq) d1 ∧ Srt a i d1)
              clear HL cI cJ
              generalize wr.drewN nq = wq at *
              go_wp2_with fail
              go_meet
              exact ⟨by rw [htt], HC⟩
          · have hle : decide ((i : Int) < (b : Int)) = false := by simp; omega
            have htt : tu = false := by rw [HTT.out]; simp; omega
            go_quiet (fail)
            have HC := Lib.hid (⟨HL.out.1.drewN nq, HL.out.2⟩ : SP w g n a b d (wr.drewN nq) d1 ∧ Srt a i d1)
            clear HL
            generalize wr.drewN nq = wq at *
            go_wp2_with fail
            go_meet
            exact ⟨by rw [htt], HC⟩
        case rest =>
          obtain ⟨rfl, HC⟩ := hcut
          clear HL
          cases tu with
          | true =>
            have hc : i < b ∧ d1 i1 ≤ d1 i := of_decide_eq_true HTT.out.symm
            obtain ⟨hc1, hc2⟩ := hc
            clear HTT
            go_wp2_with fail
            go_roundg (gk - 1)
            case measure => omega
            case rel =>
              refine ⟨i + 1, by first | rfl | go_num, by omega, by omega, by omega, Lib.hid ⟨HC.out.1, fun p q h1 h2 h3 => ?_⟩⟩
              by_cases hq : q = i
              · subst hq
                by_cases hp : p = q
                · rw [hp]; exact Int.le_refl _
                · exact Int.le_trans (HC.out.2 p i1 h1 (by have := HI1.out; omega) (by have := HI1.out; omega)) hc2
              · exact HC.out.2 p q h1 h2 (by omega)
          | false =>
            clear HTT
            obtain ⟨wn, hwn⟩ : ∃ wn : World, wn = wc := ⟨_, rfl⟩
            have HS2 : Hid (SP w g n a b d wn d1 ∧ Srt a i d1) := Lib.hid (by rw [hwn]; exact HC.out)
            rw [← hwn]
            clear hwn HC wc
            by_cases hfin : i = b
            · subst hfin
              go_wp2_with fail
              go_ret
              exact ⟨true, rfl, d1, HS2.out.1, fun _ => HS2.out.2⟩
            · have hb1 : (i == b) = false := beq_eq_false_iff_ne.2 hfin
              have hb2 : ((i : Int) == (b : Int)) = false := beq_eq_false_iff_ne.2 (by omega)
              by_cases hsh : (b : Int) - (a : Int) < 50
              · go_wp2_with fail
                go_ret
                exact ⟨false, rfl, d1, HS2.out.1, fun h => by cases h⟩
              · have hsb : decide ((b : Int) - (a : Int) < 50) = false := by simp; omega
                have ixi := ix34 g i n cap (by omega)
                have ixj := ix34 g i1 n cap (by have := HI1.out; omega)
                have cI := HS2.out.1.at_.cell (i := i) (by omega)
                have cJ := HS2.out.1.at_.cell (i := i1) (by have := HI1.out; omega)
                have fI := HS2.out.1.at_.free i
                have fJ := HS2.out.1.at_.free i1
                have hne : ¬ (i = i1) := by have := HI1.out; omega
                have hne2 : ¬ (i1 = i) := by have := HI1.out; omega
                obtain ⟨d2, hd2⟩ : ∃ d2, d2 = sw d1 i i1 := ⟨_, rfl⟩
                have HSW : Hid (SP w g n a b d (((wn.setCell ⟨g, i, none⟩ (.int .u64 (d1 i1))).setCell ⟨g, i1, none⟩ (.int .u64 (d1 i))).drewN 1) d2 ∧ Srt a i1 d2) := by
                  have hI := HI1.out
                  refine Lib.hid ⟨by rw [hd2]; exact (HS2.out.1.swap (by omega) (by omega) (by omega) (by omega)).drewN 1, fun p q h1 h2 h3 => ?_⟩
                  have ek : ∀ k, k < i1 → d2 k = d1 k := fun k hk => by rw [hd2]; unfold sw; rw [if_neg (by omega), if_neg (by omega)]
                  rw [ek p (by omega), ek q h3]
                  exact HS2.out.2 p q h1 h2 (by omega)
                clear HS2 hd2
                go_wp2_with fail
                go_region
                clear cI cJ fI fJ
                obtain ⟨w0, hw0⟩ : ∃ w0 : World, w0 = ((wn.setCell ⟨g, i, none⟩ (.int .u64 (d1 i1))).setCell ⟨g, i1, none⟩ (.int .u64 (d1 i))).drewN 1 := ⟨_, rfl⟩
                have HS3 : Hid (SP w g n a b d w0 d2 ∧ Srt a i1 d2) := Lib.hid (by rw [hw0]; exact HSW.out)
                have hw0' : w0 = ((wn.setCell ⟨g, i, none⟩ (.int .u64 (d1 i1))).setCell ⟨g, i1, none⟩ (.int .u64 (d1 i))).drew := hw0
                rw [← hw0']
                clear hw0 hw0' HSW hne hne2
                by_cases hq : (i : Int) - (a : Int) < 2
                · have hqb : decide (2 ≤ (i : Int) - (a : Int)) = false := by simp; omega
                  have HS4 : Hid (SP w g n a b d w0 d2 ∧ Srt a i d2) := Lib.hid ⟨HS3.out.1, fun p q h1 h2 h3 => by rw [show p = q by omega]; exact Int.le_refl _⟩
                  clear HS3
                  by_cases hr : (b : Int) - (i : Int) < 2
                  · have hrb : decide (2 ≤ (b : Int) - (i : Int)) = false := by simp; omega
                    go_wp2_with fail
                    go_roundg (5 - (t + 1))
                    case measure => omega
                    case rel => exact ⟨i, t + 1, d2, by first | rfl | go_num, by first | rfl | go_num, by omega, by omega, by omega, HS4⟩
                  · have hrb : decide (2 ≤ (b : Int) - (i : Int)) = true := by simp; omega
                    go_wp2_with fail
                    go_loopg [10] (b - (i + 1)) (fun m v wr => ∃ (j : Nat) (d5 : Nat → Int), v = .int .i64 (j : Int) ∧ m + j = b ∧ i < j ∧ j ≤ b ∧ Hid (SP w g n a b d wr d5 ∧ Srt a i d5))
                    case atStart => exact ⟨i + 1, d2, by first | rfl | go_num, by omega, by omega, by omega, HS4⟩
                    case round =>
                      obtain ⟨j, d5, rfl, hmj, hij, hjb, HR⟩ := hrel
                      clear HS4
                      by_cases hjl : j < b
                      · obtain ⟨j1, hj1⟩ : ∃ j1, j = j1 + 1 := ⟨j - 1, by omega⟩
                        have ej : (j : Int) - 1 = (j1 : Int) := by omega
                        have wj : IntKind.i64.wrap (j1 : Int) = (j1 : Int) := by rw [IntKind.wrap_i64]; omega
                        have HJ := Lib.hid hj1
                        have ixa' := ix34 g j n cap (by omega)
                        have ixb' := ix34 g j1 n cap (by omega)
                        have cI := HR.out.1.at_.cell (i := j) (by omega)
                        have cJ := HR.out.1.at_.cell (i := j1) (by omega)
                        clear hj1
                        by_cases hl : d5 j < d5 j1
                        · have hlb : decide (d5 j < d5 j1) = true := by simpa using hl
                          go_wp2_with fail
                          go_quiet ((go_at_call 40; exact quiet_same (less_any _ _ _)))
                          have HR1 := Lib.hid (⟨HR.out.1.drewN nq, HR.out.2⟩ : SP w g n a b d (wr.drewN nq) d5 ∧ Srt a i d5)
                          clear HR cI cJ
                          generalize wr.drewN nq = wq at *
                          have cI := HR1.out.1.at_.cell (i := j) (by omega)
                          have cJ := HR1.out.1.at_.cell (i := j1) (by have := HJ.out; omega)
                          have fI := HR1.out.1.at_.free j
                          have fJ := HR1.out.1.at_.free j1
                          have hne : ¬ (j = j1) := by have := HJ.out; omega
                          have hne2 : ¬ (j1 = j) := by have := HJ.out; omega
                          go_wp2_with fail
                          go_region
                          go_wp2_with fail
                          go_roundg (b - (j + 1))
                          case measure => omega
                          case rel =>
                            have hJ := HJ.out
                            refine ⟨j + 1, sw d5 j j1, by first | rfl | go_num, by omega, by omega, by omega, Lib.hid ⟨(HR1.out.1.swap (by omega) (by omega) (by omega) (by omega)).drewN 1, fun p q h1 h2 h3 => ?_⟩⟩
                            have ek : ∀ k, k < i → sw d5 j j1 k = d5 k := fun k hk => by unfold sw; rw [if_neg (by omega), if_neg (by omega)]
                            rw [ek p (by omega), ek q h3]
                            exact HR1.out.2 p q h1 h2 h3
                        · have hlb : decide (d5 j < d5 j1) = false := by simpa using hl
                          go_wp2_with fail
                          go_quiet ((go_at_call 40; exact quiet_same (less_any _ _ _)))
                          have HR1 := Lib.hid (⟨HR.out.1.drewN nq, HR.out.2⟩ : SP w g n a b d (wr.drewN nq) d5 ∧ Srt a i d5)
                          clear HR cI cJ
                          generalize wr.drewN nq = wq at *
                          go_wp2_with fail
                          go_roundg (5 - (t + 1))
                          case measure => omega
                          case rel => exact ⟨i, t + 1, d5, by first | rfl | go_num, by first | rfl | go_num, by omega, by omega, by omega, HR1⟩
                      · go_wp2_with fail
                        go_roundg (5 - (t + 1))
                        case measure => omega
                        case rel => exact ⟨i, t + 1, d5, by first | rfl | go_num, by first | rfl | go_num, by omega, by omega, by omega, HR⟩
                · have hqb : decide (2 ≤ (i : Int) - (a : Int)) = true := by simp; omega
                  go_wp2_with fail
                  go_loopg [9] i1 (fun m v wr => ∃ (j : Nat) (d3 : Nat → Int), v = .int .i64 (j : Int) ∧ m = j ∧ a ≤ j ∧ j ≤ i1 ∧ Hid (SP w g n a b d wr d3 ∧ Hole a i1 j d3))
                  case atStart => exact ⟨i1, d2, by first | rfl | go_num, rfl, by have := HI1.out; omega, Nat.le_refl _, Lib.hid ⟨HS3.out.1, Hole.start HS3.out.2⟩⟩
                  case round =>
                    obtain ⟨j, d3, rfl, hmj, haj, hji, HL3⟩ := hrel
                    clear HS3
                    by_cases hj0 : j = 0
                    · subst hj0
                      have HS4 : Hid (SP w g n a b d wr d3 ∧ Srt a i d3) := Lib.hid ⟨HL3.out.1, by rw [HI1.out]; exact HL3.out.2.done haj hji (.inl (by omega))⟩
                      clear HL3
                      obtain ⟨wx, hwx⟩ : ∃ wx : World, wx = wr := ⟨_, rfl⟩
                      rw [← hwx] at HS4 ⊢
                      clear hwx wr
                      by_cases hr : (b : Int) - (i : Int) < 2
                      · have hrb : decide (2 ≤ (b : Int) - (i : Int)) = false := by simp; omega
                        go_wp2_with fail
                        go_roundg (5 - (t + 1))
                        case measure => omega
                        case rel => exact ⟨i, t + 1, d3, by first | rfl | go_num, by first | rfl | go_num, by omega, by omega, by omega, HS4⟩
                      · have hrb : decide (2 ≤ (b : Int) - (i : Int)) = true := by simp; omega
                        go_wp2_with fail
                        go_loopg [10] (b - (i + 1)) (fun m v wr => ∃ (j : Nat) (d5 : Nat → Int), v = .int .i64 (j : Int) ∧ m + j = b ∧ i < j ∧ j ≤ b ∧ Hid (SP w g n a b d wr d5 ∧ Srt a i d5))
                        case atStart => exact ⟨i + 1, d3, by first | rfl | go_num, by omega, by omega, by omega, HS4⟩
                        case round =>
                          obtain ⟨j, d5, rfl, hmj, hij, hjb, HR⟩ := hrel
                          clear HS4
                          by_cases hjl : j < b
                          · obtain ⟨j1, hj1⟩ : ∃ j1, j = j1 + 1 := ⟨j - 1, by omega⟩
                            have ej : (j : Int) - 1 = (j1 : Int) := by omega
                            have wj : IntKind.i64.wrap (j1 : Int) = (j1 : Int) := by rw [IntKind.wrap_i64]; omega
                            have HJ := Lib.hid hj1
                            have ixa' := ix34 g j n cap (by omega)
                            have ixb' := ix34 g j1 n cap (by omega)
                            have cI := HR.out.1.at_.cell (i := j) (by omega)
                            have cJ := HR.out.1.at_.cell (i := j1) (by omega)
                            clear hj1
                            by_cases hl : d5 j < d5 j1
                            · have hlb : decide (d5 j < d5 j1) = true := by simpa using hl
                              go_wp2_with fail
                              go_quiet ((go_at_call 40; exact quiet_same (less_any _ _ _)))
                              have HR1 := Lib.hid (⟨HR.out.1.drewN nq, HR.out.2⟩ : SP w g n a b d (wr.drewN nq) d5 ∧ Srt a i d5)
                              clear HR cI cJ
                              generalize wr.drewN nq = wq at *
                              have cI := HR1.out.1.at_.cell (i := j) (by omega)
                              have cJ := HR1.out.1.at_.cell (i := j1) (by have := HJ.out; omega)
                              have fI := HR1.out.1.at_.free j
                              have fJ := HR1.out.1.at_.free j1
                              have hne : ¬ (j = j1) := by have := HJ.out; omega
                              have hne2 : ¬ (j1 = j) := by have := HJ.out; omega
                              go_wp2_with fail
                              go_region
                              go_wp2_with fail
                              go_roundg (b - (j + 1))
                              case measure => omega
                              case rel =>
                                have hJ := HJ.out
                                refine ⟨j + 1, sw d5 j j1, by first | rfl | go_num, by omega, by omega, by omega, Lib.hid ⟨(HR1.out.1.swap (by omega) (by omega) (by omega) (by omega)).drewN 1, fun p q h1 h2 h3 => ?_⟩⟩
                                have ek : ∀ k, k < i → sw d5 j j1 k = d5 k := fun k hk => by unfold sw; rw [if_neg (by omega), if_neg (by omega)]
                                rw [ek p (by omega), ek q h3]
                                exact HR1.out.2 p q h1 h2 h3
                            · have hlb : decide (d5 j < d5 j1) = false := by simpa using hl
                              go_wp2_with fail
                              go_quiet ((go_at_call 40; exact quiet_same (less_any _ _ _)))
                              have HR1 := Lib.hid (⟨HR.out.1.drewN nq, HR.out.2⟩ : SP w g n a b d (wr.drewN nq) d5 ∧ Srt a i d5)
                              clear HR cI cJ
                              generalize wr.drewN nq = wq at *
                              go_wp2_with fail
                              go_roundg (5 - (t + 1))
                              case measure => omega
                              case rel => exact ⟨i, t + 1, d5, by first | rfl | go_num, by first | rfl | go_num, by omega, by omega, by omega, HR1⟩
                          · go_wp2_with fail
                            go_roundg (5 - (t + 1))
                            case measure => omega
                            case rel => exact ⟨i, t + 1, d5, by first | rfl | go_num, by first | rfl | go_num, by omega, by omega, by omega, HR⟩
                    · obtain ⟨j1, hj1⟩ : ∃ j1, j = j1 + 1 := ⟨j - 1, by omega⟩
                      have ej : (j : Int) - 1 = (j1 : Int) := by omega
                      have wj : IntKind.i64.wrap (j1 : Int) = (j1 : Int) := by rw [IntKind.wrap_i64]; omega
                      have hj1b : decide (1 ≤ (j : Int)) = true := by simp; omega
                      have HJ := Lib.hid hj1
                      have hjn : j < n := by have := HI1.out; omega
                      have ixa' := ix34 g j n cap hjn
                      have ixb' := ix34 g j1 n cap (by omega)
                      have cI := HL3.out.1.at_.cell (i := j) hjn
                      have cJ := HL3.out.1.at_.cell (i := j1) (by omega)
                      clear hj1
                      by_cases hl : d3 j < d3 j1
                      · have hlb : decide (d3 j < d3 j1) = true := by simpa using hl
                        have haj2 : a < j := by
                          refine Nat.lt_of_le_of_ne haj fun e => ?_
                          have hA := HAH.out.pr HL3.out.1.pr (by omega) a (Nat.le_refl _) (by omega)
                          rw [show a - 1 = j1 by have := HJ.out; omega, e] at hA
                          omega
                        go_wp2_with fail
                        go_quiet ((go_at_call 40; exact quiet_same (less_any _ _ _)))
                        have HR1 := Lib.hid (⟨HL3.out.1.drewN nq, HL3.out.2⟩ : SP w g n a b d (wr.drewN nq) d3 ∧ Hole a i1 j d3)
                        clear HL3 cI cJ
                        generalize wr.drewN nq = wq at *
                        have cI := HR1.out.1.at_.cell (i := j) hjn
                        have cJ := HR1.out.1.at_.cell (i := j1) (by have := HJ.out; omega)
                        have fI := HR1.out.1.at_.free j
                        have fJ := HR1.out.1.at_.free j1
                        have hne : ¬ (j = j1) := by have := HJ.out; omega
                        have hne2 : ¬ (j1 = j) := by have := HJ.out; omega
                        go_wp2_with fail
                        go_region
                        go_wp2_with fail
                        go_roundg j1
                        case measure => have := HJ.out; omega
                        case rel =>
                          have hJ := HJ.out
                          have hI := HI1.out
                          refine ⟨j1, sw d3 j j1, by first | rfl | go_num, rfl, by omega, by omega, Lib.hid ⟨(HR1.out.1.swap (by omega) (by omega) (by omega) (by omega)).drewN 1, ?_⟩⟩
                          have hh := HR1.out.2
                          rw [hJ] at hh hl ⊢
                          exact hh.step (by omega) (by omega) hl
                      · have hlb : decide (d3 j < d3 j1) = false := by simpa using hl
                        go_wp2_with fail
                        go_quiet ((go_at_call 40; exact quiet_same (less_any _ _ _)))
                        have HS4 : Hid (SP w g n a b d (wr.drewN nq) d3 ∧ Srt a i d3) := Lib.hid ⟨HL3.out.1.drewN nq, by
                          have hJ := HJ.out
                          rw [HI1.out]; exact HL3.out.2.done haj hji (by
                            by_cases e : j = a
                            · exact .inl e
                            · right; rw [show j - 1 = j1 by omega]; omega)⟩
                        clear HL3 cI cJ ixa' ixb' ej wj hlb hl hj1b
                        generalize wr.drewN nq = wx at *
                        by_cases hr : (b : Int) - (i : Int) < 2
                        · have hrb : decide (2 ≤ (b : Int) - (i : Int)) = false := by simp; omega
                          go_wp2_with fail
                          go_roundg (5 - (t + 1))
                          case measure => omega
                          case rel => exact ⟨i, t + 1, d3, by first | rfl | go_num, by first | rfl | go_num, by omega, by omega, by omega, HS4⟩
                        · have hrb : decide (2 ≤ (b : Int) - (i : Int)) = true := by simp; omega
                          go_wp2_with fail
                          go_loopg [10] (b - (i + 1)) (fun m v wr => ∃ (j : Nat) (d5 : Nat → Int), v = .int .i64 (j : Int) ∧ m + j = b ∧ i < j ∧ j ≤ b ∧ Hid (SP w g n a b d wr d5 ∧ Srt a i d5))
                          case atStart => exact ⟨i + 1, d3, by first | rfl | go_num, by omega, by omega, by omega, HS4⟩
                          case round =>
                            obtain ⟨j, d5, rfl, hmj, hij, hjb, HR⟩ := hrel
                            clear HS4
                            by_cases hjl : j < b
                            · obtain ⟨j1, hj1⟩ : ∃ j1, j = j1 + 1 := ⟨j - 1, by omega⟩
                              have ej : (j : Int) - 1 = (j1 : Int) := by omega
                              have wj : IntKind.i64.wrap (j1 : Int) = (j1 : Int) := by rw [IntKind.wrap_i64]; omega
                              have HJ := Lib.hid hj1
                              have ixa' := ix34 g j n cap (by omega)
                              have ixb' := ix34 g j1 n cap (by omega)
                              have cI := HR.out.1.at_.cell (i := j) (by omega)
                              have cJ := HR.out.1.at_.cell (i := j1) (by omega)
                              clear hj1
                              by_cases hl : d5 j < d5 j1
                              · have hlb : decide (d5 j < d5 j1) = true := by simpa using hl
                                go_wp2_with fail
                                go_quiet ((go_at_call 40; exact quiet_same (less_any _ _ _)))
                                have HR1 := Lib.hid (⟨HR.out.1.drewN nq, HR.out.2⟩ : SP w g n a b d (wr.drewN nq) d5 ∧ Srt a i d5)
                                clear HR cI cJ
                                generalize wr.drewN nq = wq at *
                                have cI := HR1.out.1.at_.cell (i := j) (by omega)
                                have cJ := HR1.out.1.at_.cell (i := j1) (by have := HJ.out; omega)
                                have fI := HR1.out.1.at_.free j
                                have fJ := HR1.out.1.at_.free j1
                                have hne : ¬ (j = j1) := by have := HJ.out; omega
                                have hne2 : ¬ (j1 = j) := by have := HJ.out; omega
                                go_wp2_with fail
                                go_region
                                go_wp2_with fail
                                go_roundg (b - (j + 1))
                                case measure => omega
                                case rel =>
                                  have hJ := HJ.out
                                  refine ⟨j + 1, sw d5 j j1, by first | rfl | go_num, by omega, by omega, by omega, Lib.hid ⟨(HR1.out.1.swap (by omega) (by omega) (by omega) (by omega)).drewN 1, fun p q h1 h2 h3 => ?_⟩⟩
                                  have ek : ∀ k, k < i → sw d5 j j1 k = d5 k := fun k hk => by unfold sw; rw [if_neg (by omega), if_neg (by omega)]
                                  rw [ek p (by omega), ek q h3]
                                  exact HR1.out.2 p q h1 h2 h3
                              · have hlb : decide (d5 j < d5 j1) = false := by simpa using hl
                                go_wp2_with fail
                                go_quiet ((go_at_call 40; exact quiet_same (less_any _ _ _)))
                                have HR1 := Lib.hid (⟨HR.out.1.drewN nq, HR.out.2⟩ : SP w g n a b d (wr.drewN nq) d5 ∧ Srt a i d5)
                                clear HR cI cJ
                                generalize wr.drewN nq = wq at *
                                go_wp2_with fail
                                go_roundg (5 - (t + 1))
                                case measure => omega
                                case rel => exact ⟨i, t + 1, d5, by first | rfl | go_num, by first | rfl | go_num, by omega, by omega, by omega, HR1⟩
                            · go_wp2_with fail
                              go_roundg (5 - (t + 1))
                              case measure => omega
                              case rel => exact ⟨i, t + 1, d5, by first | rfl | go_num, by first | rfl | go_num, by omega, by omega, by omega, HR⟩
    · go_wp2_with fail
      go_ret
      exact ⟨false, rfl, d1, HS.out.1, fun h => by cases h⟩
end
end Go.Proofs.YtnhjnciadmgkeaaDoor
