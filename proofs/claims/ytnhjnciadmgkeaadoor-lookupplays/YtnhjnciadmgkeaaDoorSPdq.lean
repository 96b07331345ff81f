/-
  The library's sort: pdqsort, and Sort.
-/
import Derived.Test.YtnhjnciadmgkeaaDoorSPdqM
namespace Go.Proofs.YtnhjnciadmgkeaaDoor
open Go.ChangeShapes Go.WideShapes Go.ChangeAt Go.RowKit
set_option linter.unusedVariables false
section
variable {g n cap : Nat}
/-- the sort of what is shorter than M -/
def Sorts (g n cap M : Nat) : Prop := ∀ (w : World) (d : Nat → Int) (a b lim : Nat), b - a < M → DAt w g n d → a ≤ b → b ≤ n → lim ≤ 64 → Ahead a b d →
  Calls Tryd.prog 30 #[.slice (some ⟨g, 0, none⟩) n cap, .int .i64 (a : Int), .int .i64 (b : Int), .int .i64 (lim : Int)] w fun r w' => r = .returned (.tuple #[]) ∧ ∃ d', SP w g n a b d w' d' ∧ Srt a b d'
set_option maxRecDepth 100000 in
set_option maxHeartbeats 4000000 in
theorem pdq_step (hn : n < 65536) (M : Nat) (ih : Sorts g n cap M) : Sorts g n cap (M + 1) := by
  intro w d a0 b0 lim0 hM hd hab hbn hlim hah
  have HP : Hid (PS w g n a0 b0 d a0 b0 w d) := Lib.hid ⟨⟨hd, .refl, But.refl _ _⟩, fun i j h1 h2 h3 h4 => by omega, hah, Nat.le_refl _, hab, Nat.le_refl _⟩
  have IH := Lib.hid ih
  have hn6 : n ≤ 1000000 := by omega
  clear hd hah ih
  go_enter Tryd.func30, Tryd.ntmps30
  go_wp2_with fail
  go_loopg [1, 2, 3, 8, 9] (b0 - a0) (fun m va vb vl v8 v9 wr => ∃ (a b lim : Nat) (wb wp : Bool) (D : Nat → Int), va = .int .i64 (a : Int) ∧ vb = .int .i64 (b : Int) ∧ vl = .int .i64 (lim : Int) ∧ v8 = .bool wb ∧ v9 = .bool wp ∧ lim ≤ 64 ∧ m = b - a ∧ Hid (PS w g n a0 b0 d a b wr D))
  case atStart => exact ⟨a0, b0, lim0, true, true, d, by first | rfl | go_num, by first | rfl | go_num, by first | rfl | go_num, rfl, rfl, hlim, rfl, HP⟩
  case round =>
    obtain ⟨a, b, lim, wb, wp, D, rfl, rfl, rfl, rfl, rfl, hl64, hgm, HL⟩ := hrel
    clear HP
    have q1 := HL.out.ha
    have q2 := HL.out.hab
    have q3 := HL.out.hb
    obtain ⟨l, hl⟩ : ∃ l, b = a + l := ⟨b - a, by omega⟩
    have EL : Hid ((b : Int) - (a : Int) = (l : Int)) := Lib.hid (by omega)
    have HLE := Lib.hid hl
    clear hl
    by_cases h12 : l ≤ 12
    · have h12b : decide ((b : Int) - (a : Int) ≤ 12) = true := by rw [EL.out]; simp; omega
      have H1 := Lib.hid (ins_at (cap := cap) HL.out.sp.at_ a b q2 (by omega) hn6)
      go_wp2_with fail
      refine H1.out.mono ?_
      rintro r w2 ⟨rfl, D2, hs2, hS2⟩
      have HF := Lib.hid (HL.out.fin hs2 hS2)
      clear hs2 hS2 H1
      go_wp2
      first | go_end0 | refine bodyPost_ret (results_none rfl _ _ _) rfl ?_
      exact ⟨rfl, D2, HF.out⟩
    · have h12b : decide ((b : Int) - (a : Int) ≤ 12) = false := by rw [EL.out]; simp; omega
      have hab12 : a + 12 < b := by have := HLE.out; omega
      by_cases hl0 : lim = 0
      · subst hl0
        have H1 := Lib.hid (heap_at (cap := cap) HL.out.sp.at_ a b (by omega) (by omega) hn6)
        go_wp2_with fail
        refine H1.out.mono ?_
        rintro r w2 ⟨rfl, D2, hs2, hS2⟩
        have HF := Lib.hid (HL.out.fin hs2 hS2)
        clear hs2 hS2 H1
        go_wp2
        first | go_end0 | refine bodyPost_ret (results_none rfl _ _ _) rfl ?_
        exact ⟨rfl, D2, HF.out⟩
      · have hlb : ((lim : Int) == 0) = false := beq_eq_false_iff_ne.2 (by omega)
        have hlb' : (lim == 0) = false := beq_eq_false_iff_ne.2 hl0
        cases wb with
        | false =>
          have H1 := Lib.hid (brk_at (cap := cap) HL.out.sp.at_ a b hab12 (by omega) hn)
          go_wp2_with fail
          refine H1.out.mono ?_
          rintro r w3 ⟨rfl, D3, hs3⟩
          have HL3 : Hid (PS w g n a0 b0 d a b w3 D3) := Lib.hid (HL.out.step hs3)
          obtain ⟨lim1, hlim1⟩ : ∃ lim1, lim = lim1 + 1 := ⟨lim - 1, by omega⟩
          have eL : (lim : Int) - 1 = (lim1 : Int) := by omega
          have hl164 : lim1 ≤ 64 := by omega
          clear hs3 H1 HL hlim1
          have H2 := Lib.hid (pivot_at (cap := cap) HL3.out.sp.at_ a b hab12 (by omega) hn6)
          go_wp2_with fail
          refine H2.out.mono ?_
          rintro r w4 ⟨p, h, rfl, ⟨hap, hpb⟩, hh, hd4, hg4⟩
          have HL4 : Hid (PS w g n a0 b0 d a b w4 D3) := Lib.hid (HL3.out.grown hd4 hg4)
          clear hd4 hg4 H2 HL3
          by_cases hh2x : h = 2
          · skip
            have hh2 : h = 2 := by assumption
            subst hh2
            have H3 := Lib.hid (rev_at (cap := cap) HL4.out.sp.at_ a b (by omega) (by omega) hn6)
            go_wp2_with fail
            refine H3.out.mono ?_
            rintro r w5 ⟨rfl, D5, hs5⟩
            have HL5 : Hid (PS w g n a0 b0 d a b w5 D5) := Lib.hid (HL4.out.step hs5)
            obtain ⟨p5, hp5⟩ : ∃ p5 : Nat, (b : Int) - 1 - ((p : Int) - (a : Int)) = (p5 : Int) := ⟨((b : Int) - 1 - ((p : Int) - (a : Int))).toNat, by omega⟩
            have hap5 : a ≤ p5 ∧ p5 < b := by omega
            have hap5 : a ≤ p5 := hap5.1
            have hpb5 : p5 < b := by omega
            clear hs5 H3 HL4
            by_cases ha0 : a = 0
            · have hga : decide (0 < (a : Int)) = false := by simp; omega
              have hga' : decide (0 < a) = false := by simp; omega
              clear ha0
              go_wp2_with fail
              go_quiet (fail)
              have HL7 : Hid (PS w g n a0 b0 d a b (w5.drewN nq) D5) := Lib.hid (HL5.out.drewN nq)
              clear HL5
              generalize w5.drewN nq = w7 at *
              have H8 := Lib.hid (part_at (cap := cap) HL7.out.sp.at_ a b p5 hap5 hpb5 (by omega) hn6)
              go_wp2_with fail
              refine H8.out.mono ?_
              rintro r w8 ⟨m, al, rfl, D8, hs8, hp8⟩
              have HL8 : Hid (PS w g n a0 b0 d a b w8 D8) := Lib.hid (HL7.out.step hs8)
              have HP8 := Lib.hid hp8
              have am := hp8.am
              have mb := hp8.mb
              clear hs8 hp8 H8 HL7
              by_cases hlr : (m : Int) - (a : Int) < (b : Int) - (m : Int)
              · have hlrb : decide ((m : Int) - (a : Int) < (b : Int) - (m : Int)) = true := by simpa using hlr
                have H9 := Lib.hid (IH.out w8 D8 a m lim1 (by omega) HL8.out.sp.at_ am (by omega) (by omega) (HP8.out.aheadL HL8.out.ahead))
                go_wp2_with fail
                refine H9.out.mono ?_
                rintro r w9 ⟨rfl, D9, hs9, hS9⟩
                have HL9 : Hid (PS w g n a0 b0 d (m + 1) b w9 D9) := Lib.hid (HL8.out.left HP8.out hs9 hS9)
                clear hs9 hS9 H9 HL8
                go_wp2_with fail
                go_roundg (b - (m + 1))
                case measure => omega
                case rel => exact ⟨m + 1, b, lim1, _, _, D9, by first | rfl | go_num, by first | rfl | go_num, by first | rfl | go_num, rfl, rfl, by omega, rfl, HL9⟩
              · have hlrb : decide ((m : Int) - (a : Int) < (b : Int) - (m : Int)) = false := by simpa using hlr
                have hm1 : ((m + 1 : Nat) : Int) = (m : Int) + 1 := by omega
                have H9 := Lib.hid (IH.out w8 D8 (m + 1) b lim1 (by omega) HL8.out.sp.at_ (by omega) (by omega) (by omega) HP8.out.aheadR)
                rw [hm1] at H9
                clear hm1
                go_wp2_with fail
                refine H9.out.mono ?_
                rintro r w9 ⟨rfl, D9, hs9, hS9⟩
                have HL9 : Hid (PS w g n a0 b0 d a m w9 D9) := Lib.hid (HL8.out.right HP8.out hs9 hS9)
                clear hs9 hS9 H9 HL8
                go_wp2_with fail
                go_roundg (m - a)
                case measure => omega
                case rel => exact ⟨a, m, lim1, _, _, D9, by first | rfl | go_num, by first | rfl | go_num, by first | rfl | go_num, rfl, rfl, by omega, rfl, HL9⟩
            · obtain ⟨a1, ha1⟩ : ∃ a1, a = a1 + 1 := ⟨a - 1, by omega⟩
              have hga : decide (0 < (a : Int)) = true := by simp; omega
              have hga' : decide (0 < a) = true := by simp; omega
              have eA : (a : Int) - 1 = (a1 : Int) := by omega
              have wA : IntKind.i64.wrap (a1 : Int) = (a1 : Int) := by rw [IntKind.wrap_i64]; omega
              have ixA := ix34 g a1 n cap (by omega)
              have ixP := ix34 g p5 n cap (by omega)
              have cA := HL5.out.sp.at_.cell (i := a1) (by omega)
              have cP := HL5.out.sp.at_.cell (i := p5) (by omega)
              have HA1 := Lib.hid ha1
              clear ha1
              by_cases hls : D5 a1 < D5 p5
              · have hlsb : decide (D5 a1 < D5 p5) = true := by simpa using hls
                go_wp2_with fail
                go_quiet ((go_at_call 40; exact quiet_same (less_any _ _ _)))
                have HL7 : Hid (PS w g n a0 b0 d a b (w5.drewN nq) D5) := Lib.hid (HL5.out.drewN nq)
                clear HL5 cA cP ixA ixP
                generalize w5.drewN nq = w7 at *
                have H8 := Lib.hid (part_at (cap := cap) HL7.out.sp.at_ a b p5 hap5 hpb5 (by omega) hn6)
                go_wp2_with fail
                refine H8.out.mono ?_
                rintro r w8 ⟨m, al, rfl, D8, hs8, hp8⟩
                have HL8 : Hid (PS w g n a0 b0 d a b w8 D8) := Lib.hid (HL7.out.step hs8)
                have HP8 := Lib.hid hp8
                have am := hp8.am
                have mb := hp8.mb
                clear hs8 hp8 H8 HL7
                by_cases hlr : (m : Int) - (a : Int) < (b : Int) - (m : Int)
                · have hlrb : decide ((m : Int) - (a : Int) < (b : Int) - (m : Int)) = true := by simpa using hlr
                  have H9 := Lib.hid (IH.out w8 D8 a m lim1 (by omega) HL8.out.sp.at_ am (by omega) (by omega) (HP8.out.aheadL HL8.out.ahead))
                  go_wp2_with fail
                  refine H9.out.mono ?_
                  rintro r w9 ⟨rfl, D9, hs9, hS9⟩
                  have HL9 : Hid (PS w g n a0 b0 d (m + 1) b w9 D9) := Lib.hid (HL8.out.left HP8.out hs9 hS9)
                  clear hs9 hS9 H9 HL8
                  go_wp2_with fail
                  go_roundg (b - (m + 1))
                  case measure => omega
                  case rel => exact ⟨m + 1, b, lim1, _, _, D9, by first | rfl | go_num, by first | rfl | go_num, by first | rfl | go_num, rfl, rfl, by omega, rfl, HL9⟩
                · have hlrb : decide ((m : Int) - (a : Int) < (b : Int) - (m : Int)) = false := by simpa using hlr
                  have hm1 : ((m + 1 : Nat) : Int) = (m : Int) + 1 := by omega
                  have H9 := Lib.hid (IH.out w8 D8 (m + 1) b lim1 (by omega) HL8.out.sp.at_ (by omega) (by omega) (by omega) HP8.out.aheadR)
                  rw [hm1] at H9
                  clear hm1
                  go_wp2_with fail
                  refine H9.out.mono ?_
                  rintro r w9 ⟨rfl, D9, hs9, hS9⟩
                  have HL9 : Hid (PS w g n a0 b0 d a m w9 D9) := Lib.hid (HL8.out.right HP8.out hs9 hS9)
                  clear hs9 hS9 H9 HL8
                  go_wp2_with fail
                  go_roundg (m - a)
                  case measure => omega
                  case rel => exact ⟨a, m, lim1, _, _, D9, by first | rfl | go_num, by first | rfl | go_num, by first | rfl | go_num, rfl, rfl, by omega, rfl, HL9⟩
              · have hlsb : decide (D5 a1 < D5 p5) = false := by simpa using hls
                go_wp2_with fail
                go_quiet ((go_at_call 40; exact quiet_same (less_any _ _ _)))
                have HL7 : Hid (PS w g n a0 b0 d a b (w5.drewN nq) D5) := Lib.hid (HL5.out.drewN nq)
                clear HL5 cA cP ixA ixP
                generalize w5.drewN nq = w7 at *
                have H8 := Lib.hid (equal_at (cap := cap) HL7.out.sp.at_ a b p5 hap5 hpb5 (by omega) hn6)
                go_wp2_with fail
                refine H8.out.mono ?_
                rintro r w8 ⟨m, rfl, D8, hs8, ham, hmb, hle8, hgt8⟩
                have HL8 : Hid (PS w g n a0 b0 d m b w8 D8) := Lib.hid (HL7.out.equal (p := p5) hs8 (by omega) (by rw [show a - 1 = a1 by have := HA1.out; omega]; omega) ham hmb hle8)
                clear hs8 H8 HL7 hle8 hgt8
                go_wp2_with fail
                go_roundg (b - m)
                case measure => omega
                case rel => exact ⟨m, b, lim1, _, _, D8, by first | rfl | go_num, by first | rfl | go_num, by first | rfl | go_num, rfl, rfl, by omega, rfl, HL8⟩
          · have hb2 : (h == 2) = false := beq_eq_false_iff_ne.2 hh2x
            by_cases ha0 : a = 0
            · have hga : decide (0 < (a : Int)) = false := by simp; omega
              have hga' : decide (0 < a) = false := by simp; omega
              clear ha0
              go_wp2_with fail
              go_quiet (fail)
              have HL7 : Hid (PS w g n a0 b0 d a b (w4.drewN nq) D3) := Lib.hid (HL4.out.drewN nq)
              clear HL4
              generalize w4.drewN nq = w7 at *
              have H8 := Lib.hid (part_at (cap := cap) HL7.out.sp.at_ a b p hap hpb (by omega) hn6)
              go_wp2_with fail
              refine H8.out.mono ?_
              rintro r w8 ⟨m, al, rfl, D8, hs8, hp8⟩
              have HL8 : Hid (PS w g n a0 b0 d a b w8 D8) := Lib.hid (HL7.out.step hs8)
              have HP8 := Lib.hid hp8
              have am := hp8.am
              have mb := hp8.mb
              clear hs8 hp8 H8 HL7
              by_cases hlr : (m : Int) - (a : Int) < (b : Int) - (m : Int)
              · have hlrb : decide ((m : Int) - (a : Int) < (b : Int) - (m : Int)) = true := by simpa using hlr
                have H9 := Lib.hid (IH.out w8 D8 a m lim1 (by omega) HL8.out.sp.at_ am (by omega) (by omega) (HP8.out.aheadL HL8.out.ahead))
                go_wp2_with fail
                refine H9.out.mono ?_
                rintro r w9 ⟨rfl, D9, hs9, hS9⟩
                have HL9 : Hid (PS w g n a0 b0 d (m + 1) b w9 D9) := Lib.hid (HL8.out.left HP8.out hs9 hS9)
                clear hs9 hS9 H9 HL8
                go_wp2_with fail
                go_roundg (b - (m + 1))
                case measure => omega
                case rel => exact ⟨m + 1, b, lim1, _, _, D9, by first | rfl | go_num, by first | rfl | go_num, by first | rfl | go_num, rfl, rfl, by omega, rfl, HL9⟩
              · have hlrb : decide ((m : Int) - (a : Int) < (b : Int) - (m : Int)) = false := by simpa using hlr
                have hm1 : ((m + 1 : Nat) : Int) = (m : Int) + 1 := by omega
                have H9 := Lib.hid (IH.out w8 D8 (m + 1) b lim1 (by omega) HL8.out.sp.at_ (by omega) (by omega) (by omega) HP8.out.aheadR)
                rw [hm1] at H9
                clear hm1
                go_wp2_with fail
                refine H9.out.mono ?_
                rintro r w9 ⟨rfl, D9, hs9, hS9⟩
                have HL9 : Hid (PS w g n a0 b0 d a m w9 D9) := Lib.hid (HL8.out.right HP8.out hs9 hS9)
                clear hs9 hS9 H9 HL8
                go_wp2_with fail
                go_roundg (m - a)
                case measure => omega
                case rel => exact ⟨a, m, lim1, _, _, D9, by first | rfl | go_num, by first | rfl | go_num, by first | rfl | go_num, rfl, rfl, by omega, rfl, HL9⟩
            · obtain ⟨a1, ha1⟩ : ∃ a1, a = a1 + 1 := ⟨a - 1, by omega⟩
              have hga : decide (0 < (a : Int)) = true := by simp; omega
              have hga' : decide (0 < a) = true := by simp; omega
              have eA : (a : Int) - 1 = (a1 : Int) := by omega
              have wA : IntKind.i64.wrap (a1 : Int) = (a1 : Int) := by rw [IntKind.wrap_i64]; omega
              have ixA := ix34 g a1 n cap (by omega)
              have ixP := ix34 g p n cap (by omega)
              have cA := HL4.out.sp.at_.cell (i := a1) (by omega)
              have cP := HL4.out.sp.at_.cell (i := p) (by omega)
              have HA1 := Lib.hid ha1
              clear ha1
              by_cases hls : D3 a1 < D3 p
              · have hlsb : decide (D3 a1 < D3 p) = true := by simpa using hls
                go_wp2_with fail
                go_quiet ((go_at_call 40; exact quiet_same (less_any _ _ _)))
                have HL7 : Hid (PS w g n a0 b0 d a b (w4.drewN nq) D3) := Lib.hid (HL4.out.drewN nq)
                clear HL4 cA cP ixA ixP
                generalize w4.drewN nq = w7 at *
                have H8 := Lib.hid (part_at (cap := cap) HL7.out.sp.at_ a b p hap hpb (by omega) hn6)
                go_wp2_with fail
                refine H8.out.mono ?_
                rintro r w8 ⟨m, al, rfl, D8, hs8, hp8⟩
                have HL8 : Hid (PS w g n a0 b0 d a b w8 D8) := Lib.hid (HL7.out.step hs8)
                have HP8 := Lib.hid hp8
                have am := hp8.am
                have mb := hp8.mb
                clear hs8 hp8 H8 HL7
                by_cases hlr : (m : Int) - (a : Int) < (b : Int) - (m : Int)
                · have hlrb : decide ((m : Int) - (a : Int) < (b : Int) - (m : Int)) = true := by simpa using hlr
                  have H9 := Lib.hid (IH.out w8 D8 a m lim1 (by omega) HL8.out.sp.at_ am (by omega) (by omega) (HP8.out.aheadL HL8.out.ahead))
                  go_wp2_with fail
                  refine H9.out.mono ?_
                  rintro r w9 ⟨rfl, D9, hs9, hS9⟩
                  have HL9 : Hid (PS w g n a0 b0 d (m + 1) b w9 D9) := Lib.hid (HL8.out.left HP8.out hs9 hS9)
                  clear hs9 hS9 H9 HL8
                  go_wp2_with fail
                  go_roundg (b - (m + 1))
                  case measure => omega
                  case rel => exact ⟨m + 1, b, lim1, _, _, D9, by first | rfl | go_num, by first | rfl | go_num, by first | rfl | go_num, rfl, rfl, by omega, rfl, HL9⟩
                · have hlrb : decide ((m : Int) - (a : Int) < (b : Int) - (m : Int)) = false := by simpa using hlr
                  have hm1 : ((m + 1 : Nat) : Int) = (m : Int) + 1 := by omega
                  have H9 := Lib.hid (IH.out w8 D8 (m + 1) b lim1 (by omega) HL8.out.sp.at_ (by omega) (by omega) (by omega) HP8.out.aheadR)
                  rw [hm1] at H9
                  clear hm1
                  go_wp2_with fail
                  refine H9.out.mono ?_
                  rintro r w9 ⟨rfl, D9, hs9, hS9⟩
                  have HL9 : Hid (PS w g n a0 b0 d a m w9 D9) := Lib.hid (HL8.out.right HP8.out hs9 hS9)
                  clear hs9 hS9 H9 HL8
                  go_wp2_with fail
                  go_roundg (m - a)
                  case measure => omega
                  case rel => exact ⟨a, m, lim1, _, _, D9, by first | rfl | go_num, by first | rfl | go_num, by first | rfl | go_num, rfl, rfl, by omega, rfl, HL9⟩
              · have hlsb : decide (D3 a1 < D3 p) = false := by simpa using hls
                go_wp2_with fail
                go_quiet ((go_at_call 40; exact quiet_same (less_any _ _ _)))
                have HL7 : Hid (PS w g n a0 b0 d a b (w4.drewN nq) D3) := Lib.hid (HL4.out.drewN nq)
                clear HL4 cA cP ixA ixP
                generalize w4.drewN nq = w7 at *
                have H8 := Lib.hid (equal_at (cap := cap) HL7.out.sp.at_ a b p hap hpb (by omega) hn6)
                go_wp2_with fail
                refine H8.out.mono ?_
                rintro r w8 ⟨m, rfl, D8, hs8, ham, hmb, hle8, hgt8⟩
                have HL8 : Hid (PS w g n a0 b0 d m b w8 D8) := Lib.hid (HL7.out.equal (p := p) hs8 (by omega) (by rw [show a - 1 = a1 by have := HA1.out; omega]; omega) ham hmb hle8)
                clear hs8 H8 HL7 hle8 hgt8
                go_wp2_with fail
                go_roundg (b - m)
                case measure => omega
                case rel => exact ⟨m, b, lim1, _, _, D8, by first | rfl | go_num, by first | rfl | go_num, by first | rfl | go_num, rfl, rfl, by omega, rfl, HL8⟩
        | true =>
          cases wp with
          | false =>
            have H2 := Lib.hid (pivot_at (cap := cap) HL.out.sp.at_ a b hab12 (by omega) hn6)
            go_wp2_with fail
            refine H2.out.mono ?_
            rintro r w4 ⟨p, h, rfl, ⟨hap, hpb⟩, hh, hd4, hg4⟩
            have HL4 : Hid (PS w g n a0 b0 d a b w4 D) := Lib.hid (HL.out.grown hd4 hg4)
            clear hd4 hg4 H2 HL
            by_cases hh2x : h = 2
            · skip
              have hh2 : h = 2 := by assumption
              subst hh2
              have H3 := Lib.hid (rev_at (cap := cap) HL4.out.sp.at_ a b (by omega) (by omega) hn6)
              go_wp2_with fail
              refine H3.out.mono ?_
              rintro r w5 ⟨rfl, D5, hs5⟩
              have HL5 : Hid (PS w g n a0 b0 d a b w5 D5) := Lib.hid (HL4.out.step hs5)
              obtain ⟨p5, hp5⟩ : ∃ p5 : Nat, (b : Int) - 1 - ((p : Int) - (a : Int)) = (p5 : Int) := ⟨((b : Int) - 1 - ((p : Int) - (a : Int))).toNat, by omega⟩
              have hap5 : a ≤ p5 ∧ p5 < b := by omega
              have hap5 : a ≤ p5 := hap5.1
              have hpb5 : p5 < b := by omega
              clear hs5 H3 HL4
              by_cases ha0 : a = 0
              · have hga : decide (0 < (a : Int)) = false := by simp; omega
                have hga' : decide (0 < a) = false := by simp; omega
                clear ha0
                go_wp2_with fail
                go_quiet (fail)
                have HL7 : Hid (PS w g n a0 b0 d a b (w5.drewN nq) D5) := Lib.hid (HL5.out.drewN nq)
                clear HL5
                generalize w5.drewN nq = w7 at *
                have H8 := Lib.hid (part_at (cap := cap) HL7.out.sp.at_ a b p5 hap5 hpb5 (by omega) hn6)
                go_wp2_with fail
                refine H8.out.mono ?_
                rintro r w8 ⟨m, al, rfl, D8, hs8, hp8⟩
                have HL8 : Hid (PS w g n a0 b0 d a b w8 D8) := Lib.hid (HL7.out.step hs8)
                have HP8 := Lib.hid hp8
                have am := hp8.am
                have mb := hp8.mb
                clear hs8 hp8 H8 HL7
                by_cases hlr : (m : Int) - (a : Int) < (b : Int) - (m : Int)
                · have hlrb : decide ((m : Int) - (a : Int) < (b : Int) - (m : Int)) = true := by simpa using hlr
                  have H9 := Lib.hid (IH.out w8 D8 a m lim (by omega) HL8.out.sp.at_ am (by omega) (by omega) (HP8.out.aheadL HL8.out.ahead))
                  go_wp2_with fail
                  refine H9.out.mono ?_
                  rintro r w9 ⟨rfl, D9, hs9, hS9⟩
                  have HL9 : Hid (PS w g n a0 b0 d (m + 1) b w9 D9) := Lib.hid (HL8.out.left HP8.out hs9 hS9)
                  clear hs9 hS9 H9 HL8
                  go_wp2_with fail
                  go_roundg (b - (m + 1))
                  case measure => omega
                  case rel => exact ⟨m + 1, b, lim, _, _, D9, by first | rfl | go_num, by first | rfl | go_num, by first | rfl | go_num, rfl, rfl, by omega, rfl, HL9⟩
                · have hlrb : decide ((m : Int) - (a : Int) < (b : Int) - (m : Int)) = false := by simpa using hlr
                  have hm1 : ((m + 1 : Nat) : Int) = (m : Int) + 1 := by omega
                  have H9 := Lib.hid (IH.out w8 D8 (m + 1) b lim (by omega) HL8.out.sp.at_ (by omega) (by omega) (by omega) HP8.out.aheadR)
                  rw [hm1] at H9
                  clear hm1
                  go_wp2_with fail
                  refine H9.out.mono ?_
                  rintro r w9 ⟨rfl, D9, hs9, hS9⟩
                  have HL9 : Hid (PS w g n a0 b0 d a m w9 D9) := Lib.hid (HL8.out.right HP8.out hs9 hS9)
                  clear hs9 hS9 H9 HL8
                  go_wp2_with fail
                  go_roundg (m - a)
                  case measure => omega
                  case rel => exact ⟨a, m, lim, _, _, D9, by first | rfl | go_num, by first | rfl | go_num, by first | rfl | go_num, rfl, rfl, by omega, rfl, HL9⟩
              · obtain ⟨a1, ha1⟩ : ∃ a1, a = a1 + 1 := ⟨a - 1, by omega⟩
                have hga : decide (0 < (a : Int)) = true := by simp; omega
                have hga' : decide (0 < a) = true := by simp; omega
                have eA : (a : Int) - 1 = (a1 : Int) := by omega
                have wA : IntKind.i64.wrap (a1 : Int) = (a1 : Int) := by rw [IntKind.wrap_i64]; omega
                have ixA := ix34 g a1 n cap (by omega)
                have ixP := ix34 g p5 n cap (by omega)
                have cA := HL5.out.sp.at_.cell (i := a1) (by omega)
                have cP := HL5.out.sp.at_.cell (i := p5) (by omega)
                have HA1 := Lib.hid ha1
                clear ha1
                by_cases hls : D5 a1 < D5 p5
                · have hlsb : decide (D5 a1 < D5 p5) = true := by simpa using hls
                  go_wp2_with fail
                  go_quiet ((go_at_call 40; exact quiet_same (less_any _ _ _)))
                  have HL7 : Hid (PS w g n a0 b0 d a b (w5.drewN nq) D5) := Lib.hid (HL5.out.drewN nq)
                  clear HL5 cA cP ixA ixP
                  generalize w5.drewN nq = w7 at *
                  have H8 := Lib.hid (part_at (cap := cap) HL7.out.sp.at_ a b p5 hap5 hpb5 (by omega) hn6)
                  go_wp2_with fail
                  refine H8.out.mono ?_
                  rintro r w8 ⟨m, al, rfl, D8, hs8, hp8⟩
                  have HL8 : Hid (PS w g n a0 b0 d a b w8 D8) := Lib.hid (HL7.out.step hs8)
                  have HP8 := Lib.hid hp8
                  have am := hp8.am
                  have mb := hp8.mb
                  clear hs8 hp8 H8 HL7
                  by_cases hlr : (m : Int) - (a : Int) < (b : Int) - (m : Int)
                  · have hlrb : decide ((m : Int) - (a : Int) < (b : Int) - (m : Int)) = true := by simpa using hlr
                    have H9 := Lib.hid (IH.out w8 D8 a m lim (by omega) HL8.out.sp.at_ am (by omega) (by omega) (HP8.out.aheadL HL8.out.ahead))
                    go_wp2_with fail
                    refine H9.out.mono ?_
                    rintro r w9 ⟨rfl, D9, hs9, hS9⟩
                    have HL9 : Hid (PS w g n a0 b0 d (m + 1) b w9 D9) := Lib.hid (HL8.out.left HP8.out hs9 hS9)
                    clear hs9 hS9 H9 HL8
                    go_wp2_with fail
                    go_roundg (b - (m + 1))
                    case measure => omega
                    case rel => exact ⟨m + 1, b, lim, _, _, D9, by first | rfl | go_num, by first | rfl | go_num, by first | rfl | go_num, rfl, rfl, by omega, rfl, HL9⟩
                  · have hlrb : decide ((m : Int) - (a : Int) < (b : Int) - (m : Int)) = false := by simpa using hlr
                    have hm1 : ((m + 1 : Nat) : Int) = (m : Int) + 1 := by omega
                    have H9 := Lib.hid (IH.out w8 D8 (m + 1) b lim (by omega) HL8.out.sp.at_ (by omega) (by omega) (by omega) HP8.out.aheadR)
                    rw [hm1] at H9
                    clear hm1
                    go_wp2_with fail
                    refine H9.out.mono ?_
                    rintro r w9 ⟨rfl, D9, hs9, hS9⟩
                    have HL9 : Hid (PS w g n a0 b0 d a m w9 D9) := Lib.hid (HL8.out.right HP8.out hs9 hS9)
                    clear hs9 hS9 H9 HL8
                    go_wp2_with fail
                    go_roundg (m - a)
                    case measure => omega
                    case rel => exact ⟨a, m, lim, _, _, D9, by first | rfl | go_num, by first | rfl | go_num, by first | rfl | go_num, rfl, rfl, by omega, rfl, HL9⟩
                · have hlsb : decide (D5 a1 < D5 p5) = false := by simpa using hls
                  go_wp2_with fail
                  go_quiet ((go_at_call 40; exact quiet_same (less_any _ _ _)))
                  have HL7 : Hid (PS w g n a0 b0 d a b (w5.drewN nq) D5) := Lib.hid (HL5.out.drewN nq)
                  clear HL5 cA cP ixA ixP
                  generalize w5.drewN nq = w7 at *
                  have H8 := Lib.hid (equal_at (cap := cap) HL7.out.sp.at_ a b p5 hap5 hpb5 (by omega) hn6)
                  go_wp2_with fail
                  refine H8.out.mono ?_
                  rintro r w8 ⟨m, rfl, D8, hs8, ham, hmb, hle8, hgt8⟩
                  have HL8 : Hid (PS w g n a0 b0 d m b w8 D8) := Lib.hid (HL7.out.equal (p := p5) hs8 (by omega) (by rw [show a - 1 = a1 by have := HA1.out; omega]; omega) ham hmb hle8)
                  clear hs8 H8 HL7 hle8 hgt8
                  go_wp2_with fail
                  go_roundg (b - m)
                  case measure => omega
                  case rel => exact ⟨m, b, lim, _, _, D8, by first | rfl | go_num, by first | rfl | go_num, by first | rfl | go_num, rfl, rfl, by omega, rfl, HL8⟩
            · have hb2 : (h == 2) = false := beq_eq_false_iff_ne.2 hh2x
              by_cases ha0 : a = 0
              · have hga : decide (0 < (a : Int)) = false := by simp; omega
                have hga' : decide (0 < a) = false := by simp; omega
                clear ha0
                go_wp2_with fail
                go_quiet (fail)
                have HL7 : Hid (PS w g n a0 b0 d a b (w4.drewN nq) D) := Lib.hid (HL4.out.drewN nq)
                clear HL4
                generalize w4.drewN nq = w7 at *
                have H8 := Lib.hid (part_at (cap := cap) HL7.out.sp.at_ a b p hap hpb (by omega) hn6)
                go_wp2_with fail
                refine H8.out.mono ?_
                rintro r w8 ⟨m, al, rfl, D8, hs8, hp8⟩
                have HL8 : Hid (PS w g n a0 b0 d a b w8 D8) := Lib.hid (HL7.out.step hs8)
                have HP8 := Lib.hid hp8
                have am := hp8.am
                have mb := hp8.mb
                clear hs8 hp8 H8 HL7
                by_cases hlr : (m : Int) - (a : Int) < (b : Int) - (m : Int)
                · have hlrb : decide ((m : Int) - (a : Int) < (b : Int) - (m : Int)) = true := by simpa using hlr
                  have H9 := Lib.hid (IH.out w8 D8 a m lim (by omega) HL8.out.sp.at_ am (by omega) (by omega) (HP8.out.aheadL HL8.out.ahead))
                  go_wp2_with fail
                  refine H9.out.mono ?_
                  rintro r w9 ⟨rfl, D9, hs9, hS9⟩
                  have HL9 : Hid (PS w g n a0 b0 d (m + 1) b w9 D9) := Lib.hid (HL8.out.left HP8.out hs9 hS9)
                  clear hs9 hS9 H9 HL8
                  go_wp2_with fail
                  go_roundg (b - (m + 1))
                  case measure => omega
                  case rel => exact ⟨m + 1, b, lim, _, _, D9, by first | rfl | go_num, by first | rfl | go_num, by first | rfl | go_num, rfl, rfl, by omega, rfl, HL9⟩
                · have hlrb : decide ((m : Int) - (a : Int) < (b : Int) - (m : Int)) = false := by simpa using hlr
                  have hm1 : ((m + 1 : Nat) : Int) = (m : Int) + 1 := by omega
                  have H9 := Lib.hid (IH.out w8 D8 (m + 1) b lim (by omega) HL8.out.sp.at_ (by omega) (by omega) (by omega) HP8.out.aheadR)
                  rw [hm1] at H9
                  clear hm1
                  go_wp2_with fail
                  refine H9.out.mono ?_
                  rintro r w9 ⟨rfl, D9, hs9, hS9⟩
                  have HL9 : Hid (PS w g n a0 b0 d a m w9 D9) := Lib.hid (HL8.out.right HP8.out hs9 hS9)
                  clear hs9 hS9 H9 HL8
                  go_wp2_with fail
                  go_roundg (m - a)
                  case measure => omega
                  case rel => exact ⟨a, m, lim, _, _, D9, by first | rfl | go_num, by first | rfl | go_num, by first | rfl | go_num, rfl, rfl, by omega, rfl, HL9⟩
              · obtain ⟨a1, ha1⟩ : ∃ a1, a = a1 + 1 := ⟨a - 1, by omega⟩
                have hga : decide (0 < (a : Int)) = true := by simp; omega
                have hga' : decide (0 < a) = true := by simp; omega
                have eA : (a : Int) - 1 = (a1 : Int) := by omega
                have wA : IntKind.i64.wrap (a1 : Int) = (a1 : Int) := by rw [IntKind.wrap_i64]; omega
                have ixA := ix34 g a1 n cap (by omega)
                have ixP := ix34 g p n cap (by omega)
                have cA := HL4.out.sp.at_.cell (i := a1) (by omega)
                have cP := HL4.out.sp.at_.cell (i := p) (by omega)
                have HA1 := Lib.hid ha1
                clear ha1
                by_cases hls : D a1 < D p
                · have hlsb : decide (D a1 < D p) = true := by simpa using hls
                  go_wp2_with fail
                  go_quiet ((go_at_call 40; exact quiet_same (less_any _ _ _)))
                  have HL7 : Hid (PS w g n a0 b0 d a b (w4.drewN nq) D) := Lib.hid (HL4.out.drewN nq)
                  clear HL4 cA cP ixA ixP
                  generalize w4.drewN nq = w7 at *
                  have H8 := Lib.hid (part_at (cap := cap) HL7.out.sp.at_ a b p hap hpb (by omega) hn6)
                  go_wp2_with fail
                  refine H8.out.mono ?_
                  rintro r w8 ⟨m, al, rfl, D8, hs8, hp8⟩
                  have HL8 : Hid (PS w g n a0 b0 d a b w8 D8) := Lib.hid (HL7.out.step hs8)
                  have HP8 := Lib.hid hp8
                  have am := hp8.am
                  have mb := hp8.mb
                  clear hs8 hp8 H8 HL7
                  by_cases hlr : (m : Int) - (a : Int) < (b : Int) - (m : Int)
                  · have hlrb : decide ((m : Int) - (a : Int) < (b : Int) - (m : Int)) = true := by simpa using hlr
                    have H9 := Lib.hid (IH.out w8 D8 a m lim (by omega) HL8.out.sp.at_ am (by omega) (by omega) (HP8.out.aheadL HL8.out.ahead))
                    go_wp2_with fail
                    refine H9.out.mono ?_
                    rintro r w9 ⟨rfl, D9, hs9, hS9⟩
                    have HL9 : Hid (PS w g n a0 b0 d (m + 1) b w9 D9) := Lib.hid (HL8.out.left HP8.out hs9 hS9)
                    clear hs9 hS9 H9 HL8
                    go_wp2_with fail
                    go_roundg (b - (m + 1))
                    case measure => omega
                    case rel => exact ⟨m + 1, b, lim, _, _, D9, by first | rfl | go_num, by first | rfl | go_num, by first | rfl | go_num, rfl, rfl, by omega, rfl, HL9⟩
                  · have hlrb : decide ((m : Int) - (a : Int) < (b : Int) - (m : Int)) = false := by simpa using hlr
                    have hm1 : ((m + 1 : Nat) : Int) = (m : Int) + 1 := by omega
                    have H9 := Lib.hid (IH.out w8 D8 (m + 1) b lim (by omega) HL8.out.sp.at_ (by omega) (by omega) (by omega) HP8.out.aheadR)
                    rw [hm1] at H9
                    clear hm1
                    go_wp2_with fail
                    refine H9.out.mono ?_
                    rintro r w9 ⟨rfl, D9, hs9, hS9⟩
                    have HL9 : Hid (PS w g n a0 b0 d a m w9 D9) := Lib.hid (HL8.out.right HP8.out hs9 hS9)
                    clear hs9 hS9 H9 HL8
                    go_wp2_with fail
                    go_roundg (m - a)
                    case measure => omega
                    case rel => exact ⟨a, m, lim, _, _, D9, by first | rfl | go_num, by first | rfl | go_num, by first | rfl | go_num, rfl, rfl, by omega, rfl, HL9⟩
                · have hlsb : decide (D a1 < D p) = false := by simpa using hls
                  go_wp2_with fail
                  go_quiet ((go_at_call 40; exact quiet_same (less_any _ _ _)))
                  have HL7 : Hid (PS w g n a0 b0 d a b (w4.drewN nq) D) := Lib.hid (HL4.out.drewN nq)
                  clear HL4 cA cP ixA ixP
                  generalize w4.drewN nq = w7 at *
                  have H8 := Lib.hid (equal_at (cap := cap) HL7.out.sp.at_ a b p hap hpb (by omega) hn6)
                  go_wp2_with fail
                  refine H8.out.mono ?_
                  rintro r w8 ⟨m, rfl, D8, hs8, ham, hmb, hle8, hgt8⟩
                  have HL8 : Hid (PS w g n a0 b0 d m b w8 D8) := Lib.hid (HL7.out.equal (p := p) hs8 (by omega) (by rw [show a - 1 = a1 by have := HA1.out; omega]; omega) ham hmb hle8)
                  clear hs8 H8 HL7 hle8 hgt8
                  go_wp2_with fail
                  go_roundg (b - m)
                  case measure => omega
                  case rel => exact ⟨m, b, lim, _, _, D8, by first | rfl | go_num, by first | rfl | go_num, by first | rfl | go_num, rfl, rfl, by omega, rfl, HL8⟩
          | true =>
            have H2 := Lib.hid (pivot_at (cap := cap) HL.out.sp.at_ a b hab12 (by omega) hn6)
            go_wp2_with fail
            refine H2.out.mono ?_
            rintro r w4 ⟨p, h, rfl, ⟨hap, hpb⟩, hh, hd4, hg4⟩
            have HL4 : Hid (PS w g n a0 b0 d a b w4 D) := Lib.hid (HL.out.grown hd4 hg4)
            clear hd4 hg4 H2 HL
            by_cases hh2x : h = 2
            · skip
              have hh2 : h = 2 := by assumption
              subst hh2
              have H3 := Lib.hid (rev_at (cap := cap) HL4.out.sp.at_ a b (by omega) (by omega) hn6)
              go_wp2_with fail
              refine H3.out.mono ?_
              rintro r w5 ⟨rfl, D5, hs5⟩
              have HL5 : Hid (PS w g n a0 b0 d a b w5 D5) := Lib.hid (HL4.out.step hs5)
              obtain ⟨p5, hp5⟩ : ∃ p5 : Nat, (b : Int) - 1 - ((p : Int) - (a : Int)) = (p5 : Int) := ⟨((b : Int) - 1 - ((p : Int) - (a : Int))).toNat, by omega⟩
              have hap5 : a ≤ p5 ∧ p5 < b := by omega
              have hap5 : a ≤ p5 := hap5.1
              have hpb5 : p5 < b := by omega
              clear hs5 H3 HL4
              have H6 := Lib.hid (pins_at (cap := cap) HL5.out.sp.at_ a b (by omega) (by omega) hn6 HL5.out.ahead)
              go_wp2_with fail
              refine H6.out.mono ?_
              rintro r w6 ⟨al6, rfl, D6, hs6, hS6⟩
              cases al6 with
              | true =>
                have HF := Lib.hid (HL5.out.fin hs6 (hS6 rfl))
                clear hs6 hS6 H6
                go_wp2
                first | go_end0 | refine bodyPost_ret (results_none rfl _ _ _) rfl ?_
                exact ⟨rfl, D6, HF.out⟩
              | false =>
                have HL6 : Hid (PS w g n a0 b0 d a b w6 D6) := Lib.hid (HL5.out.step hs6)
                clear hs6 hS6 H6 HL5
                by_cases ha0 : a = 0
                · have hga : decide (0 < (a : Int)) = false := by simp; omega
                  have hga' : decide (0 < a) = false := by simp; omega
                  clear ha0
                  go_wp2_with fail
                  go_quiet (fail)
                  have HL7 : Hid (PS w g n a0 b0 d a b (w6.drewN nq) D6) := Lib.hid (HL6.out.drewN nq)
                  clear HL6
                  generalize w6.drewN nq = w7 at *
                  have H8 := Lib.hid (part_at (cap := cap) HL7.out.sp.at_ a b p5 hap5 hpb5 (by omega) hn6)
                  go_wp2_with fail
                  refine H8.out.mono ?_
                  rintro r w8 ⟨m, al, rfl, D8, hs8, hp8⟩
                  have HL8 : Hid (PS w g n a0 b0 d a b w8 D8) := Lib.hid (HL7.out.step hs8)
                  have HP8 := Lib.hid hp8
                  have am := hp8.am
                  have mb := hp8.mb
                  clear hs8 hp8 H8 HL7
                  by_cases hlr : (m : Int) - (a : Int) < (b : Int) - (m : Int)
                  · have hlrb : decide ((m : Int) - (a : Int) < (b : Int) - (m : Int)) = true := by simpa using hlr
                    have H9 := Lib.hid (IH.out w8 D8 a m lim (by omega) HL8.out.sp.at_ am (by omega) (by omega) (HP8.out.aheadL HL8.out.ahead))
                    go_wp2_with fail
                    refine H9.out.mono ?_
                    rintro r w9 ⟨rfl, D9, hs9, hS9⟩
                    have HL9 : Hid (PS w g n a0 b0 d (m + 1) b w9 D9) := Lib.hid (HL8.out.left HP8.out hs9 hS9)
                    clear hs9 hS9 H9 HL8
                    go_wp2_with fail
                    go_roundg (b - (m + 1))
                    case measure => omega
                    case rel => exact ⟨m + 1, b, lim, _, _, D9, by first | rfl | go_num, by first | rfl | go_num, by first | rfl | go_num, rfl, rfl, by omega, rfl, HL9⟩
                  · have hlrb : decide ((m : Int) - (a : Int) < (b : Int) - (m : Int)) = false := by simpa using hlr
                    have hm1 : ((m + 1 : Nat) : Int) = (m : Int) + 1 := by omega
                    have H9 := Lib.hid (IH.out w8 D8 (m + 1) b lim (by omega) HL8.out.sp.at_ (by omega) (by omega) (by omega) HP8.out.aheadR)
                    rw [hm1] at H9
                    clear hm1
                    go_wp2_with fail
                    refine H9.out.mono ?_
                    rintro r w9 ⟨rfl, D9, hs9, hS9⟩
                    have HL9 : Hid (PS w g n a0 b0 d a m w9 D9) := Lib.hid (HL8.out.right HP8.out hs9 hS9)
                    clear hs9 hS9 H9 HL8
                    go_wp2_with fail
                    go_roundg (m - a)
                    case measure => omega
                    case rel => exact ⟨a, m, lim, _, _, D9, by first | rfl | go_num, by first | rfl | go_num, by first | rfl | go_num, rfl, rfl, by omega, rfl, HL9⟩
                · obtain ⟨a1, ha1⟩ : ∃ a1, a = a1 + 1 := ⟨a - 1, by omega⟩
                  have hga : decide (0 < (a : Int)) = true := by simp; omega
                  have hga' : decide (0 < a) = true := by simp; omega
                  have eA : (a : Int) - 1 = (a1 : Int) := by omega
                  have wA : IntKind.i64.wrap (a1 : Int) = (a1 : Int) := by rw [IntKind.wrap_i64]; omega
                  have ixA := ix34 g a1 n cap (by omega)
                  have ixP := ix34 g p5 n cap (by omega)
                  have cA := HL6.out.sp.at_.cell (i := a1) (by omega)
                  have cP := HL6.out.sp.at_.cell (i := p5) (by omega)
                  have HA1 := Lib.hid ha1
                  clear ha1
                  by_cases hls : D6 a1 < D6 p5
                  · have hlsb : decide (D6 a1 < D6 p5) = true := by simpa using hls
                    go_wp2_with fail
                    go_quiet ((go_at_call 40; exact quiet_same (less_any _ _ _)))
                    have HL7 : Hid (PS w g n a0 b0 d a b (w6.drewN nq) D6) := Lib.hid (HL6.out.drewN nq)
                    clear HL6 cA cP ixA ixP
                    generalize w6.drewN nq = w7 at *
                    have H8 := Lib.hid (part_at (cap := cap) HL7.out.sp.at_ a b p5 hap5 hpb5 (by omega) hn6)
                    go_wp2_with fail
                    refine H8.out.mono ?_
                    rintro r w8 ⟨m, al, rfl, D8, hs8, hp8⟩
                    have HL8 : Hid (PS w g n a0 b0 d a b w8 D8) := Lib.hid (HL7.out.step hs8)
                    have HP8 := Lib.hid hp8
                    have am := hp8.am
                    have mb := hp8.mb
                    clear hs8 hp8 H8 HL7
                    by_cases hlr : (m : Int) - (a : Int) < (b : Int) - (m : Int)
                    · have hlrb : decide ((m : Int) - (a : Int) < (b : Int) - (m : Int)) = true := by simpa using hlr
                      have H9 := Lib.hid (IH.out w8 D8 a m lim (by omega) HL8.out.sp.at_ am (by omega) (by omega) (HP8.out.aheadL HL8.out.ahead))
                      go_wp2_with fail
                      refine H9.out.mono ?_
                      rintro r w9 ⟨rfl, D9, hs9, hS9⟩
                      have HL9 : Hid (PS w g n a0 b0 d (m + 1) b w9 D9) := Lib.hid (HL8.out.left HP8.out hs9 hS9)
                      clear hs9 hS9 H9 HL8
                      go_wp2_with fail
                      go_roundg (b - (m + 1))
                      case measure => omega
                      case rel => exact ⟨m + 1, b, lim, _, _, D9, by first | rfl | go_num, by first | rfl | go_num, by first | rfl | go_num, rfl, rfl, by omega, rfl, HL9⟩
                    · have hlrb : decide ((m : Int) - (a : Int) < (b : Int) - (m : Int)) = false := by simpa using hlr
                      have hm1 : ((m + 1 : Nat) : Int) = (m : Int) + 1 := by omega
                      have H9 := Lib.hid (IH.out w8 D8 (m + 1) b lim (by omega) HL8.out.sp.at_ (by omega) (by omega) (by omega) HP8.out.aheadR)
                      rw [hm1] at H9
                      clear hm1
                      go_wp2_with fail
                      refine H9.out.mono ?_
                      rintro r w9 ⟨rfl, D9, hs9, hS9⟩
                      have HL9 : Hid (PS w g n a0 b0 d a m w9 D9) := Lib.hid (HL8.out.right HP8.out hs9 hS9)
                      clear hs9 hS9 H9 HL8
                      go_wp2_with fail
                      go_roundg (m - a)
                      case measure => omega
                      case rel => exact ⟨a, m, lim, _, _, D9, by first | rfl | go_num, by first | rfl | go_num, by first | rfl | go_num, rfl, rfl, by omega, rfl, HL9⟩
                  · have hlsb : decide (D6 a1 < D6 p5) = false := by simpa using hls
                    go_wp2_with fail
                    go_quiet ((go_at_call 40; exact quiet_same (less_any _ _ _)))
                    have HL7 : Hid (PS w g n a0 b0 d a b (w6.drewN nq) D6) := Lib.hid (HL6.out.drewN nq)
                    clear HL6 cA cP ixA ixP
                    generalize w6.drewN nq = w7 at *
                    have H8 := Lib.hid (equal_at (cap := cap) HL7.out.sp.at_ a b p5 hap5 hpb5 (by omega) hn6)
                    go_wp2_with fail
                    refine H8.out.mono ?_
                    rintro r w8 ⟨m, rfl, D8, hs8, ham, hmb, hle8, hgt8⟩
                    have HL8 : Hid (PS w g n a0 b0 d m b w8 D8) := Lib.hid (HL7.out.equal (p := p5) hs8 (by omega) (by rw [show a - 1 = a1 by have := HA1.out; omega]; omega) ham hmb hle8)
                    clear hs8 H8 HL7 hle8 hgt8
                    go_wp2_with fail
                    go_roundg (b - m)
                    case measure => omega
                    case rel => exact ⟨m, b, lim, _, _, D8, by first | rfl | go_num, by first | rfl | go_num, by first | rfl | go_num, rfl, rfl, by omega, rfl, HL8⟩
            · have hb2 : (h == 2) = false := beq_eq_false_iff_ne.2 hh2x
              by_cases hh1 : h = 1
              · subst hh1
                have H6 := Lib.hid (pins_at (cap := cap) HL4.out.sp.at_ a b (by omega) (by omega) hn6 HL4.out.ahead)
                go_wp2_with fail
                refine H6.out.mono ?_
                rintro r w6 ⟨al6, rfl, D6, hs6, hS6⟩
                cases al6 with
                | true =>
                  have HF := Lib.hid (HL4.out.fin hs6 (hS6 rfl))
                  clear hs6 hS6 H6
                  go_wp2
                  first | go_end0 | refine bodyPost_ret (results_none rfl _ _ _) rfl ?_
                  exact ⟨rfl, D6, HF.out⟩
                | false =>
                  have HL6 : Hid (PS w g n a0 b0 d a b w6 D6) := Lib.hid (HL4.out.step hs6)
                  clear hs6 hS6 H6 HL4
                  by_cases ha0 : a = 0
                  · have hga : decide (0 < (a : Int)) = false := by simp; omega
                    have hga' : decide (0 < a) = false := by simp; omega
                    clear ha0
                    go_wp2_with fail
                    go_quiet (fail)
                    have HL7 : Hid (PS w g n a0 b0 d a b (w6.drewN nq) D6) := Lib.hid (HL6.out.drewN nq)
                    clear HL6
                    generalize w6.drewN nq = w7 at *
                    have H8 := Lib.hid (part_at (cap := cap) HL7.out.sp.at_ a b p hap hpb (by omega) hn6)
                    go_wp2_with fail
                    refine H8.out.mono ?_
                    rintro r w8 ⟨m, al, rfl, D8, hs8, hp8⟩
                    have HL8 : Hid (PS w g n a0 b0 d a b w8 D8) := Lib.hid (HL7.out.step hs8)
                    have HP8 := Lib.hid hp8
                    have am := hp8.am
                    have mb := hp8.mb
                    clear hs8 hp8 H8 HL7
                    by_cases hlr : (m : Int) - (a : Int) < (b : Int) - (m : Int)
                    · have hlrb : decide ((m : Int) - (a : Int) < (b : Int) - (m : Int)) = true := by simpa using hlr
                      have H9 := Lib.hid (IH.out w8 D8 a m lim (by omega) HL8.out.sp.at_ am (by omega) (by omega) (HP8.out.aheadL HL8.out.ahead))
                      go_wp2_with fail
                      refine H9.out.mono ?_
                      rintro r w9 ⟨rfl, D9, hs9, hS9⟩
                      have HL9 : Hid (PS w g n a0 b0 d (m + 1) b w9 D9) := Lib.hid (HL8.out.left HP8.out hs9 hS9)
                      clear hs9 hS9 H9 HL8
                      go_wp2_with fail
                      go_roundg (b - (m + 1))
                      case measure => omega
                      case rel => exact ⟨m + 1, b, lim, _, _, D9, by first | rfl | go_num, by first | rfl | go_num, by first | rfl | go_num, rfl, rfl, by omega, rfl, HL9⟩
                    · have hlrb : decide ((m : Int) - (a : Int) < (b : Int) - (m : Int)) = false := by simpa using hlr
                      have hm1 : ((m + 1 : Nat) : Int) = (m : Int) + 1 := by omega
                      have H9 := Lib.hid (IH.out w8 D8 (m + 1) b lim (by omega) HL8.out.sp.at_ (by omega) (by omega) (by omega) HP8.out.aheadR)
                      rw [hm1] at H9
                      clear hm1
                      go_wp2_with fail
                      refine H9.out.mono ?_
                      rintro r w9 ⟨rfl, D9, hs9, hS9⟩
                      have HL9 : Hid (PS w g n a0 b0 d a m w9 D9) := Lib.hid (HL8.out.right HP8.out hs9 hS9)
                      clear hs9 hS9 H9 HL8
                      go_wp2_with fail
                      go_roundg (m - a)
                      case measure => omega
                      case rel => exact ⟨a, m, lim, _, _, D9, by first | rfl | go_num, by first | rfl | go_num, by first | rfl | go_num, rfl, rfl, by omega, rfl, HL9⟩
                  · obtain ⟨a1, ha1⟩ : ∃ a1, a = a1 + 1 := ⟨a - 1, by omega⟩
                    have hga : decide (0 < (a : Int)) = true := by simp; omega
                    have hga' : decide (0 < a) = true := by simp; omega
                    have eA : (a : Int) - 1 = (a1 : Int) := by omega
                    have wA : IntKind.i64.wrap (a1 : Int) = (a1 : Int) := by rw [IntKind.wrap_i64]; omega
                    have ixA := ix34 g a1 n cap (by omega)
                    have ixP := ix34 g p n cap (by omega)
                    have cA := HL6.out.sp.at_.cell (i := a1) (by omega)
                    have cP := HL6.out.sp.at_.cell (i := p) (by omega)
                    have HA1 := Lib.hid ha1
                    clear ha1
                    by_cases hls : D6 a1 < D6 p
                    · have hlsb : decide (D6 a1 < D6 p) = true := by simpa using hls
                      go_wp2_with fail
                      go_quiet ((go_at_call 40; exact quiet_same (less_any _ _ _)))
                      have HL7 : Hid (PS w g n a0 b0 d a b (w6.drewN nq) D6) := Lib.hid (HL6.out.drewN nq)
                      clear HL6 cA cP ixA ixP
                      generalize w6.drewN nq = w7 at *
                      have H8 := Lib.hid (part_at (cap := cap) HL7.out.sp.at_ a b p hap hpb (by omega) hn6)
                      go_wp2_with fail
                      refine H8.out.mono ?_
                      rintro r w8 ⟨m, al, rfl, D8, hs8, hp8⟩
                      have HL8 : Hid (PS w g n a0 b0 d a b w8 D8) := Lib.hid (HL7.out.step hs8)
                      have HP8 := Lib.hid hp8
                      have am := hp8.am
                      have mb := hp8.mb
                      clear hs8 hp8 H8 HL7
                      by_cases hlr : (m : Int) - (a : Int) < (b : Int) - (m : Int)
                      · have hlrb : decide ((m : Int) - (a : Int) < (b : Int) - (m : Int)) = true := by simpa using hlr
                        have H9 := Lib.hid (IH.out w8 D8 a m lim (by omega) HL8.out.sp.at_ am (by omega) (by omega) (HP8.out.aheadL HL8.out.ahead))
                        go_wp2_with fail
                        refine H9.out.mono ?_
                        rintro r w9 ⟨rfl, D9, hs9, hS9⟩
                        have HL9 : Hid (PS w g n a0 b0 d (m + 1) b w9 D9) := Lib.hid (HL8.out.left HP8.out hs9 hS9)
                        clear hs9 hS9 H9 HL8
                        go_wp2_with fail
                        go_roundg (b - (m + 1))
                        case measure => omega
                        case rel => exact ⟨m + 1, b, lim, _, _, D9, by first | rfl | go_num, by first | rfl | go_num, by first | rfl | go_num, rfl, rfl, by omega, rfl, HL9⟩
                      · have hlrb : decide ((m : Int) - (a : Int) < (b : Int) - (m : Int)) = false := by simpa using hlr
                        have hm1 : ((m + 1 : Nat) : Int) = (m : Int) + 1 := by omega
                        have H9 := Lib.hid (IH.out w8 D8 (m + 1) b lim (by omega) HL8.out.sp.at_ (by omega) (by omega) (by omega) HP8.out.aheadR)
                        rw [hm1] at H9
                        clear hm1
                        go_wp2_with fail
                        refine H9.out.mono ?_
                        rintro r w9 ⟨rfl, D9, hs9, hS9⟩
                        have HL9 : Hid (PS w g n a0 b0 d a m w9 D9) := Lib.hid (HL8.out.right HP8.out hs9 hS9)
                        clear hs9 hS9 H9 HL8
                        go_wp2_with fail
                        go_roundg (m - a)
                        case measure => omega
                        case rel => exact ⟨a, m, lim, _, _, D9, by first | rfl | go_num, by first | rfl | go_num, by first | rfl | go_num, rfl, rfl, by omega, rfl, HL9⟩
                    · have hlsb : decide (D6 a1 < D6 p) = false := by simpa using hls
                      go_wp2_with fail
                      go_quiet ((go_at_call 40; exact quiet_same (less_any _ _ _)))
                      have HL7 : Hid (PS w g n a0 b0 d a b (w6.drewN nq) D6) := Lib.hid (HL6.out.drewN nq)
                      clear HL6 cA cP ixA ixP
                      generalize w6.drewN nq = w7 at *
                      have H8 := Lib.hid (equal_at (cap := cap) HL7.out.sp.at_ a b p hap hpb (by omega) hn6)
                      go_wp2_with fail
                      refine H8.out.mono ?_
                      rintro r w8 ⟨m, rfl, D8, hs8, ham, hmb, hle8, hgt8⟩
                      have HL8 : Hid (PS w g n a0 b0 d m b w8 D8) := Lib.hid (HL7.out.equal (p := p) hs8 (by omega) (by rw [show a - 1 = a1 by have := HA1.out; omega]; omega) ham hmb hle8)
                      clear hs8 H8 HL7 hle8 hgt8
                      go_wp2_with fail
                      go_roundg (b - m)
                      case measure => omega
                      case rel => exact ⟨m, b, lim, _, _, D8, by first | rfl | go_num, by first | rfl | go_num, by first | rfl | go_num, rfl, rfl, by omega, rfl, HL8⟩
              · have hb1 : (h == 1) = false := beq_eq_false_iff_ne.2 hh1
                by_cases ha0 : a = 0
                · have hga : decide (0 < (a : Int)) = false := by simp; omega
                  have hga' : decide (0 < a) = false := by simp; omega
                  clear ha0
                  go_wp2_with fail
                  go_quiet (fail)
                  have HL7 : Hid (PS w g n a0 b0 d a b (w4.drewN nq) D) := Lib.hid (HL4.out.drewN nq)
                  clear HL4
                  generalize w4.drewN nq = w7 at *
                  have H8 := Lib.hid (part_at (cap := cap) HL7.out.sp.at_ a b p hap hpb (by omega) hn6)
                  go_wp2_with fail
                  refine H8.out.mono ?_
                  rintro r w8 ⟨m, al, rfl, D8, hs8, hp8⟩
                  have HL8 : Hid (PS w g n a0 b0 d a b w8 D8) := Lib.hid (HL7.out.step hs8)
                  have HP8 := Lib.hid hp8
                  have am := hp8.am
                  have mb := hp8.mb
                  clear hs8 hp8 H8 HL7
                  by_cases hlr : (m : Int) - (a : Int) < (b : Int) - (m : Int)
                  · have hlrb : decide ((m : Int) - (a : Int) < (b : Int) - (m : Int)) = true := by simpa using hlr
                    have H9 := Lib.hid (IH.out w8 D8 a m lim (by omega) HL8.out.sp.at_ am (by omega) (by omega) (HP8.out.aheadL HL8.out.ahead))
                    go_wp2_with fail
                    refine H9.out.mono ?_
                    rintro r w9 ⟨rfl, D9, hs9, hS9⟩
                    have HL9 : Hid (PS w g n a0 b0 d (m + 1) b w9 D9) := Lib.hid (HL8.out.left HP8.out hs9 hS9)
                    clear hs9 hS9 H9 HL8
                    go_wp2_with fail
                    go_roundg (b - (m + 1))
                    case measure => omega
                    case rel => exact ⟨m + 1, b, lim, _, _, D9, by first | rfl | go_num, by first | rfl | go_num, by first | rfl | go_num, rfl, rfl, by omega, rfl, HL9⟩
                  · have hlrb : decide ((m : Int) - (a : Int) < (b : Int) - (m : Int)) = false := by simpa using hlr
                    have hm1 : ((m + 1 : Nat) : Int) = (m : Int) + 1 := by omega
                    have H9 := Lib.hid (IH.out w8 D8 (m + 1) b lim (by omega) HL8.out.sp.at_ (by omega) (by omega) (by omega) HP8.out.aheadR)
                    rw [hm1] at H9
                    clear hm1
                    go_wp2_with fail
                    refine H9.out.mono ?_
                    rintro r w9 ⟨rfl, D9, hs9, hS9⟩
                    have HL9 : Hid (PS w g n a0 b0 d a m w9 D9) := Lib.hid (HL8.out.right HP8.out hs9 hS9)
                    clear hs9 hS9 H9 HL8
                    go_wp2_with fail
                    go_roundg (m - a)
                    case measure => omega
                    case rel => exact ⟨a, m, lim, _, _, D9, by first | rfl | go_num, by first | rfl | go_num, by first | rfl | go_num, rfl, rfl, by omega, rfl, HL9⟩
                · obtain ⟨a1, ha1⟩ : ∃ a1, a = a1 + 1 := ⟨a - 1, by omega⟩
                  have hga : decide (0 < (a : Int)) = true := by simp; omega
                  have hga' : decide (0 < a) = true := by simp; omega
                  have eA : (a : Int) - 1 = (a1 : Int) := by omega
                  have wA : IntKind.i64.wrap (a1 : Int) = (a1 : Int) := by rw [IntKind.wrap_i64]; omega
                  have ixA := ix34 g a1 n cap (by omega)
                  have ixP := ix34 g p n cap (by omega)
                  have cA := HL4.out.sp.at_.cell (i := a1) (by omega)
                  have cP := HL4.out.sp.at_.cell (i := p) (by omega)
                  have HA1 := Lib.hid ha1
                  clear ha1
                  by_cases hls : D a1 < D p
                  · have hlsb : decide (D a1 < D p) = true := by simpa using hls
                    go_wp2_with fail
                    go_quiet ((go_at_call 40; exact quiet_same (less_any _ _ _)))
                    have HL7 : Hid (PS w g n a0 b0 d a b (w4.drewN nq) D) := Lib.hid (HL4.out.drewN nq)
                    clear HL4 cA cP ixA ixP
                    generalize w4.drewN nq = w7 at *
                    have H8 := Lib.hid (part_at (cap := cap) HL7.out.sp.at_ a b p hap hpb (by omega) hn6)
                    go_wp2_with fail
                    refine H8.out.mono ?_
                    rintro r w8 ⟨m, al, rfl, D8, hs8, hp8⟩
                    have HL8 : Hid (PS w g n a0 b0 d a b w8 D8) := Lib.hid (HL7.out.step hs8)
                    have HP8 := Lib.hid hp8
                    have am := hp8.am
                    have mb := hp8.mb
                    clear hs8 hp8 H8 HL7
                    by_cases hlr : (m : Int) - (a : Int) < (b : Int) - (m : Int)
                    · have hlrb : decide ((m : Int) - (a : Int) < (b : Int) - (m : Int)) = true := by simpa using hlr
                      have H9 := Lib.hid (IH.out w8 D8 a m lim (by omega) HL8.out.sp.at_ am (by omega) (by omega) (HP8.out.aheadL HL8.out.ahead))
                      go_wp2_with fail
                      refine H9.out.mono ?_
                      rintro r w9 ⟨rfl, D9, hs9, hS9⟩
                      have HL9 : Hid (PS w g n a0 b0 d (m + 1) b w9 D9) := Lib.hid (HL8.out.left HP8.out hs9 hS9)
                      clear hs9 hS9 H9 HL8
                      go_wp2_with fail
                      go_roundg (b - (m + 1))
                      case measure => omega
                      case rel => exact ⟨m + 1, b, lim, _, _, D9, by first | rfl | go_num, by first | rfl | go_num, by first | rfl | go_num, rfl, rfl, by omega, rfl, HL9⟩
                    · have hlrb : decide ((m : Int) - (a : Int) < (b : Int) - (m : Int)) = false := by simpa using hlr
                      have hm1 : ((m + 1 : Nat) : Int) = (m : Int) + 1 := by omega
                      have H9 := Lib.hid (IH.out w8 D8 (m + 1) b lim (by omega) HL8.out.sp.at_ (by omega) (by omega) (by omega) HP8.out.aheadR)
                      rw [hm1] at H9
                      clear hm1
                      go_wp2_with fail
                      refine H9.out.mono ?_
                      rintro r w9 ⟨rfl, D9, hs9, hS9⟩
                      have HL9 : Hid (PS w g n a0 b0 d a m w9 D9) := Lib.hid (HL8.out.right HP8.out hs9 hS9)
                      clear hs9 hS9 H9 HL8
                      go_wp2_with fail
                      go_roundg (m - a)
                      case measure => omega
                      case rel => exact ⟨a, m, lim, _, _, D9, by first | rfl | go_num, by first | rfl | go_num, by first | rfl | go_num, rfl, rfl, by omega, rfl, HL9⟩
                  · have hlsb : decide (D a1 < D p) = false := by simpa using hls
                    go_wp2_with fail
                    go_quiet ((go_at_call 40; exact quiet_same (less_any _ _ _)))
                    have HL7 : Hid (PS w g n a0 b0 d a b (w4.drewN nq) D) := Lib.hid (HL4.out.drewN nq)
                    clear HL4 cA cP ixA ixP
                    generalize w4.drewN nq = w7 at *
                    have H8 := Lib.hid (equal_at (cap := cap) HL7.out.sp.at_ a b p hap hpb (by omega) hn6)
                    go_wp2_with fail
                    refine H8.out.mono ?_
                    rintro r w8 ⟨m, rfl, D8, hs8, ham, hmb, hle8, hgt8⟩
                    have HL8 : Hid (PS w g n a0 b0 d m b w8 D8) := Lib.hid (HL7.out.equal (p := p) hs8 (by omega) (by rw [show a - 1 = a1 by have := HA1.out; omega]; omega) ham hmb hle8)
                    clear hs8 H8 HL7 hle8 hgt8
                    go_wp2_with fail
                    go_roundg (b - m)
                    case measure => omega
                    case rel => exact ⟨m, b, lim, _, _, D8, by first | rfl | go_num, by first | rfl | go_num, by first | rfl | go_num, rfl, rfl, by omega, rfl, HL8⟩
end
end Go.Proofs.YtnhjnciadmgkeaaDoor
