/-
  The document's examples.
-/
import Derived.Test.YtdchmpbmaeoeoaaDoorPrs
namespace Go.Proofs.YtdchmpbmaeoeoaaDoor
open Go.Shelf Go.RowKit Go.Sort
open Go.Lib hiding intOf
set_option linter.unusedVariables false
theorem rdi_of {l : List UInt8} (u : Nat) (hu : u < 1000) (h : decDigits u = l) : rdi l = some (u : Int) := rdi_some.2 ⟨⟨by omega, by omega⟩, by rw [itoa_nonneg]; exact h⟩
theorem parse1 (V : World) (hV : Env V) : Calls Tryd.prog 14 #[.string ⟨#[108, 105, 114, 115, 32, 56, 32, 50, 32, 49, 54]⟩] V fun e w' => e = .returned (.tuple #[.agg #[.int .i64 1, .int .i64 8, .int .i64 2, .int .i64 16], .int .i64 0]) ∧ Below V.heap.size V w' := by
  have h := parse_at ⟨#[108, 105, 114, 115, 32, 56, 32, 50, 32, 49, 54]⟩ (by decide) V hV
  have e : wds [108, 105, 114, 115, 32, 56, 32, 50, 32, 49, 54] = [[108, 105, 114, 115], [56], [50], [49, 54]] := by decide
  have e' : (⟨#[108, 105, 114, 115, 32, 56, 32, 50, 32, 49, 54]⟩ : ByteArray).data.toList = [108, 105, 114, 115, 32, 56, 32, 50, 32, 49, 54] := rfl
  have r1 : rdi [56] = some 8 := rdi_of 8 (by decide) (by simp [decDigits])
  have r2 : rdi [50] = some 2 := rdi_of 2 (by decide) (by simp [decDigits])
  have r3 : rdi [49, 54] = some 16 := rdi_of 16 (by decide) (by simp [decDigits])
  have p0 : pol [108, 105, 114, 115] = 1 := by decide
  have ho : okw [[108, 105, 114, 115], [56], [50], [49, 54]] = true := by simp [okw, ok4, r1, r2, r3, p0]
  have hd : dr [[108, 105, 114, 115], [56], [50], [49, 54]] = [1, 8, 2, 16] := by simp [dr, dw, r1, r2, r3, p0, nd]
  have hm : MbL [1, 8, 2, 16] := by show Mb 1 8 2 16; decide
  rw [e', e, pd, pe, ho, hd, if_pos rfl, if_pos hm, if_pos rfl, if_pos hm] at h
  exact h
theorem parse2 (V : World) (hV : Env V) : Calls Tryd.prog 14 #[.string ⟨#[108, 114, 117, 32, 49, 32, 49, 32, 48]⟩] V fun e w' => e = .returned (.tuple #[.agg #[.int .i64 0, .int .i64 0, .int .i64 0, .int .i64 0], .int .i64 2]) ∧ Below V.heap.size V w' := by
  have h := parse_at ⟨#[108, 114, 117, 32, 49, 32, 49, 32, 48]⟩ (by decide) V hV
  have e : wds [108, 114, 117, 32, 49, 32, 49, 32, 48] = [[108, 114, 117], [49], [49], [48]] := by decide
  have e' : (⟨#[108, 114, 117, 32, 49, 32, 49, 32, 48]⟩ : ByteArray).data.toList = [108, 114, 117, 32, 49, 32, 49, 32, 48] := rfl
  have r1 : rdi [49] = some 1 := rdi_of 1 (by decide) (by simp [decDigits])
  have r3 : rdi [48] = some 0 := rdi_of 0 (by decide) (by simp [decDigits])
  have p0 : pol [108, 114, 117] = 3 := by decide
  have ho : okw [[108, 114, 117], [49], [49], [48]] = true := by simp [okw, ok4, r1, r3, p0]
  have hd : dr [[108, 114, 117], [49], [49], [48]] = [3, 1, 1, 0] := by simp [dr, dw, r1, r3, p0, nd]
  have hm : ¬ MbL [3, 1, 1, 0] := by show ¬ Mb 3 1 1 0; decide
  rw [e', e, pd, pe, ho, hd, if_pos rfl, if_neg hm, if_pos rfl, if_neg hm] at h
  exact h
theorem parse3 (V : World) (hV : Env V) : Calls Tryd.prog 14 #[.string ⟨#[108, 114, 117, 32, 50, 32, 49]⟩] V fun e w' => e = .returned (.tuple #[.agg #[.int .i64 0, .int .i64 0, .int .i64 0, .int .i64 0], .int .i64 7]) ∧ Below V.heap.size V w' := by
  have h := parse_at ⟨#[108, 114, 117, 32, 50, 32, 49]⟩ (by decide) V hV
  have e : wds [108, 114, 117, 32, 50, 32, 49] = [[108, 114, 117], [50], [49]] := by decide
  have e' : (⟨#[108, 114, 117, 32, 50, 32, 49]⟩ : ByteArray).data.toList = [108, 114, 117, 32, 50, 32, 49] := rfl
  have ho : okw [[108, 114, 117], [50], [49]] = false := rfl
  rw [e', e, pd, pe, ho, if_neg (by decide), if_neg (by decide)] at h
  exact h
theorem room1 (V : World) : Calls Tryd.prog 11 #[.agg #[.int .i64 1, .int .i64 8, .int .i64 2, .int .i64 16]] V fun e w' => e = .returned (.int .i64 6) ∧ Below V.heap.size V w' := by
  have h := room_at 1 8 2 16 V
  rw [rm, if_pos (by decide)] at h
  exact h
set_option maxHeartbeats 1000000 in
set_option maxRecDepth 100000 in
theorem alive_at (w : World) (he : Env w) : Calls Tryd.prog 6 #[] w fun e w' => e = .returned (.bool true) ∧ Below w.heap.size w w' := by
  have C1 := Lib.hid parse1
  have C2 := Lib.hid parse2
  have C3 := Lib.hid parse3
  have CR := Lib.hid room1
  have HE := Lib.hid he
  clear he
  go_enter Tryd.func6, Tryd.ntmps6
  go_wp2_with fail
  refine (C1.out _ HE.out).mono ?_
  rintro e w2 ⟨rfl, hb2⟩
  have hb3 := alloc_below w2 (.cells (ca [1, 8, 2, 16]) 24)
  have hR3 := row_alloc w2 [1, 8, 2, 16]
  have q3 := hb2.trans (hb3.mono hb2.size)
  obtain ⟨w3, hw3⟩ : ∃ w3, w3 = w2.alloc (.cells (ca [1, 8, 2, 16]) 24) := ⟨_, rfl⟩
  obtain ⟨b1, hb1⟩ : ∃ b1, b1 = w2.heap.size := ⟨_, rfl⟩
  rw [← hw3] at hR3 q3
  rw [← hb1] at hR3
  have H3 := Lib.hid (And.intro hR3 q3)
  have HW3 := Lib.hid (And.intro hw3 hb1)
  clear hb3 hR3 q3 hw3 hb1 hb2
  go_wp2_with (first | fail | (refine st24n rfl (.tmp 1) (.tmp 9) rfl [1, 8, 2, 16] rfl rfl rfl _ rfl ?_; rw [← HW3.out.1, ← HW3.out.2]))
  refine (C2.out _ (HE.out.kept H3.out.2)).mono ?_
  rintro e w4 ⟨rfl, hb4⟩
  have hR4 := H3.out.1.kept hb4 H3.out.1.lt
  have q4 := H3.out.2.trans (hb4.mono H3.out.2.size)
  have hb5 := alloc_below w4 (.cells (ca zs) 24)
  have hR5 := hR4.kept hb5 hR4.lt
  have q5 := q4.trans (hb5.mono q4.size)
  obtain ⟨w5, hw5⟩ : ∃ w5, w5 = w4.alloc (.cells (ca zs) 24) := ⟨_, rfl⟩
  rw [← hw5] at hR5 q5
  have H5 := Lib.hid (And.intro hR5 q5)
  have HW5 := Lib.hid hw5
  clear hb4 hR4 q4 hb5 hR5 q5 hw5 H3 HW3
  go_wp2_with (first | fail | (refine st24n rfl (.tmp 3) (.tmp 13) rfl zs rfl rfl rfl _ rfl ?_; rw [← HW5.out]))
  refine (C3.out _ (HE.out.kept H5.out.2)).mono ?_
  rintro e w6 ⟨rfl, hb6⟩
  have hR6 := H5.out.1.kept hb6 H5.out.1.lt
  have q6 := H5.out.2.trans (hb6.mono H5.out.2.size)
  have hb7 := alloc_below w6 (.cells (ca zs) 24)
  have hR7 := hR6.kept hb7 hR6.lt
  have q7 := q6.trans (hb7.mono q6.size)
  obtain ⟨w7, hw7⟩ : ∃ w7, w7 = w6.alloc (.cells (ca zs) 24) := ⟨_, rfl⟩
  rw [← hw7] at hR7 q7
  have HQ := Lib.hid q7
  have HW7 := Lib.hid hw7
  obtain ⟨d0, d1, d2, d3⟩ := hR7.at4
  clear hb6 hR6 q6 hb7 hR7 q7 hw7 H5 HW5
  go_wp2_with (first | fail | (refine st24n rfl (.tmp 5) (.tmp 17) rfl zs rfl rfl rfl _ rfl ?_; rw [← HW7.out]))
  refine (CR.out _).mono ?_
  rintro e w8 ⟨rfl, hb8⟩
  go_wp2
  go_ret
  exact ⟨rfl, HQ.out.trans (hb8.mono HQ.out.size)⟩
end Go.Proofs.YtdchmpbmaeoeoaaDoor
