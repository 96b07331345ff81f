/-
  A line's words; the document's examples.
-/
import Derived.Test.YtieeanbmdaaldaaDoorHexV
namespace Go.Proofs.YtieeanbmdaaldaaDoor
open Go.Shelf Go.RowKit Go.Sort
open Go.Lib hiding intOf
set_option linter.unusedVariables false
theorem words_at (s : ByteArray) (hs : s.size ≤ 1000000) (n : Nat) (hn : n = (wds s.data.toList).length) (w : World) (he : Env w) :
    Calls Tryd.prog 20 #[.string s] w fun e w' => e = .returned (.slice (some ⟨w.heap.size, 0, none⟩) n n) ∧ w' = w.alloc (.cells (svals (wds s.data.toList)).toArray 9) := by
  obtain ⟨m, hm⟩ := he.ml
  have c31 : Calls Tryd.prog 31 #[.string s, .string ⟨#[32]⟩] w fun e w' => e = .returned (.slice (some ⟨w.heap.size, 0, none⟩) n n) ∧ w' = w.alloc (.cells (svals (wds s.data.toList)).toArray 9) := by
    have c0 : Calls Tryd.prog 31 #[.string s, .string ⟨#[32]⟩] w _ := Any.strings_Split { lS with } lS.i9 s ⟨#[32]⟩ m w (by omega) hm (by decide)
    refine c0.mono fun e w' ⟨h1, h2⟩ => ?_
    rw [words_cells] at h2
    rw [words_len, ← hn] at h1
    exact ⟨h1, h2⟩
  clear hm hn
  go_enter Tryd.func20, Tryd.ntmps20
  go_wp2_with fail
  refine c31.mono ?_
  rintro e w' ⟨rfl, rfl⟩
  go_wp2
  go_ret
  exact ⟨rfl, rfl⟩
theorem rd_007 : rd [48, 48, 55] = none := by
  unfold rd
  rw [show parseMag [48, 48, 55] = .ok 7 by decide]
  dsimp only
  rw [dec_small 7 (by decide), if_neg (by decide)]
theorem rd_big : rd [49, 56, 52, 52, 54, 55, 52, 52, 48, 55, 51, 55, 48, 57, 53, 53, 49, 54, 49, 54] = none := by
  unfold rd
  rw [show parseMag [49, 56, 52, 52, 54, 55, 52, 52, 48, 55, 51, 55, 48, 57, 53, 53, 49, 54, 49, 54] = .range by decide]
theorem rdi_m7 : rdi [45, 55] = some (-7) := rdi_some.2 ⟨⟨by decide, by decide⟩, by
  have := itoa_neg 7 (by decide)
  rw [dec_small 7 (by decide)] at this
  exact this⟩
theorem rdi_m0 : rdi [45, 48] = none := by
  rw [rdi_minus, show rd [48] = some 0 from rd_some.2 ⟨by decide, by rw [dec_small 0 (by decide)]; rfl⟩]
  rfl
set_option maxHeartbeats 1000000 in
set_option maxRecDepth 100000 in
theorem alive_at (w : World) (he : Env w) : Calls Tryd.prog 13 #[] w fun e w' => e = .returned (.bool true) ∧ Below w.heap.size w w' := by
  have c1 : ∀ W, Env W → Calls Tryd.prog 9 #[.string ⟨#[48, 48, 55]⟩] W fun e w' => e = .returned (.tuple #[.int .u64 0, .bool false]) ∧ Below W.heap.size W w' := fun W hW => by
    have := read_at ⟨#[48, 48, 55]⟩ (by decide) W hW
    rw [show (⟨#[48, 48, 55]⟩ : ByteArray).data.toList = [48, 48, 55] from rfl, rd_007] at this
    exact this
  have c2 : ∀ W, Env W → Calls Tryd.prog 9 #[.string ⟨#[49, 56, 52, 52, 54, 55, 52, 52, 48, 55, 51, 55, 48, 57, 53, 53, 49, 54, 49, 54]⟩] W fun e w' => e = .returned (.tuple #[.int .u64 0, .bool false]) ∧ Below W.heap.size W w' := fun W hW => by
    have := read_at ⟨#[49, 56, 52, 52, 54, 55, 52, 52, 48, 55, 51, 55, 48, 57, 53, 53, 49, 54, 49, 54]⟩ (by decide) W hW
    rw [show (⟨#[49, 56, 52, 52, 54, 55, 52, 52, 48, 55, 51, 55, 48, 57, 53, 53, 49, 54, 49, 54]⟩ : ByteArray).data.toList = [49, 56, 52, 52, 54, 55, 52, 52, 48, 55, 51, 55, 48, 57, 53, 53, 49, 54, 49, 54] from rfl, rd_big] at this
    exact this
  have c3 : ∀ W, Env W → Calls Tryd.prog 10 #[.string ⟨#[45, 55]⟩] W fun e w' => e = .returned (.tuple #[.int .i64 (-7), .bool true]) ∧ Below W.heap.size W w' := fun W hW => by
    have := readInt_at ⟨#[45, 55]⟩ (by decide) W hW
    rw [show (⟨#[45, 55]⟩ : ByteArray).data.toList = [45, 55] from rfl, rdi_m7] at this
    exact this
  have c4 : ∀ W, Env W → Calls Tryd.prog 10 #[.string ⟨#[45, 48]⟩] W fun e w' => e = .returned (.tuple #[.int .i64 0, .bool false]) ∧ Below W.heap.size W w' := fun W hW => by
    have := readInt_at ⟨#[45, 48]⟩ (by decide) W hW
    rw [show (⟨#[45, 48]⟩ : ByteArray).data.toList = [45, 48] from rfl, rdi_m0] at this
    exact this
  have c5 : ∀ W : World, Calls Tryd.prog 16 #[.slice (some ⟨W.heap.size, 0, none⟩) 2 2] (W.alloc (.cells #[.int .u8 10, .int .u8 255] 5)) fun e w' => e = .returned (.string ⟨#[48, 97, 102, 102]⟩) ∧ Below (W.alloc (.cells #[.int .u8 10, .int .u8 255] 5)).heap.size (W.alloc (.cells #[.int .u8 10, .int .u8 255] 5)) w' := fun W => by
    have := hex_at [10, 255] (some ⟨W.heap.size, 0, none⟩) 2 (by decide) (W.alloc (.cells #[.int .u8 10, .int .u8 255] 5)) (.inr ⟨_, 0, rfl, fun j hj => by
      rw [World.cell?_alloc_new]
      rcases (show j = 0 ∨ j = 1 by simp at hj; omega) with rfl | rfl <;> rfl⟩)
    rw [show hstr [10, 255] = ⟨#[48, 97, 102, 102]⟩ by decide] at this
    exact this
  have c6 : ∀ W, Env W → Calls Tryd.prog 20 #[.string ⟨#[]⟩] W fun e w' => e = .returned (.slice (some ⟨W.heap.size, 0, none⟩) 1 1) ∧ Below W.heap.size W w' := fun W hW =>
    (words_at ⟨#[]⟩ (by decide) 1 rfl W hW).mono fun e w' ⟨h1, h2⟩ => ⟨h1, h2 ▸ (Below.refl _ _).alloc (Nat.le_refl _) _⟩
  go_enter Tryd.func13, Tryd.ntmps13
  go_wp2_with fail
  refine (c1 _ he).mono ?_
  rintro e w1 ⟨rfl, hb1⟩
  have he1 := he.kept hb1
  go_wp2_with fail
  refine (c2 _ he1).mono ?_
  rintro e w2 ⟨rfl, hb2⟩
  have he2 := he1.kept hb2
  go_wp2_with fail
  refine (c3 _ he2).mono ?_
  rintro e w3 ⟨rfl, hb3⟩
  have he3 := he2.kept hb3
  go_wp2_with fail
  refine (c4 _ he3).mono ?_
  rintro e w4 ⟨rfl, hb4⟩
  have he4 := he3.kept hb4
  have hb5 := (Below.refl w4.heap.size w4).alloc (Nat.le_refl _) (.cells #[.int .u8 10, .int .u8 255] 5)
  have he5 := he4.kept hb5
  go_wp2_with fail
  refine (c5 _).mono ?_
  rintro e w6 ⟨rfl, hb6⟩
  have he6 := he5.kept hb6
  go_wp2_with fail
  refine (c6 _ he6).mono ?_
  rintro e w7 ⟨rfl, hb7⟩
  go_wp2
  go_ret
  refine ⟨rfl, ?_⟩
  have q1 := hb1.trans (hb2.mono hb1.size)
  have q2 := q1.trans (hb3.mono q1.size)
  have q3 := q2.trans (hb4.mono q2.size)
  have q4 := q3.trans (hb5.mono q3.size)
  have q5 := q4.trans (hb6.mono q4.size)
  exact q5.trans (hb7.mono q5.size)
end Go.Proofs.YtieeanbmdaaldaaDoor
