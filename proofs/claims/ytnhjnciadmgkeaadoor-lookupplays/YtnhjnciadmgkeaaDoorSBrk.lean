/-
  The library's sort: some numbers are put elsewhere.
-/
import Derived.Test.YtnhjnciadmgkeaaDoorSBits
namespace Go.Proofs.YtnhjnciadmgkeaaDoor
open Go.ChangeShapes Go.WideShapes Go.ChangeAt Go.RowKit
set_option linter.unusedVariables false
theorem and_pow (y : Int) (hy : Wd y) (k : Nat) (hk : k ≤ 16) : ∃ o : Nat, bits .and .u64 y (((2 ^ k : Nat) : Int) - 1) = (o : Int) ∧ o < 2 ^ k := by
  obtain ⟨x, rfl⟩ := Int.eq_ofNat_of_zero_le hy.1
  have hp := Nat.two_pow_pos k
  have hp2 : 2 ^ k ≤ 2 ^ 16 := Nat.pow_le_pow_right (by decide) hk
  have h2 := hy.2
  have e : ((2 ^ k : Nat) : Int) - 1 = ((2 ^ k - 1 : Nat) : Int) := by omega
  refine ⟨x &&& (2 ^ k - 1), ?_, ?_⟩
  · rw [e]; exact u64_and_nat x (2 ^ k - 1) (by omega) (by omega)
  · exact Nat.lt_of_le_of_lt Nat.and_le_right (by omega)
theorem u64_pred (P : Nat) (h0 : 1 ≤ P) (h1 : P ≤ 131072) : IntKind.u64.wrap ((P : Int) - 1) = (P : Int) - 1 := by rw [IntKind.wrap_u64]; omega
theorem w64_nat (o : Nat) (h : o < 1000000) : wrap64 (o : Int) = (o : Int) := by unfold wrap64; omega
theorem i64_nat (o : Nat) (h : o < 1000000) : IntKind.i64.wrap (o : Int) = (o : Int) := by rw [IntKind.wrap_i64]; omega
section
variable {w : World} {g n cap : Nat} {d : Nat → Int}
theorem SP.rnd {a b s : Nat} {w1 w2 : World} {d' : Nat → Int} (h : SP w g n a b d w1 d') (hs : s = w.heap.size) (hb : But (fun k => k = s) w1 w2) (hg : g < w.heap.size) : SP w g n a b d w2 d' :=
  ⟨h.at_.stay (hb.block g h.at_.lt (by show ¬ g = s; omega)), h.pr, ⟨hb.os.trans h.sw.os, hb.tape.trans h.sw.tape, hb.output.trans h.sw.output, Nat.le_trans h.sw.size hb.size, fun k hk hx => (hb.block k (Nat.lt_of_lt_of_le hk h.sw.size) (by show ¬ k = s; omega)).trans (h.sw.block k hk hx)⟩⟩
theorem RndAt.swap {w1 : World} {s i j : Nat} {y : Int} {u v : Value} (h : RndAt w1 s y) (hg : g ≠ s) : RndAt (((w1.setCell ⟨g, i, none⟩ u).setCell ⟨g, j, none⟩ v).drewN 1) s y :=
  ⟨by
    have e : (((w1.setCell ⟨g, i, none⟩ u).setCell ⟨g, j, none⟩ v).drewN 1).heap[s]? = w1.heap[s]? := by
      show ((w1.setCell ⟨g, i, none⟩ u).setCell ⟨g, j, none⟩ v).heap[s]? = _
      rw [heap_setCell_other _ _ _ _ (fun e => hg e.symm), heap_setCell_other _ _ _ _ (fun e => hg e.symm)]
    exact e.trans h.1, h.2⟩
set_option maxHeartbeats 2000000 in
theorem brk_at (hd : DAt w g n d) (a b : Nat) (hab : a + 12 < b) (hbn : b ≤ n) (hn : n < 65536) :
    Calls Tryd.prog 36 #[.slice (some ⟨g, 0, none⟩) n cap, .int .i64 (a : Int), .int .i64 (b : Int)] w fun r w' => r = .returned (.tuple #[]) ∧ ∃ d', SP w g n a b d w' d' := by
  obtain ⟨l, hl⟩ : ∃ l, b = a + l := ⟨b - a, by omega⟩
  obtain ⟨q, hq⟩ : ∃ q, q = l / 4 * 2 := ⟨_, rfl⟩
  obtain ⟨i0, hi0⟩ : ∃ i0, a + q = i0 + 1 := ⟨a + q - 1, by omega⟩
  have hglt := hd.lt
  have e1 : (b : Int) - (a : Int) = (l : Int) := by omega
  have e2 : (l : Int) / 4 * 2 = (q : Int) := by omega
  have e3 : (a : Int) + (q : Int) - 1 = (i0 : Int) := by omega
  have hpw := bitLen_pow l (by omega) (by omega)
  have hkb := bitLen_lt l (by omega)
  have HPOW := Lib.hid (fun w' => pow_at l w' (by omega))
  obtain ⟨k, hk⟩ : ∃ k, k = Lib.bitLen l := ⟨_, rfl⟩
  rw [← hk] at hpw hkb HPOW
  obtain ⟨P, hP⟩ : ∃ P, P = 2 ^ k := ⟨_, rfl⟩
  rw [← hP] at hpw HPOW
  have HAND : Hid (∀ y, Wd y → ∃ o : Nat, bits .and .u64 y ((P : Int) - 1) = (o : Int) ∧ o < 2 * l) := Lib.hid fun y hy => by
    obtain ⟨o, h1, h2⟩ := and_pow y hy k hkb
    rw [← hP] at h1 h2
    exact ⟨o, h1, by omega⟩
  have hPb : 1 ≤ P ∧ P ≤ 131072 := by omega
  obtain ⟨P0, P1⟩ := hPb
  have hl12 : 12 < l := by omega
  have hln : a + l ≤ n := by omega
  have hl8 : decide (8 ≤ (b : Int) - (a : Int)) = true := by simp; omega
  have el : IntKind.u64.wrap ((b : Int) - (a : Int)) = (b : Int) - (a : Int) := by rw [IntKind.wrap_u64]; omega
  have HS0 : Hid (SP w g n a (a + l) d (w.alloc (.cells #[.int .u64 (l : Int)] 82)) d ∧ RndAt (w.alloc (.cells #[.int .u64 (l : Int)] 82)) w.heap.size (l : Int)) :=
    Lib.hid ⟨⟨hd.kept (World.grownBy_alloc w _ none), .refl, But.of_new (World.grownBy_alloc w _ none)⟩, heap_alloc_new w _, by omega, by omega⟩
  have E1 := Lib.hid (⟨e1, e2, e3⟩ : _ ∧ _ ∧ _)
  have HB := Lib.hid (⟨hl, hi0, hq⟩ : _ ∧ _ ∧ _)
  have bB : b ≤ n := hbn
  have aB : a < b := by omega
  have HPO : Hid (∀ w' : World, Calls Tryd.prog 48 #[.int .i64 ((b : Int) - (a : Int))] w' fun r w'' => r = .returned (.int .u64 (P : Int)) ∧ w' = w'') := Lib.hid (by rw [e1]; exact HPOW.out)
  clear hd e1 e2 e3 hpw hkb hk hP hl hq hi0 hab hbn HPOW
  go_enter Tryd.func36, Tryd.ntmps36
  go_wp2_with fail
  refine (HPO.out _).mono ?_
  rintro r w' ⟨rfl, rfl⟩
  clear el hl8
  rw [E1.out.1]
  generalize w.alloc (.cells #[.int .u64 (l : Int)] 82) = w1 at *
  go_wp2_with fail
  rw [E1.out.2.1]
  rw [E1.out.2.2]
  go_loopg [9, 10] 3 (fun m v _ wr => ∃ (i : Nat) (d' : Nat → Int) (y : Int), v = .int .i64 (i : Int) ∧ i0 ≤ i ∧ m + i = i0 + 3 ∧ Hid (SP w g n a (a + l) d wr d' ∧ RndAt wr w.heap.size y))
  case atStart => exact ⟨i0, d, (l : Int), by first | rfl | go_num, by omega, by omega, HS0⟩
  case round =>
    obtain ⟨i, d1, y, rfl, hi0i, hmi, HL⟩ := hrel
    clear HS0
    by_cases hlt : (i : Int) ≤ (a : Int) + (l : Int) / 4 * 2 + 1
    · have hltb : decide ((i : Int) ≤ (a : Int) + (l : Int) / 4 * 2 + 1) = true := by simpa using hlt
      have H1 := Lib.hid (next_at w.heap.size y wr HL.out.2)
      have hib : a ≤ i ∧ i < a + l := by have := HB.out; omega
      obtain ⟨hai, hil⟩ := hib
      have hi3 : i < i0 + 3 := by have := HB.out; omega
      go_wp2_with fail
      refine H1.out.mono ?_
      rintro r w2 ⟨y2, rfl, hr2, hb2⟩
      obtain ⟨o, HO⟩ : ∃ o : Nat, Hid (bits .and .u64 y2 ((P : Int) - 1) = (o : Int) ∧ o < 2 * l) := by
        obtain ⟨o, h1, h2⟩ := HAND.out y2 hr2.2
        exact ⟨o, Lib.hid ⟨h1, h2⟩⟩
      have ho2 := HO.out.2
      have HL2 : Hid (SP w g n a (a + l) d w2 d1 ∧ RndAt w2 w.heap.size y2) := Lib.hid ⟨HL.out.1.rnd rfl hb2 hglt, hr2⟩
      have y20 := hr2.2.1
      have EPO : Hid (IntKind.u64.wrap ((P : Int) - 1) = (P : Int) - 1 ∧ wrap64 (o : Int) = (o : Int) ∧ IntKind.i64.wrap (o : Int) = (o : Int)) := Lib.hid ⟨u64_pred P P0 P1, w64_nat o (by omega), i64_nat o (by omega)⟩
      clear hr2 hb2 HL H1
      have ixX := ix34 g i n cap (by omega)
      have cX := HL2.out.1.at_.cell (i := i) (by omega)
      have fX := HL2.out.1.at_.free i
      have hgs : g ≠ w.heap.size := by omega
      by_cases hol : (l : Int) ≤ (o : Int)
      · have holb : decide ((l : Int) ≤ (o : Int)) = true := by simpa using hol
        obtain ⟨o2, ho3⟩ : ∃ o2, o = l + o2 := ⟨o - l, by omega⟩
        obtain ⟨Y, hY⟩ : ∃ Y, Y = a + o2 := ⟨_, rfl⟩
        have e5 : (o : Int) - (l : Int) = (o2 : Int) := by omega
        have e6 : (a : Int) + (o2 : Int) = (Y : Int) := by omega
        have e7 : IntKind.i64.wrap (o2 : Int) = (o2 : Int) := by rw [IntKind.wrap_i64]; omega
        have hYb : a ≤ Y ∧ Y < a + l := by omega
        obtain ⟨hYa, hYl⟩ := hYb
        have hon : o2 < 65536 := by omega
        clear ho3 hY
        have ixY := ix34 g Y n cap (by omega)
        have cY := HL2.out.1.at_.cell (i := Y) (by omega)
        have fY := HL2.out.1.at_.free Y
        have HSW : Hid (SP w g n a (a + l) d (((w2.setCell ⟨g, i, none⟩ (.int .u64 (d1 Y))).setCell ⟨g, Y, none⟩ (.int .u64 (d1 i))).drewN 1) (sw d1 i Y) ∧ RndAt (((w2.setCell ⟨g, i, none⟩ (.int .u64 (d1 Y))).setCell ⟨g, Y, none⟩ (.int .u64 (d1 i))).drewN 1) w.heap.size y2) := Lib.hid ⟨(HL2.out.1.swap (by omega) (by omega) (by omega) (by omega)).drewN 1, HL2.out.2.swap hgs⟩
        have eYw : IntKind.i64.wrap (Y : Int) = (Y : Int) := by rw [IntKind.wrap_i64]; omega
        clear HL2
        by_cases hxy : i = Y
        · subst hxy
          have ho := HO.out.1
          have ep := EPO.out.1
          have eo2 := EPO.out.2.2
          go_wp2_with fail
          clear ho ep eo2
          go_region
          go_wp2_with fail
          go_roundg (gk - 1)
          case measure => omega
          case rel => exact ⟨i + 1, _, y2, by first | rfl | go_num, by omega, by omega, HSW⟩
        · have hyx : ¬ (Y = i) := fun e => hxy e.symm
          have ho := HO.out.1
          have ep := EPO.out.1
          have eo2 := EPO.out.2.2
          go_wp2_with fail
          clear ho ep eo2
          go_region
          go_wp2_with fail
          go_roundg (gk - 1)
          case measure => omega
          case rel => exact ⟨i + 1, _, y2, by first | rfl | go_num, by omega, by omega, HSW⟩
      · have holb : decide ((l : Int) ≤ (o : Int)) = false := by simpa using hol
        obtain ⟨Y, hY⟩ : ∃ Y, Y = a + o := ⟨_, rfl⟩
        have e6 : (a : Int) + (o : Int) = (Y : Int) := by omega
        have hYb : a ≤ Y ∧ Y < a + l := by omega
        obtain ⟨hYa, hYl⟩ := hYb
        clear hY
        have ixY := ix34 g Y n cap (by omega)
        have cY := HL2.out.1.at_.cell (i := Y) (by omega)
        have fY := HL2.out.1.at_.free Y
        have HSW : Hid (SP w g n a (a + l) d (((w2.setCell ⟨g, i, none⟩ (.int .u64 (d1 Y))).setCell ⟨g, Y, none⟩ (.int .u64 (d1 i))).drewN 1) (sw d1 i Y) ∧ RndAt (((w2.setCell ⟨g, i, none⟩ (.int .u64 (d1 Y))).setCell ⟨g, Y, none⟩ (.int .u64 (d1 i))).drewN 1) w.heap.size y2) := Lib.hid ⟨(HL2.out.1.swap (by omega) (by omega) (by omega) (by omega)).drewN 1, HL2.out.2.swap hgs⟩
        have eYw : IntKind.i64.wrap (Y : Int) = (Y : Int) := by rw [IntKind.wrap_i64]; omega
        clear HL2
        by_cases hxy : i = Y
        · subst hxy
          have ho := HO.out.1
          have ep := EPO.out.1
          have eo2 := EPO.out.2.2
          go_wp2_with fail
          clear ho ep eo2
          go_region
          go_wp2_with fail
          go_roundg (gk - 1)
          case measure => omega
          case rel => exact ⟨i + 1, _, y2, by first | rfl | go_num, by omega, by omega, HSW⟩
        · have hyx : ¬ (Y = i) := fun e => hxy e.symm
          have ho := HO.out.1
          have ep := EPO.out.1
          have eo2 := EPO.out.2.2
          go_wp2_with fail
          clear ho ep eo2
          go_region
          go_wp2_with fail
          go_roundg (gk - 1)
          case measure => omega
          case rel => exact ⟨i + 1, _, y2, by first | rfl | go_num, by omega, by omega, HSW⟩
    · have hltb : decide ((i : Int) ≤ (a : Int) + (l : Int) / 4 * 2 + 1) = false := by simpa using hlt
      go_wp2_with fail
      go_end0
      exact ⟨rfl, d1, by rw [HB.out.1]; exact HL.out.1⟩
end
end Go.Proofs.YtnhjnciadmgkeaaDoor
