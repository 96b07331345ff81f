/-
  The library's sort: Less, and the sort by insertion.
-/
import Derived.Test.YtnhjnciadmgkeaaDoorSMem
import Derived.Test.YtnhjnciadmgkeaaDoorLay
import Derived.BigRegion
namespace Go.Proofs.YtnhjnciadmgkeaaDoor
open Go.ChangeShapes Go.WideShapes Go.ChangeAt Go.RowKit
set_option linter.unusedVariables false

theorem nan_any (x : Int) (w : World) : Calls Tryd.prog 52 #[.int .u64 x] w fun e w' => e = .returned (.bool false) ∧ w = w' := by
  have hb : (x != x) = false := by simp
  go_enter Tryd.func52, Tryd.ntmps52
  go_wp2
  go_ret
  exact ⟨rfl, rfl⟩
theorem less_any (x y : Int) (w : World) : Calls Tryd.prog 40 #[.int .u64 x, .int .u64 y] w fun e w' => e = .returned (.bool (decide (x < y))) ∧ w = w' := by
  go_enter Tryd.func40, Tryd.ntmps40
  go_wp2_with (go_at_call 52; refine (nan_any _ _).mono ?_; rintro e w' ⟨rfl, rfl⟩)
  go_ret
  exact ⟨rfl, rfl⟩
theorem quiet_same {P : Program} {f : FuncId} {args : Array Value} {w : World} {n : Nat} {v : Value} (h : Calls P f args (w.drewN n) fun e w' => e = .returned v ∧ w.drewN n = w') :
    Calls P f args (w.drewN n) fun e w'' => e = .returned v ∧ ∃ m, w'' = w.drewN m := h.mono fun e w' ⟨h1, h2⟩ => ⟨h1, n, h2.symm⟩
theorem ix34 (g p n c : Nat) (hp : p < n) (w : World) : (Instr.indexAt 34 (Value.slice (some { block := g, off := 0 }) n c) (Value.int .i64 p)).run Tryd.prog w = .ok (.pointer (some ⟨g, p, none⟩)) w := by
  simp [go_sem, hp]

/-- sorted but for the place j, which is to go down -/
structure Hole (a i j : Nat) (d : Nat → Int) : Prop where
  rest : ∀ p q, a ≤ p → p < q → q ≤ i → p ≠ j → q ≠ j → d p ≤ d q
  top : ∀ q, j < q → q ≤ i → d j ≤ d q
theorem Hole.start {a i : Nat} {d : Nat → Int} (h : Srt a i d) : Hole a i i d := ⟨fun p q h1 h2 h3 h4 h5 => h p q h1 (by omega) (by omega), fun q h1 h2 => by omega⟩
theorem Hole.step {a i j : Nat} {d : Nat → Int} (h : Hole a i (j + 1) d) (haj : a ≤ j) (hji : j + 1 ≤ i) (hl : d (j + 1) < d j) : Hole a i j (sw d (j + 1) j) := by
  have e1 : sw d (j + 1) j j = d (j + 1) := by simp [sw]
  have e2 : sw d (j + 1) j (j + 1) = d j := by simp [sw]
  have e3 : ∀ k, k ≠ j → k ≠ j + 1 → sw d (j + 1) j k = d k := fun k h1 h2 => by simp [sw, h1, h2]
  refine ⟨fun p q h1 h2 h3 h4 h5 => ?_, fun q h1 h2 => ?_⟩
  · by_cases hp : p = j + 1
    · subst hp
      rw [e2, e3 q (by omega) (by omega)]
      exact h.rest j q haj (by omega) h3 (by omega) (by omega)
    · by_cases hq : q = j + 1
      · subst hq
        rw [e2, e3 p h4 hp]
        exact h.rest p j h1 (by omega) (by omega) hp (by omega)
      · rw [e3 p h4 hp, e3 q h5 hq]
        exact h.rest p q h1 h2 h3 hp hq
  · rw [e1]
    by_cases hq : q = j + 1
    · subst hq; rw [e2]; omega
    · rw [e3 q (by omega) hq]; exact h.top q (by omega) h2
theorem Hole.done {a i j : Nat} {d : Nat → Int} (h : Hole a i j d) (haj : a ≤ j) (hji : j ≤ i) (he : j = a ∨ d (j - 1) ≤ d j) : Srt a (i + 1) d := by
  intro p q h1 h2 h3
  by_cases hpq : p = q
  · subst hpq; exact Int.le_refl _
  · by_cases hp : p = j
    · subst hp; exact h.top q (by omega) (by omega)
    · by_cases hq : q = j
      · subst hq
        rcases he with he | he
        · omega
        · refine Int.le_trans ?_ he
          by_cases hpj : p = q - 1
          · subst hpj; exact Int.le_refl _
          · exact h.rest p (q - 1) h1 (by omega) (by omega) hp (by omega)
      · exact h.rest p q h1 (by omega) (by omega) hp hq
section
variable {w : World} {g n cap : Nat} {d : Nat → Int}
/-- what a part of the sort comes to -/
structure SP (w : World) (g n a b : Nat) (d : Nat → Int) (w' : World) (d' : Nat → Int) : Prop where
  at_ : DAt w' g n d'
  pr : PR a b d d'
  sw : SW g w w'
theorem SP.drewN {a b : Nat} {w' : World} {d' : Nat → Int} (h : SP w g n a b d w' d') (q : Nat) : SP w g n a b d (w'.drewN q) d' := ⟨h.at_.kept (grown_drewN _ q none), h.pr, h.sw.trans (SW.drewN _ _ q)⟩
theorem SP.swap {a b i j : Nat} {w' : World} {d' : Nat → Int} (h : SP w g n a b d w' d') (h1 : a ≤ i) (h2 : i < b) (h3 : a ≤ j) (h4 : j < b) :
    SP w g n a b d ((w'.setCell ⟨g, i, none⟩ (.int .u64 (d' j))).setCell ⟨g, j, none⟩ (.int .u64 (d' i))) (YtnhjnciadmgkeaaDoor.sw d' i j) :=
  ⟨h.at_.swap i j, h.pr.step h1 h2 h3 h4, h.sw.trans (SW.swap _ _ _ _ _ _)⟩
set_option maxHeartbeats 1000000 in
theorem ins_at (h : DAt w g n d) (a b : Nat) (hab : a ≤ b) (hbn : b ≤ n) (hn : n ≤ 1000000) :
    Calls Tryd.prog 34 #[.slice (some ⟨g, 0, none⟩) n cap, .int .i64 (a : Int), .int .i64 (b : Int)] w fun r w' => r = .returned (.tuple #[]) ∧ ∃ d', SP w g n a b d w' d' ∧ Srt a b d' := by
  have HP : Hid (SP w g n a b d w d) := Lib.hid ⟨h, .refl, But.refl _ _⟩
  clear h
  go_enter Tryd.func34, Tryd.ntmps34
  go_wp2_with fail
  go_loopg [6] (b + 1 - (a + 1)) (fun m v wr => ∃ (i : Nat) (d' : Nat → Int), v = .int .i64 (i : Int) ∧ a < i ∧ (i ≤ b ∨ i = a + 1) ∧ m = b + 1 - i ∧ Hid (SP w g n a b d wr d' ∧ Srt a i d'))
  case atStart => exact ⟨a + 1, d, by go_num, by omega, by omega, rfl, Lib.hid ⟨HP.out, fun p q h1 h2 h3 => by rw [show p = q by omega]; exact Int.le_refl _⟩⟩
  case round =>
    obtain ⟨i, d1, rfl, hai, hib, hm, HL⟩ := hrel
    clear HP
    by_cases hlt : i < b
    · go_wp2_with fail
      obtain ⟨wo, hwo⟩ : ∃ wo : World, wo = wr := ⟨_, rfl⟩
      rw [← hwo] at HL ⊢
      clear hwo wr
      go_loopg [7] i (fun m v wr => ∃ (j : Nat) (d2 : Nat → Int), v = .int .i64 (j : Int) ∧ a ≤ j ∧ j ≤ i ∧ m = j ∧ Hid (SP w g n a b d wr d2 ∧ Hole a i j d2))
      case atStart => exact ⟨i, d1, by go_num, by omega, by omega, rfl, Lib.hid ⟨HL.out.1, Hole.start HL.out.2⟩⟩
      case round =>
        obtain ⟨j, d2, rfl, haj, hji, hmj, HI⟩ := hrel
        clear HL
        by_cases hja : a < j
        · obtain ⟨j1, hj1⟩ : ∃ j1, j = j1 + 1 := ⟨j - 1, by omega⟩
          have ix1 := ix34 g j n cap (by omega)
          have ix2 := ix34 g j1 n cap (by omega)
          have c1 := HI.out.1.at_.cell (i := j) (by omega)
          have c2 := HI.out.1.at_.cell (i := j1) (by omega)
          have ew : IntKind.i64.wrap ((j : Int) - 1) = (j1 : Int) := by rw [IntKind.wrap_i64]; omega
          have ew2 : (j : Int) - 1 = (j1 : Int) := by omega
          have ew3 : IntKind.i64.wrap (j1 : Int) = (j1 : Int) := by rw [IntKind.wrap_i64]; omega
          have HJ := Lib.hid hj1
          clear hj1
          by_cases hl : d2 j < d2 j1
          · have hlb : decide (d2 j < d2 j1) = true := by simpa using hl
            go_wp2_with fail
            go_quiet ((go_at_call 40; exact quiet_same (less_any _ _ _)))
            have HI1 : Hid (SP w g n a b d (wr.drewN nq) d2 ∧ Hole a i j d2) := Lib.hid ⟨HI.out.1.drewN nq, HI.out.2⟩
            clear HI c1 c2
            generalize wr.drewN nq = w1 at *
            have c1 := HI1.out.1.at_.cell (i := j) (by omega)
            have c2 := HI1.out.1.at_.cell (i := j1) (by have := HJ.out; omega)
            have f1 := HI1.out.1.at_.free j
            have f2 := HI1.out.1.at_.free j1
            have hne : ¬ (j1 = j) := by have := HJ.out; omega
            have hne2 : ¬ (j = j1) := by have := HJ.out; omega
            go_wp2_with fail
            go_region
            go_wp2_with fail
            go_roundg j1
            case measure => have := HJ.out; omega
            case rel =>
              have hJ := HJ.out
              refine ⟨j1, sw d2 j j1, by first | rfl | go_num, by omega, by omega, rfl, Lib.hid ⟨(HI1.out.1.swap (by omega) (by omega) (by omega) (by omega)).drewN 1, ?_⟩⟩
              have hh := HI1.out.2
              rw [hJ] at hh hl ⊢
              exact hh.step (by omega) (by omega) hl
          · have hlb : decide (d2 j < d2 j1) = false := by simpa using hl
            go_wp2_with fail
            go_quiet ((go_at_call 40; exact quiet_same (less_any _ _ _)))
            have HI1 : Hid (SP w g n a b d (wr.drewN nq) d2 ∧ Hole a i j d2) := Lib.hid ⟨HI.out.1.drewN nq, HI.out.2⟩
            clear HI c1 c2
            generalize wr.drewN nq = w1 at *
            go_wp2_with fail
            go_roundg (b - i)
            case measure => omega
            case rel =>
              have hJ := HJ.out
              refine ⟨i + 1, d2, by first | rfl | go_num, by omega, by omega, by omega, Lib.hid ⟨HI1.out.1, HI1.out.2.done haj hji (.inr ?_)⟩⟩
              rw [show j - 1 = j1 by omega]; omega
        · obtain rfl : j = a := by omega
          go_wp2_with fail
          go_quiet (fail)
          have HI1 : Hid (SP w g n j b d (wr.drewN nq) d2 ∧ Hole j i j d2) := Lib.hid ⟨HI.out.1.drewN nq, HI.out.2⟩
          clear HI
          generalize wr.drewN nq = w1 at *
          go_wp2_with fail
          go_roundg (b - i)
          case measure => omega
          case rel => exact ⟨i + 1, d2, by first | rfl | go_num, by omega, by omega, by omega, Lib.hid ⟨HI1.out.1, HI1.out.2.done haj hji (.inl rfl)⟩⟩
    · go_wp2_with fail
      go_end0
      refine ⟨rfl, d1, HL.out.1, fun p q h1 h2 h3 => HL.out.2 p q h1 h2 (by omega)⟩
end
end Go.Proofs.YtnhjnciadmgkeaaDoor
