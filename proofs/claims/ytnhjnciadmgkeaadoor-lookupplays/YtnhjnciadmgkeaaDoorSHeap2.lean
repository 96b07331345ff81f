/-
  The library's sort: the sort by a heap.
-/
import Derived.Test.YtnhjnciadmgkeaaDoorSHeap
namespace Go.Proofs.YtnhjnciadmgkeaaDoor
open Go.ChangeShapes Go.WideShapes Go.ChangeAt Go.RowKit
set_option linter.unusedVariables false

/-- from t on all stand where they are to stand -/
def Tops (d : Nat → Int) (a t hi : Nat) : Prop := ∀ p q, p < q → t ≤ q → q < hi → d (a + p) ≤ d (a + q)
theorem Tops.step {d d3 : Nat → Int} {a i hi : Nat} (h : Tops d a (i + 1) hi) (hp : Hp d a 0 (i + 1)) (hi1 : i < hi) (hr : PR a (a + i) (sw d a (a + i)) d3) : Tops d3 a i hi := by
  have e1 : sw d a (a + i) (a + i) = d a := by simp [sw]
  have hall : ∀ k, a ≤ k → k < a + i → ∃ m, m ≤ i ∧ d3 k = d (a + m) := by
    refine hr.all (P := fun x => ∃ m, m ≤ i ∧ x = d (a + m)) fun k h1 h2 => ?_
    by_cases hk : k = a
    · subst hk
      refine ⟨i, Nat.le_refl _, ?_⟩
      unfold sw
      by_cases h0 : i = 0
      · subst h0; simp
      · rw [if_neg (by omega), if_pos rfl]
    · refine ⟨k - a, by omega, ?_⟩
      rw [show a + (k - a) = k by omega]
      unfold sw
      rw [if_neg (by omega), if_neg hk]
  have hi3 : d3 (a + i) = d a := by rw [hr.out (by omega), e1]
  have hout : ∀ q, i < q → d3 (a + q) = d (a + q) := fun q hq => by
    rw [hr.out (by omega)]
    unfold sw
    rw [if_neg (by omega), if_neg (by omega)]
  intro p q hpq hq hqh
  by_cases hqi : q = i
  · subst hqi
    obtain ⟨m, hm, e⟩ := hall (a + p) (by omega) (by omega)
    rw [e, hi3]
    exact hp.top m (by omega)
  · rw [hout q (by omega)]
    by_cases hpi : p < i
    · obtain ⟨m, hm, e⟩ := hall (a + p) (by omega) (by omega)
      rw [e]
      exact h m q (by omega) (by omega) hqh
    · by_cases hpe : p = i
      · subst hpe
        rw [hi3]
        exact h 0 q (by omega) (by omega) hqh
      · rw [hout p (by omega)]
        exact h p q hpq (by omega) hqh
theorem Hp.swap {d : Nat → Int} {a i : Nat} (h : Hp d a 0 (i + 1)) : Hp (sw d a (a + i)) a 1 i := by
  intro k c h1 h2 h3
  have e : ∀ x, 1 ≤ x → x < i → sw d a (a + i) (a + x) = d (a + x) := fun x h1 h2 => by unfold sw; rw [if_neg (by omega), if_neg (by omega)]
  rw [e k h1 (by omega), e c (by omega) h3]
  exact h k c (Nat.zero_le _) h2 (by omega)
section
variable {w : World} {g n cap : Nat} {d : Nat → Int}
set_option maxHeartbeats 2000000 in
theorem heap_at (h : DAt w g n d) (a b : Nat) (hab : a < b) (hbn : b ≤ n) (hn : n ≤ 1000000) :
    Calls Tryd.prog 35 #[.slice (some ⟨g, 0, none⟩) n cap, .int .i64 (a : Int), .int .i64 (b : Int)] w fun r w' => r = .returned (.tuple #[]) ∧ ∃ d', SP w g n a b d w' d' ∧ Srt a b d' := by
  obtain ⟨hi, hhi⟩ : ∃ hi, b = a + hi := ⟨b - a, by omega⟩
  subst hhi
  have e0 : ((a + hi : Nat) : Int) - (a : Int) = (hi : Int) := by omega
  have HP : Hid (SP w g n a (a + hi) d w d) := Lib.hid ⟨h, .refl, But.refl _ _⟩
  obtain ⟨B, hB⟩ : ∃ B, B = a + hi := ⟨_, rfl⟩
  obtain ⟨h2, hh2⟩ : ∃ h2, h2 = (hi - 1) / 2 := ⟨_, rfl⟩
  have e1 : (B : Int) - (a : Int) = (hi : Int) := by omega
  have e2 : ((hi : Int) - 1) / 2 = (h2 : Int) := by omega
  rw [← hB]
  have HB := Lib.hid (⟨hB, hh2⟩ : B = a + hi ∧ h2 = (hi - 1) / 2)
  have hi0 : 1 ≤ hi := by omega
  have hin : a + hi ≤ n := hbn
  have bB : B ≤ n := by omega
  have aB : a < B := by omega
  have E1 := Lib.hid e1
  have E2 := Lib.hid e2
  clear h e0 hB hh2 hab hbn e1 e2
  go_enter Tryd.func35, Tryd.ntmps35
  go_wp2_with fail
  rw [E1.out]
  rw [E2.out]
  go_loopg [9] (h2 + 1) (fun m v wr => ∃ (ii : Int) (d' : Nat → Int), v = .int .i64 ii ∧ -1 ≤ ii ∧ ii < (hi : Int) ∧ (m : Int) = ii + 1 ∧ Hid (SP w g n a (a + hi) d wr d' ∧ Hp d' a (ii + 1).toNat hi))
  case atStart =>
    have := HB.out
    exact ⟨(h2 : Int), d, by first | rfl | go_num, by omega, by omega, by omega, Lib.hid ⟨HP.out, fun i c h1 h3 h4 => by omega⟩⟩
  case round =>
    obtain ⟨ii, d1, rfl, hii, hih, hm, HL⟩ := hrel
    clear HP
    by_cases hneg : 0 ≤ ii
    · obtain ⟨i, rfl⟩ := Int.eq_ofNat_of_zero_le hneg
      have hs := sift_at (cap := cap) HL.out.1.at_ a i hi (by omega) (by omega) hn (by have := HL.out.2; rw [show ((i : Int) + 1).toNat = i + 1 by omega] at this; exact this)
      have HS := Lib.hid hs
      clear hs
      go_wp2_with fail
      refine HS.out.mono ?_
      rintro r w2 ⟨rfl, d2, hp2, hh⟩
      have HL2 : Hid (SP w g n a (a + hi) d w2 d2 ∧ Hp d2 a i hi) := Lib.hid ⟨⟨hp2.at_, HL.out.1.pr.trans hp2.pr, HL.out.1.sw.trans hp2.sw⟩, hh⟩
      clear hp2 hh HS HL
      go_wp2_with fail
      go_roundg i
      case measure => omega
      case rel =>
        refine ⟨(i : Int) - 1, d2, by first | rfl | go_num, by omega, by omega, by omega, Lib.hid ⟨HL2.out.1, ?_⟩⟩
        rw [show ((i : Int) - 1 + 1).toNat = i by omega]; exact HL2.out.2
    · have HL1 : Hid (SP w g n a (a + hi) d wr d1 ∧ Hp d1 a 0 hi) := Lib.hid ⟨HL.out.1, by have := HL.out.2; rw [show (ii + 1).toNat = 0 by omega] at this; exact this⟩
      clear HL
      obtain ⟨wo, hwo⟩ : ∃ wo : World, wo = wr := ⟨_, rfl⟩
      rw [← hwo] at HL1 ⊢
      clear hwo wr
      go_wp2_with fail
      go_loopg [10] hi (fun m v wr => ∃ (ii : Int) (d' : Nat → Int), v = .int .i64 ii ∧ -1 ≤ ii ∧ ii < (hi : Int) ∧ (m : Int) = ii + 1 ∧ Hid (SP w g n a (a + hi) d wr d' ∧ Hp d' a 0 (ii + 1).toNat ∧ Tops d' a (ii + 1).toNat hi))
      case atStart =>
        refine ⟨(hi : Int) - 1, d1, by first | rfl | go_num, by omega, by omega, by omega, Lib.hid ⟨HL1.out.1, ?_, ?_⟩⟩
        · rw [show ((hi : Int) - 1 + 1).toNat = hi by omega]; exact HL1.out.2
        · rw [show ((hi : Int) - 1 + 1).toNat = hi by omega]; intro p q h1 h2 h3; omega
      case round =>
        obtain ⟨jj, d3, rfl, hjj, hjh, hmj, HL⟩ := hrel
        clear HL1
        by_cases hneg2 : 0 ≤ jj
        · obtain ⟨i, rfl⟩ := Int.eq_ofNat_of_zero_le hneg2
          have HL3 : Hid (SP w g n a (a + hi) d wr d3 ∧ Hp d3 a 0 (i + 1) ∧ Tops d3 a (i + 1) hi) := Lib.hid (by have := HL.out; rw [show ((i : Int) + 1).toNat = i + 1 by omega] at this; exact this)
          clear HL
          obtain ⟨P, hP⟩ : ∃ P, P = a + i := ⟨_, rfl⟩
          have e3 : (a : Int) + (i : Int) = (P : Int) := by omega
          have w3 : IntKind.i64.wrap (P : Int) = (P : Int) := by rw [IntKind.wrap_i64]; omega
          have bP : P < n := by omega
          have ixA := ix34 g a n cap (by omega)
          have ixP := ix34 g P n cap bP
          have cA := HL3.out.1.at_.cell (i := a) (by omega)
          have cP := HL3.out.1.at_.cell (i := P) bP
          have fA := HL3.out.1.at_.free a
          have fP := HL3.out.1.at_.free P
          have HPP := Lib.hid hP
          have HSW : Hid (SP w g n a (a + hi) d (((wr.setCell ⟨g, a, none⟩ (.int .u64 (d3 P))).setCell ⟨g, P, none⟩ (.int .u64 (d3 a))).drewN 1) (sw d3 a P)) := Lib.hid ((HL3.out.1.swap (by omega) (by omega) (by omega) (by omega)).drewN 1)
          have HDN : Hid (∀ w5 d4, SP (((wr.setCell ⟨g, a, none⟩ (.int .u64 (d3 P))).setCell ⟨g, P, none⟩ (.int .u64 (d3 a))).drewN 1) g n a (a + i) (sw d3 a P) w5 d4 → Hp d4 a 0 i → SP w g n a (a + hi) d w5 d4 ∧ Hp d4 a 0 i ∧ Tops d4 a i hi) := by
            refine Lib.hid fun w5 d4 h1 h2 => ⟨⟨h1.at_, HSW.out.pr.trans (h1.pr.wide (Nat.le_refl _) (by omega)), HSW.out.sw.trans h1.sw⟩, h2, HL3.out.2.2.step HL3.out.2.1 (by omega) ?_⟩
            rw [← HPP.out]
            have := h1.pr
            rw [← HPP.out] at this
            exact this
          have hs := sift_at (cap := cap) HSW.out.at_ a 0 i (by omega) (by omega) hn (by rw [hP]; exact HL3.out.2.1.swap)
          have HS := Lib.hid hs
          clear hs hP HL3
          by_cases hi0' : P = a
          · subst hi0'
            go_wp2_with fail
            go_region
            clear cA cP fA fP ixA ixP
            go_wp2_with fail
            refine HS.out.mono ?_
            rintro r w5 ⟨rfl, d4, hp5, hh⟩
            have HL5 := Lib.hid (HDN.out w5 d4 hp5 hh)
            clear hp5 hh HS HSW HDN
            go_wp2_with fail
            go_roundg i
            case measure => omega
            case rel =>
              refine ⟨(i : Int) - 1, d4, by first | rfl | go_num, by omega, by omega, by omega, Lib.hid ?_⟩
              rw [show ((i : Int) - 1 + 1).toNat = i by omega]; exact HL5.out
          · have hne : ¬ (a = P) := fun e => hi0' e.symm
            go_wp2_with fail
            go_region
            clear cA cP fA fP ixA ixP
            go_wp2_with fail
            refine HS.out.mono ?_
            rintro r w5 ⟨rfl, d4, hp5, hh⟩
            have HL5 := Lib.hid (HDN.out w5 d4 hp5 hh)
            clear hp5 hh HS HSW HDN
            go_wp2_with fail
            go_roundg i
            case measure => omega
            case rel =>
              refine ⟨(i : Int) - 1, d4, by first | rfl | go_num, by omega, by omega, by omega, Lib.hid ?_⟩
              rw [show ((i : Int) - 1 + 1).toNat = i by omega]; exact HL5.out
        · go_wp2_with fail
          go_end0
          refine ⟨rfl, d3, ?_, ?_⟩
          · rw [HB.out.1]; exact HL.out.1
          · have ht := HL.out.2.2
            rw [show (jj + 1).toNat = 0 by omega] at ht
            rw [HB.out.1]
            intro p q h1 h2 h3
            by_cases hpq : p = q
            · rw [hpq]; exact Int.le_refl _
            · have := ht (p - a) (q - a) (by omega) (by omega) (by omega)
              rw [show a + (p - a) = p by omega, show a + (q - a) = q by omega] at this
              exact this
end
end Go.Proofs.YtnhjnciadmgkeaaDoor
