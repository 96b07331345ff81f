/-
  cmp.Compare, the search for a place among gaps.
-/
import Derived.Test.YthpcjgfbngemiaaCells
import Derived.Deep.LoopGhost
namespace Go.Proofs.Ythpcjgfbngemiaa
open Go.ChangeShapes Go.WideShapes Go.ChangeAt Go.RowKit
set_option linter.unusedVariables false
set_option maxRecDepth 100000
def cmpI (x y : Int) : Int := if x < y then -1 else if y < x then 1 else 0
theorem isNaN_at (x : Int) (w : World) : Calls Try.prog 52 #[.int .i64 x] w fun e w' => e = .returned (.bool false) ∧ w = w' := by
  go_enter Try.func52, Try.ntmps52
  go_wp2
  go_ret
  exact ⟨rfl, rfl⟩
set_option maxHeartbeats 400000 in
theorem compare_at (x y : Int) (w : World) : Calls Try.prog 36 #[.int .i64 x, .int .i64 y] w fun e w' => e = .returned (.int .i64 (cmpI x y)) ∧ w = w' := by
  have h1 := fun x w => isNaN_at x w
  by_cases hxy : x < y
  · go_enter Try.func36, Try.ntmps36
    go_wp2_with (go_at_call 52; refine (h1 _ _).mono ?_; rintro e w' ⟨rfl, rfl⟩)
    go_ret
    simp [cmpI, hxy]
  · by_cases hyx : y < x
    · go_enter Try.func36, Try.ntmps36
      go_wp2_with (go_at_call 52; refine (h1 _ _).mono ?_; rintro e w' ⟨rfl, rfl⟩)
      go_ret
      simp [cmpI, hxy, hyx]
    · go_enter Try.func36, Try.ntmps36
      go_wp2_with (go_at_call 52; refine (h1 _ _).mono ?_; rintro e w' ⟨rfl, rfl⟩)
      go_ret
      unfold cmpI
      rw [if_neg (by omega), if_neg (by omega)]
      exact ⟨rfl, rfl⟩
theorem gapcmp_at (a n x : Int) (w : World) : Calls Try.prog 35 #[.agg #[.int .i64 a, .int .i64 n], .int .i64 x] w fun e w' => e = .returned (.int .i64 (cmpI a x)) ∧ w.grownBy w' none := by
  have hc := fun w => compare_at a x w
  go_enter Try.func35, Try.ntmps35
  go_wp2_with (go_at_call 36; refine (hc _).mono ?_; rintro e w' ⟨rfl, rfl⟩)
  go_ret
  exact ⟨rfl, World.grownBy_alloc w _ none⟩
/-- where a place stands among gaps -/
structure SP (l : List (Int × Int)) (x : Int) (i : Nat) : Prop where
  le : i ≤ l.length
  lo : ∀ k p, k < i → l[k]? = some p → p.1 < x
  hi : ∀ k p, i ≤ k → l[k]? = some p → ¬ p.1 < x
def SearchPost (w : World) (l : List (Int × Int)) (x : Int) (e : Ending) (w' : World) : Prop := ∃ i bb, e = .returned (.tuple #[.int .i64 ((i : Nat) : Int), .bool bb]) ∧ SP l x i ∧ w.grownBy w' none
section
variable {w : World} {lo c : Nat} {l : List (Int × Int)} {A : Option Addr}
set_option maxHeartbeats 400000 in
theorem search_at (h : GRow w lo (.slice A l.length c) l) (hr : l.Pairwise fun a b => a.1 < b.1) (x : Int) (hn : l.length ≤ 1000000) :
    Calls Try.prog 34 #[.slice A l.length c, .int .i64 x, .func (.func 35) #[] #[]] w (SearchPost w l x) := by
  obtain ⟨n, HN⟩ : ∃ n, Hid (l.length = n) := ⟨_, Lib.hid rfl⟩
  have HG := Lib.hid h
  have HR := Lib.hid hr
  rw [HN.out] at hn HG ⊢
  clear h hr
  go_enter Try.func34, Try.ntmps34
  go_wp2_with fail
  go_loopg [9, 10] n (fun m u v wr => ∃ (i j : Nat), u = .int .i64 (i : Int) ∧ v = .int .i64 (j : Int) ∧ i ≤ j ∧ j ≤ n ∧ Hid (m = j - i) ∧ Hid (w.grownBy wr none ∧ (∀ k p, k < i → l[k]? = some p → p.1 < x) ∧ (∀ k p, j ≤ k → l[k]? = some p → ¬ p.1 < x)))
  case atStart => exact ⟨0, n, by go_num, by go_num, by omega, by omega, Lib.hid (by omega), Lib.hid ⟨⟨rfl, rfl, rfl, Nat.le_refl _, fun _ _ _ => rfl⟩, by omega, fun k p hk hp => by have := (List.getElem?_eq_some_iff.1 hp).1; rw [HN.out] at this; omega⟩⟩
  case round =>
    obtain ⟨i, j, rfl, rfl, hij, hjn, HM, HI⟩ := hrel
    by_cases hlt : i < j
    · have hltI : (i : Int) < (j : Int) := by omega
      obtain ⟨h, HH⟩ : ∃ h : Nat, Hid (i ≤ h ∧ h < j ∧ ((i : Int) + (j : Int)) / 2 = (h : Int)) := ⟨(i + j) / 2, Lib.hid ⟨by omega, by omega, by omega⟩⟩
      have hh := HH.out.2.2
      have hjlt := HH.out.2.1
      obtain ⟨g, cap', e⟩ := owns_some HG.out (by rw [HN.out]; omega)
      injection e with e1 e2 e3
      subst e1
      clear e2 e3
      obtain ⟨p, hp⟩ : ∃ p, l[h]? = some p := ⟨_, List.getElem?_eq_getElem (by rw [HN.out]; omega)⟩
      have HGr := HG
      rw [← HN.out] at HGr
      obtain ⟨c0, c1⟩ := GRow.cells (HGr.out.kept HI.out.1 (.inr (by simp [Value.ownBlock]))) hp
      have hix := ix54 g h n c (by omega)
      have hld := ld76 c0 c1
      have HP := Lib.hid hp
      obtain ⟨pa, pn⟩ := p
      dsimp only at c0 c1 hld
      clear hp HGr
      by_cases hc : pa < x
      · have e1 : cmpI pa x = -1 := if_pos hc
        have hcall := gapcmp_at pa pn x wr
        rw [e1] at hcall
        have HC := Lib.hid hcall
        have HS : Hid (∀ k p, k < h + 1 → l[k]? = some p → p.1 < x) := Lib.hid fun k p hk hp => by
          by_cases hkh : k = h
          · subst hkh; rw [HP.out] at hp; injection hp with hp; subst hp; exact hc
          · obtain ⟨hk1, e⟩ := List.getElem?_eq_some_iff.1 hp
            obtain ⟨hh1, e2⟩ := List.getElem?_eq_some_iff.1 HP.out
            have := List.pairwise_iff_getElem.1 HR.out k h hk1 hh1 (by omega)
            rw [e, e2] at this
            exact Int.lt_trans this hc
        clear hcall e1 hc
        go_wp2_with (go_at_call 35; refine HC.out.mono ?_; rintro e w' ⟨rfl, hg'⟩; have HG' := Lib.hid hg'; clear hg')
        go_roundg (j - (h + 1))
        case measure => have := HM.out; have := HH.out.1; omega
        case rel => exact ⟨h + 1, j, by go_num, rfl, by omega, hjn, Lib.hid rfl, Lib.hid ⟨grown_trans HI.out.1 HG'.out, HS.out, HI.out.2.2⟩⟩
      · obtain ⟨q, hq0, hq⟩ : ∃ q, ¬ q < 0 ∧ cmpI pa x = q := ⟨_, by unfold cmpI; rw [if_neg hc]; split <;> omega, rfl⟩
        have hqd : decide (q < 0) = false := by simpa using hq0
        have hcall := gapcmp_at pa pn x wr
        rw [hq] at hcall
        have HC := Lib.hid hcall
        have HS : Hid (∀ k p, h ≤ k → l[k]? = some p → ¬ p.1 < x) := Lib.hid fun k p hk hp => by
          by_cases hkh : k = h
          · subst hkh; rw [HP.out] at hp; injection hp with hp; subst hp; exact hc
          · obtain ⟨hk1, e⟩ := List.getElem?_eq_some_iff.1 hp
            obtain ⟨hh1, e2⟩ := List.getElem?_eq_some_iff.1 HP.out
            have := List.pairwise_iff_getElem.1 HR.out h k hh1 hk1 (by omega)
            rw [e, e2] at this
            intro h3
            exact hc (Int.lt_trans this h3)
        clear hcall hq hc hq0
        go_wp2_with (go_at_call 35; refine HC.out.mono ?_; rintro e w' ⟨rfl, hg'⟩; have HG' := Lib.hid hg'; clear hg')
        go_roundg (h - i)
        case measure => have := HM.out; omega
        case rel => exact ⟨i, h, rfl, by go_num, HH.out.1, by omega, Lib.hid rfl, Lib.hid ⟨grown_trans HI.out.1 HG'.out, HI.out.2.1, HS.out⟩⟩
    · obtain rfl : i = j := by omega
      have hltI : ¬ ((i : Int) < (i : Int)) := by omega
      have HSP : Hid (SP l x i) := Lib.hid ⟨by rw [HN.out]; exact hjn, HI.out.2.1, HI.out.2.2⟩
      by_cases hin : i < n
      · have hinI : (i : Int) < (n : Int) := by omega
        obtain ⟨g, cap', e⟩ := owns_some HG.out (by rw [HN.out]; omega)
        injection e with e1 e2 e3
        subst e1
        clear e2 e3
        obtain ⟨p, hp⟩ : ∃ p, l[i]? = some p := ⟨_, List.getElem?_eq_getElem (by rw [HN.out]; omega)⟩
        have HGr := HG
        rw [← HN.out] at HGr
        obtain ⟨c0, c1⟩ := GRow.cells (HGr.out.kept HI.out.1 (.inr (by simp [Value.ownBlock]))) hp
        have hix := ix54 g i n c (by omega)
        have hld := ld76 c0 c1
        obtain ⟨pa, pn⟩ := p
        dsimp only at c0 c1 hld
        clear hp HGr
        have HC := Lib.hid (gapcmp_at pa pn x wr)
        generalize cmpI pa x = q at HC
        go_wp2_with (go_at_call 35; refine HC.out.mono ?_; rintro e w' ⟨rfl, hg'⟩; have HG' := Lib.hid hg'; clear hg')
        go_ret2
        exact ⟨i, _, rfl, HSP.out, grown_trans HI.out.1 HG'.out⟩
      · have hinI : ¬ ((i : Int) < (n : Int)) := by omega
        go_wp2
        go_ret2
        exact ⟨i, _, rfl, HSP.out, HI.out.1⟩
end
end Go.Proofs.Ythpcjgfbngemiaa
