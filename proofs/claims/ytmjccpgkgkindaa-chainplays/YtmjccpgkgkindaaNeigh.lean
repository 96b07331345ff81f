/-
  The law's looks at a node and at a list: they are the document's.
-/
import Derived.Test.YtmjccpgkgkindaaRefIns
namespace Go.Proofs.Ytmjccpgkgkindaa
open Go.ChangeShapes Go.WideShapes Go.ChangeAt Go.RowKit
set_option linter.unusedVariables false
set_option maxRecDepth 100000

section
variable {w : World} {C : Ch} {lo b gL gN rb rcap : Nat} {rows : Nat → Value}
theorem boxw {w w' : World} {x y : Value} (hg : (w.alloc (.cells #[x, y] 31)).grownBy w' none) : w.grownBy w' none := grown_trans (World.grownBy_alloc _ _ none) hg
set_option maxHeartbeats 4000000 in
theorem neigh_at (hc : IsCh w lo b gL gN C) (hr : RefAt w C rb rcap rows) (n : Int) (hn : i32in n) :
    Calls Try.prog 12 #[.pointer (some ⟨b, 0, none⟩), refV C rb rcap, .int .i32 n] w fun e w' => e = .returned (.bool true) ∧ w.grownBy w' none := by
  have hM := hc.m8
  have hf := hc.few
  have hP : Calls Try.prog 34 #[refV C rb rcap, .int .i32 n] (w.alloc (.cells #[.int .i64 (C.N : Int), .slice (some ⟨rb, 0, none⟩) C.ls.length rcap] 31)) (PlPost _ C n) := place_at (hr.kept (World.grownBy_alloc _ _ none)) hM hf n
  have hg0 := World.grownBy_alloc w (.cells #[.int .i64 (C.N : Int), .slice (some ⟨rb, 0, none⟩) C.ls.length rcap] 31) none
  have b0 := heap_alloc_new w (.cells #[.int .i64 (C.N : Int), .slice (some ⟨rb, 0, none⟩) C.ls.length rcap] 31)
  unfold refV at hP ⊢
  have HP := Lib.hid hP
  have HC := Lib.hid hc
  have HR := Lib.hid hr
  have HG0 := Lib.hid hg0
  have HB0 := Lib.hid b0
  clear hP hc hr hg0 b0 hM hf
  obtain ⟨M, HM⟩ : ∃ M, Hid (C.ls.length = M) := ⟨_, Lib.hid rfl⟩
  rw [HM.out] at HP HG0 HB0 ⊢
  obtain ⟨c00, c01, _, _, l0⟩ := cells2 HB0.out
  go_enter Try.func12, Try.ntmps12
  go_wp2_with fail
  generalize w.alloc (.cells #[.int .i64 (C.N : Int), .slice (some ⟨rb, 0, none⟩) M rcap] 31) = w0 at *
  refine HP.out.mono ?_
  rintro e w1 ⟨hg1, (⟨rfl, hno⟩ | ⟨j, k, x, rfl, hnx, hjx⟩)⟩
  · have HG1 := Lib.hid (grown_trans HG0.out hg1)
    have HC1 := Lib.hid (HC.out.kept HG1.out)
    have Hno := Lib.hid hno
    clear c00 c01 l0 hg1 hno
    go_wp2_with fail
    refine (list_er HC1.out hn Hno.out).mono ?_
    rintro e w' ⟨rfl, rfl⟩
    go_wp2_with fail
    refine (prev_er HC1.out hn Hno.out).mono ?_
    unfold tupO
    rintro e w' ⟨rfl, rfl⟩
    go_wp2_with fail
    refine (next_er HC1.out hn Hno.out).mono ?_
    unfold tupO
    rintro e w' ⟨rfl, rfl⟩
    go_wp2
    go_ret
    exact ⟨rfl, HG1.out⟩
  · subst hnx
    have HG1 := Lib.hid (grown_trans HG0.out hg1)
    have HC1 := Lib.hid (HC.out.kept HG1.out)
    have hb1 := kept2 HB0.out hg1
    clear c00 c01 l0
    obtain ⟨c00, c01, _, _, l0⟩ := cells2 hb1
    have hjC : j < C.ls.length := Ch.lt_of_mem (List.mem_of_getElem? hjx)
    have hkL : k < (C.of j).length := (List.getElem?_eq_some_iff.1 hjx).1
    have hL6 := HC.out.few j
    obtain ⟨L, HL⟩ : ∃ L, Hid ((C.of j).length = L) := ⟨_, Lib.hid rfl⟩
    have hrow := (HR.out.row j hjC).kept HG1.out
    obtain ⟨AL, cL, hrw, hlc, _, _, hdis⟩ := hrow
    have hne : ¬ C.of j = [] := by intro e; rw [e] at hkL; simp at hkL
    obtain ⟨bL, oL, rfl, _, hcx⟩ := hdis.resolve_left hne
    have hcl := HG1.out.cell (HR.out.cell j hjC) (by simp)
    rw [hrw, HL.out] at hcl
    rw [HL.out] at hkL hL6
    have hjM : j < M := by rw [← HM.out]; exact hjC
    have hd0 : decide ((j : Int) < 0) = false := by simp
    have cl := Lib.hid (list_is HC1.out (List.mem_of_getElem? hjx))
    have cp := prev_is HC1.out hjx
    have cn := next_is HC1.out hjx
    have Hcx := Lib.hid hcx
    clear hg1 hb1 hdis hne hrw hcx hlc
    have hjj : ((j : Int) != (j : Int)) = false := by simp
    have hwr : wrap64 ((k : Int) + 1) = (k : Int) + 1 := by unfold wrap64; omega
    by_cases hk0 : k = 0
    · subst hk0
      rw [if_pos rfl] at cp
      have Hcp := Lib.hid cp
      clear cp
      by_cases hkn : 0 + 1 < L
      · obtain ⟨y, hy⟩ : ∃ y, (C.of j)[0 + 1]? = some y := ⟨_, List.getElem?_eq_getElem (by rw [HL.out]; exact hkn)⟩
        rw [hy] at cn
        have Hcn := Lib.hid cn
        have hcy := Hcx.out _ _ hy
        have hd2 : decide ((1 : Int) < (L : Int)) = true := by simp; omega
        have hd3 : decide (1 < L) = true := by simp; omega
        have h1L : 1 < L := by omega
        clear cn hy
        simp only [Nat.zero_add] at hcy
        go_wp2_with fail
        refine cl.out.mono ?_
        rintro e w' ⟨rfl, rfl⟩
        go_wp2_with fail
        refine Hcp.out.mono ?_
        unfold tupO
        rintro e w' ⟨rfl, rfl⟩
        go_wp2_with fail
        refine Hcn.out.mono ?_
        unfold tupO
        rintro e w' ⟨rfl, rfl⟩
        go_wp2
        go_ret
        exact ⟨rfl, HG1.out⟩
      · have hy : (C.of j)[0 + 1]? = none := List.getElem?_eq_none (by rw [HL.out]; omega)
        rw [hy] at cn
        have Hcn := Lib.hid cn
        have hd2 : decide ((1 : Int) < (L : Int)) = false := by simp; omega
        have hd3 : decide (1 < L) = false := by simp; omega
        clear cn hy
        go_wp2_with fail
        refine cl.out.mono ?_
        rintro e w' ⟨rfl, rfl⟩
        go_wp2_with fail
        refine Hcp.out.mono ?_
        unfold tupO
        rintro e w' ⟨rfl, rfl⟩
        go_wp2_with fail
        refine Hcn.out.mono ?_
        unfold tupO
        rintro e w' ⟨rfl, rfl⟩
        go_wp2
        go_ret
        exact ⟨rfl, HG1.out⟩
    · rw [if_neg hk0] at cp
      obtain ⟨k1, hk1⟩ : ∃ k1 : Nat, k = k1 + 1 := ⟨k - 1, by omega⟩
      obtain ⟨z, hz⟩ : ∃ z, (C.of j)[k - 1]? = some z := ⟨_, List.getElem?_eq_getElem (by rw [HL.out]; omega)⟩
      rw [hz] at cp
      rw [show k - 1 = k1 by omega] at hz
      have Hcp := Lib.hid cp
      have hcz := Hcx.out _ _ hz
      have hsub : (k : Int) - 1 = (k1 : Int) := by omega
      have hk1L : k1 < L := by omega
      have hd1 : decide ((0 : Int) < (k : Int)) = true := by simp; omega
      have hd1' : decide (0 < k) = true := by simp; omega
      have Hk1 := Lib.hid hk1
      clear cp hz hk1
      by_cases hkn : k + 1 < L
      · obtain ⟨y, hy⟩ : ∃ y, (C.of j)[k + 1]? = some y := ⟨_, List.getElem?_eq_getElem (by rw [HL.out]; exact hkn)⟩
        rw [hy] at cn
        have Hcn := Lib.hid cn
        have hcy := Hcx.out _ _ hy
        have hd2 : decide ((k : Int) + 1 < (L : Int)) = true := by simp; omega
        have hd3 : decide (k + 1 < L) = true := by simp; omega
        clear cn hy
        go_wp2_with fail
        refine cl.out.mono ?_
        rintro e w' ⟨rfl, rfl⟩
        go_wp2_with fail
        refine Hcp.out.mono ?_
        unfold tupO
        rintro e w' ⟨rfl, rfl⟩
        go_wp2_with fail
        refine Hcn.out.mono ?_
        unfold tupO
        rintro e w' ⟨rfl, rfl⟩
        go_wp2
        go_ret
        exact ⟨rfl, HG1.out⟩
      · have hy : (C.of j)[k + 1]? = none := List.getElem?_eq_none (by rw [HL.out]; omega)
        rw [hy] at cn
        have Hcn := Lib.hid cn
        have hd2 : decide ((k : Int) + 1 < (L : Int)) = false := by simp; omega
        have hd3 : decide (k + 1 < L) = false := by simp; omega
        clear cn hy
        go_wp2_with fail
        refine cl.out.mono ?_
        rintro e w' ⟨rfl, rfl⟩
        go_wp2_with fail
        refine Hcp.out.mono ?_
        unfold tupO
        rintro e w' ⟨rfl, rfl⟩
        go_wp2_with fail
        refine Hcn.out.mono ?_
        unfold tupO
        rintro e w' ⟨rfl, rfl⟩
        go_wp2
        go_ret
        exact ⟨rfl, HG1.out⟩
end
end Go.Proofs.Ytmjccpgkgkindaa
