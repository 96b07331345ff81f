/-
  The oldest thing goes: Pop.
-/
import Derived.Test.YtcphbendmnmpiaaReads
import Derived.BigRegion
namespace Go.Proofs.Ytcphbendmnmpiaa
open Go.ChangeShapes Go.WideShapes Go.ChangeAt Go.RowKit
set_option linter.unusedVariables false
set_option maxRecDepth 100000

section
variable {w : World} {lo b : Nat} {og : Option Nat} {g : Nat} {Q : Qu} {l : List Value}
def PopPost (w : World) (lo b g : Nat) (Q : Qu) (v : Value) (t : List Value) (e : Ending) (w' : World) : Prop :=
  e = .returned (.tuple #[v, .bool true]) ∧ ∃ Q', QAt 54 2 w' lo b (some g) Q' ∧ Has Q' t ∧ Q'.most = Q.most ∧ Q'.tot = Q.tot ∧ Q'.R.length = Q.R.length ∧ Stp b (some g) (some g) w w'
set_option maxHeartbeats 1000000 in
theorem pop_some {v : Value} {t : List Value} (x : QAt 54 2 w lo b (some g) Q) (hh : Has Q (v :: t)) : Calls Try.prog 10 #[.pointer (some ⟨b, 0, none⟩)] w (PopPost w lo b g Q v t) := by
  have HA := Lib.hid (at_yes x hh (i := 0) (v := v) rfl)
  have HX := Lib.hid x
  have HH := Lib.hid hh
  obtain ⟨hf, hv⟩ := hh.head rfl
  have hr6 := hh.room
  have hm6 := hh.m2
  have HP := Lib.hid (hh.pop (z := .int .i64 0) rfl)
  have hcnt := hh.cnt
  have HFt := Lib.hid hh.fits
  simp only [List.length_cons] at hcnt
  have HL6 : Hid (Q.R.length ≤ 65536) := Lib.hid (by omega)
  obtain ⟨n, hn⟩ : ∃ n, Hid (Q.R.length = n) := ⟨_, Lib.hid rfl⟩
  obtain ⟨f, hq⟩ : ∃ f, Hid (Q.first = f) := ⟨_, Lib.hid rfl⟩
  rw [hn.out, hq.out] at hf
  clear x hh hr6 hm6
  go_enter Try.func10, Try.ntmps10
  go_wp2_with (go_at_call 12; refine HA.out.mono ?_; rintro e w' ⟨rfl, q, rfl⟩)
  have HX1 := Lib.hid (HX.out.kept (grown_drewN w q none))
  have HG1 := Lib.hid (grown_drewN w q none)
  generalize w.drewN q = w1 at *
  have c1 := HX1.out.c1
  have c2 := HX1.out.c2
  unfold ringV at c1
  rw [hn.out] at c1
  rw [hq.out] at c2
  have hc := HX1.out.rc f
  rw [← hq.out, hv, hq.out] at hc
  have hfr := HX1.out.rfree f
  have hA := HX1.out.kept (World.grownBy_alloc w1 (.cells #[.int .i64 0] 2) none)
  have a1 := hA.c1
  have a2 := hA.c2
  unfold ringV at a1
  rw [hn.out] at a1
  rw [hq.out] at a2
  have ac := hA.rc f
  rw [← hq.out, hv, hq.out] at ac
  have afr := hA.rfree f
  have HA2 := Lib.hid hA
  have HGA := Lib.hid (grown_trans HG1.out (World.grownBy_alloc w1 (.cells #[.int .i64 0] 2) none))
  clear hA
  go_region
  obtain ⟨x2, s2⟩ := HA2.out.setR f (.int .i64 0)
  have HX2 := Lib.hid (x2.kept (grown_drewN _ 1 none))
  have HS2 := Lib.hid (((Stp.of_new (b := b) (h := some g) HGA.out).trans s2).trans (Stp.of_new (grown_drewN _ 1 none)))
  have e1 : (((w1.alloc (.cells #[.int .i64 0] 2)).setCell ⟨g, f, none⟩ (.int .i64 0)).drewN 1) = ((w1.alloc (.cells #[.int .i64 0] 2)).setCell ⟨g, f, none⟩ (.int .i64 0)).drew := rfl
  rw [e1] at HX2 HS2
  clear x2 s2 e1 a1 a2 ac afr c1 c2 hc hfr HA2 HGA
  generalize ((w1.alloc (.cells #[.int .i64 0] 2)).setCell ⟨g, f, none⟩ (.int .i64 0)).drew = w2 at *
  have HC := Lib.hid (spot_at HX2.out (by rw [List.length_set]; exact HL6.out) (by dsimp only; rw [List.length_set, hn.out, hq.out]; exact hf) 1 (by decide))
  dsimp only at HC
  rw [List.length_set] at HC
  obtain ⟨f', hf'⟩ : ∃ f', Hid ((Q.first + 1) % Q.R.length = f') := ⟨_, Lib.hid rfl⟩
  obtain ⟨c, hc⟩ : ∃ c, Hid (Q.cnt = c) := ⟨_, Lib.hid rfl⟩
  have hc1 : 1 ≤ c := by rw [← hc.out]; omega
  have hc6 : c ≤ 65536 := by have := HFt.out; have := HL6.out; rw [← hc.out]; omega
  rw [hf'.out] at HC
  clear hcnt
  go_wp2_with (go_at_call 21; refine HC.out.mono ?_; rintro e w' ⟨rfl, q2, rfl⟩; obtain ⟨x3, s3⟩ := (HX2.out.kept (grown_drewN w2 q2 none)).setF f'; have HX3 := Lib.hid x3; have HS3 := Lib.hid ((HS2.out.trans (Stp.of_new (grown_drewN w2 q2 none))).trans s3); have d2 := (HX2.out.kept (grown_drewN w2 q2 none)).c2; have d3 := HX3.out.c3; dsimp only at d2 d3; rw [hc.out] at d3; have df := (HX2.out.kept (grown_drewN w2 q2 none)).free 2; have df3 := HX3.out.free 3; clear x3 s3)
  have hw : (c : Int) - 1 = ((c - 1 : Nat) : Int) := by omega
  rw [hw]
  clear hw d2 df d3 df3
  obtain ⟨x4, s4⟩ := HX3.out.setC (c - 1)
  have HF : Hid (PopPost w lo b g Q v t (.returned (.tuple #[v, .bool true])) (((w2.drewN q2).setCell ⟨b, 2, none⟩ (.int .i64 (f' : Int))).setCell ⟨b, 3, none⟩ (.int .i64 ((c - 1 : Nat) : Int)))) := Lib.hid ⟨rfl, _, x4, by
    have := HP.out
    rw [hq.out] at this
    rw [← hq.out, hf'.out, hc.out, hq.out] at this
    exact this, rfl, rfl, by dsimp only; rw [List.length_set], HS3.out.trans s4⟩
  go_ret2
  exact HF.out
theorem pop_none (x : QAt 54 2 w lo b og Q) (hh : Has Q []) : Calls Try.prog 10 #[.pointer (some ⟨b, 0, none⟩)] w fun e w' => e = .returned (.tuple #[.int .i64 0, .bool false]) ∧ w.grownBy w' none := by
  have HA := Lib.hid (at_no x hh (i := 0) (.inr (by simp)))
  clear x hh
  go_enter Try.func10, Try.ntmps10
  go_wp2_with (go_at_call 12; refine HA.out.mono ?_; rintro e w' ⟨rfl, hg⟩; have HG := Lib.hid hg; clear hg)
  go_ret2
  exact ⟨rfl, HG.out⟩
theorem pop_nil (w : World) : Calls Try.prog 10 #[.pointer none] w fun e w' => e = .returned (.tuple #[.int .i64 0, .bool false]) ∧ w.grownBy w' none := by
  go_enter Try.func10, Try.ntmps10
  go_wp2_with (go_at_call 12; refine (at_nil 0 _).mono ?_; rintro e w' ⟨rfl, hg⟩; have HG := Lib.hid hg; clear hg)
  go_ret2
  exact ⟨rfl, HG.out⟩
end
end Go.Proofs.Ytcphbendmnmpiaa
