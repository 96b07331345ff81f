/-
  Step, Set, Insert, Remove, New of a dial: what they turn.
-/
import Derived.Test.YtjligfgaahcogaaLay
import Derived.Deep.OwnRows
namespace Go.Proofs.Ytjligfgaahcogaa
open Go.ChangeShapes Go.WideShapes Go.ChangeAt Go.RowKit
set_option linter.unusedVariables false

theorem region_tail {P : Program} {id : Nat} {Q : Exit → Act → World → Prop} {a : Act} {w : World} {l : List Oper} (n : Nat) (hm : P.follows .mixedOrders = true) (hB : Region.lexTailB .any l.toArray n = true)
    (h : ∀ w2 : World, w2 = w.drewN 1 → wpStill P l.toArray w2 (fun a' => wpList P l.toArray Q (l.drop n) a' w2) (l.take n) a) : (Code.region id l.toArray true).wp P Q a w :=
  wp_region_still_tail n hm hB (h _ rfl)
section
variable {w : World} {lo b N M gL gH : Nat} {lk : Nat → Lk} {hd : Nat → Nat} {cnt : Nat}
theorem step_no (h : Mem w lo b N M gL gH lk hd cnt) (n : Int) (hh : inN M n = false ∨ cnt = 0) :
    Calls Try.prog 14 #[.pointer (some ⟨b, 0, none⟩), .int .i64 n] w fun e w' => e = .returned (.bool false) ∧ w = w' := by
  have H0 := Lib.hid (at_no h n hh)
  go_enter Try.func14, Try.ntmps14
  go_wp2_with (go_at_call 20; refine H0.out.mono ?_; unfold tnone; rintro e w' ⟨rfl, rfl⟩)
  go_ret
  exact ⟨rfl, rfl⟩
set_option maxHeartbeats 1000000 in
theorem step_raw (h : Mem w lo b N M gL gH lk hd cnt) (i x y : Nat) (hi : i < M) (hc : 0 < cnt) (hx : hd i = x) (hxN : x < N) (hy : (lk x).n = y) :
    Calls Try.prog 14 #[.pointer (some ⟨b, 0, none⟩), .int .i64 (i : Int)] w fun e w' => e = .returned (.bool true) ∧ Mem w' lo b N M gL gH lk (put hd i y) cnt ∧ Kp b gL gH w w' := by
  have h0 := at_at h i hi hc
  rw [hx] at h0
  have H0 := Lib.hid h0
  have HM := Lib.hid h
  have HE := Lib.hid hy
  clear h0 h hx hy
  go_enter Try.func14, Try.ntmps14
  go_wp2_with (go_at_call 20; refine H0.out.mono ?_; rintro e w' ⟨rfl, rfl⟩)
  refine region_tail 14 (by kernel_rfl) (by kernel_rfl) ?_
  intro w1 hw1
  have HM1 : Hid (Mem w1 lo b N M gL gH lk hd cnt) := Lib.hid (by rw [hw1]; exact HM.out.kept (grown_drewN w 1 none))
  have HK1 : Hid (Kp b gL gH w w1) := Lib.hid (by rw [hw1]; exact Kp.of_new (grown_drewN w 1 none))
  have h0 := HM1.out.links0
  have h1 := HM1.out.hands1
  have c1 := HM1.out.links.cell (i := x) (t := 1) hxN (by decide)
  simp only [Lk.cells, List.getElem?_cons_succ, List.getElem?_cons_zero, HE.out] at c1
  clear hw1 HM H0
  simp only [List.take_succ_cons, List.take_zero, List.drop_succ_cons, List.drop_zero]
  repeat still_step
  refine wpStill_nil ?_
  clear h0 h1 c1
  refine store_hand HM1.out i y hi rfl _ _ rfl rfl rfl size21 ?_
  intro w2 hm2 hk2
  have HM2 := Lib.hid hm2
  have HK2 := Lib.hid (HK1.out.trans hk2)
  clear hm2 hk2 HM1 HK1
  go_wp2
  go_ret
  exact ⟨rfl, HM2.out, HK2.out⟩

def setC (N M : Nat) (lk : Nat → Lk) (h n : Int) : Int := if (inN M h && inN N n) = false then 1 else if hasB N lk n = false then 5 else 0
def insC (N M : Nat) (lk : Nat → Lk) (n h : Int) : Int := if (inN N n && inN M h) = false then 1 else if hasB N lk n = true then 8 else 0
set_option maxHeartbeats 1000000 in
theorem set_no (h : Mem w lo b N M gL gH lk hd cnt) (k n : Int) (hn : i32in n) (hc : ¬ setC N M lk k n = 0) :
    Calls Try.prog 23 #[.pointer (some ⟨b, 0, none⟩), .int .i64 k, .int .i32 n] w fun e w' => e = .returned (.int .i64 (setC N M lk k n)) ∧ w = w' := by
  have h0 := hasHand_at b M _ k w h.hands1
  have h1 := hasNode_at b N _ n w hn h.links0
  have h2 := has_at h n hn
  unfold setC at hc ⊢
  cases hA : inN M k <;> rw [hA] at h0
  · have H0 := Lib.hid h0
    clear h h0 h1 h2 hc
    simp only [Bool.false_and, if_true]
    go_enter Try.func23, Try.ntmps23
    go_wp2_with fail
    refine H0.out.mono ?_
    rintro e w' ⟨rfl, rfl⟩
    go_wp2
    go_ret
    exact ⟨rfl, rfl⟩
  · cases hB : inN N n <;> rw [hB] at h1
    · have H0 := Lib.hid h0
      have H1 := Lib.hid h1
      clear h h0 h1 h2 hc
      simp only [Bool.true_and, if_true]
      go_enter Try.func23, Try.ntmps23
      go_wp2_with fail
      refine H0.out.mono ?_
      rintro e w' ⟨rfl, rfl⟩
      go_wp2_with fail
      refine H1.out.mono ?_
      rintro e w' ⟨rfl, rfl⟩
      go_wp2
      go_ret
      exact ⟨rfl, rfl⟩
    · have H0 := Lib.hid h0
      have H1 := Lib.hid h1
      cases hS : hasB N lk n <;> rw [hS] at h2 <;> have H2 := Lib.hid h2 <;> clear h0 h1 h2
      · simp only [Bool.and_self, Bool.true_eq_false, if_false, if_true]
        clear h hc
        go_enter Try.func23, Try.ntmps23
        go_wp2_with fail
        refine H0.out.mono ?_
        rintro e w' ⟨rfl, rfl⟩
        go_wp2_with fail
        refine H1.out.mono ?_
        rintro e w' ⟨rfl, rfl⟩
        go_wp2_with fail
        refine H2.out.mono ?_
        rintro e w' ⟨rfl, rfl⟩
        go_wp2
        go_ret
        exact ⟨rfl, rfl⟩
      · rw [hA, hB, hS] at hc
        exact absurd rfl hc
set_option maxHeartbeats 1000000 in
theorem set_raw (h : Mem w lo b N M gL gH lk hd cnt) (i x : Nat) (hi : i < M) (hx : x < N) (hs : (lk x).s = true) :
    Calls Try.prog 23 #[.pointer (some ⟨b, 0, none⟩), .int .i64 (i : Int), .int .i32 (x : Int)] w fun e w' => e = .returned (.int .i64 0) ∧ Mem w' lo b N M gL gH lk (put hd i x) cnt ∧ Kp b gL gH w w' := by
  have n6 := h.n6
  have h0 := hasHand_at b M _ i w h.hands1
  have h1 := hasNode_at b N _ x w (by constructor <;> omega) h.links0
  have h2 := has_at h x (by constructor <;> omega)
  have e : hasB N lk (x : Int) = true := by unfold hasB; rw [inN_nat hx]; simpa using hs
  rw [inN_nat hi] at h0
  rw [inN_nat hx] at h1
  rw [e] at h2
  have H0 := Lib.hid h0
  have H1 := Lib.hid h1
  have H2 := Lib.hid h2
  have c1 := h.hands1
  have HM := Lib.hid h
  clear h h0 h1 h2 e
  go_enter Try.func23, Try.ntmps23
  go_wp2_with fail
  refine H0.out.mono ?_
  rintro e w' ⟨rfl, rfl⟩
  go_wp2_with fail
  refine H1.out.mono ?_
  rintro e w' ⟨rfl, rfl⟩
  go_wp2_with fail
  refine H2.out.mono ?_
  rintro e w' ⟨rfl, rfl⟩
  go_wp2_with (refine store_hand HM.out i x hi rfl _ _ rfl rfl rfl size21 ?_)
  intro w2 hm2 hk2
  have HM2 := Lib.hid hm2
  have HK2 := Lib.hid hk2
  clear hm2 hk2
  go_wp2
  go_ret
  exact ⟨rfl, HM2.out, HK2.out⟩
set_option maxHeartbeats 1000000 in
theorem insert_no (h : Mem w lo b N M gL gH lk hd cnt) (n k : Int) (hn : i32in n) (hc : ¬ insC N M lk n k = 0) :
    Calls Try.prog 13 #[.pointer (some ⟨b, 0, none⟩), .int .i32 n, .int .i64 k] w fun e w' => e = .returned (.int .i64 (insC N M lk n k)) ∧ w = w' := by
  have h0 := hasNode_at b N _ n w hn h.links0
  have h1 := hasHand_at b M _ k w h.hands1
  have h2 := has_at h n hn
  unfold insC at hc ⊢
  cases hA : inN N n <;> rw [hA] at h0
  · have H0 := Lib.hid h0
    clear h h0 h1 h2 hc
    simp only [Bool.false_and, if_true]
    go_enter Try.func13, Try.ntmps13
    go_wp2_with fail
    refine H0.out.mono ?_
    rintro e w' ⟨rfl, rfl⟩
    go_wp2
    go_ret
    exact ⟨rfl, rfl⟩
  · cases hB : inN M k <;> rw [hB] at h1
    · have H0 := Lib.hid h0
      have H1 := Lib.hid h1
      clear h h0 h1 h2 hc
      simp only [Bool.true_and, if_true]
      go_enter Try.func13, Try.ntmps13
      go_wp2_with fail
      refine H0.out.mono ?_
      rintro e w' ⟨rfl, rfl⟩
      go_wp2_with fail
      refine H1.out.mono ?_
      rintro e w' ⟨rfl, rfl⟩
      go_wp2
      go_ret
      exact ⟨rfl, rfl⟩
    · have H0 := Lib.hid h0
      have H1 := Lib.hid h1
      cases hS : hasB N lk n <;> rw [hS] at h2 <;> have H2 := Lib.hid h2 <;> clear h0 h1 h2
      · rw [hA, hB, hS] at hc
        exact absurd rfl hc
      · simp only [Bool.and_self, Bool.true_eq_false, if_false, if_true]
        clear h hc
        go_enter Try.func13, Try.ntmps13
        go_wp2_with fail
        refine H0.out.mono ?_
        rintro e w' ⟨rfl, rfl⟩
        go_wp2_with fail
        refine H1.out.mono ?_
        rintro e w' ⟨rfl, rfl⟩
        go_wp2_with fail
        refine H2.out.mono ?_
        rintro e w' ⟨rfl, rfl⟩
        go_wp2
        go_ret
        exact ⟨rfl, rfl⟩
set_option maxHeartbeats 1000000 in
theorem insert_alone (h : Mem w lo b N M gL gH lk hd 0) (x i : Nat) (hx : x < N) (hi : i < M) (hs : (lk x).s = false) :
    Calls Try.prog 13 #[.pointer (some ⟨b, 0, none⟩), .int .i32 (x : Int), .int .i64 (i : Int)] w fun e w' => e = .returned (.int .i64 0) ∧ Mem w' lo b N M gL gH (put lk x ⟨x, x, true⟩) (allAt hd x M) 1 ∧ Kp b gL gH w w' := by
  have n6 := h.n6
  have h0 := hasNode_at b N _ x w (by constructor <;> omega) h.links0
  have h1 := hasHand_at b M _ i w h.hands1
  have h2 := has_at h x (by constructor <;> omega)
  have e : hasB N lk (x : Int) = false := by unfold hasB; rw [inN_nat hx]; simpa using hs
  rw [inN_nat hx] at h0
  rw [inN_nat hi] at h1
  rw [e] at h2
  have H0 := Lib.hid h0
  have H1 := Lib.hid h1
  have H2 := Lib.hid h2
  have H3 := Lib.hid (alone_raw h x hx)
  have c2 := h.count2
  clear h h0 h1 h2 e
  go_enter Try.func13, Try.ntmps13
  go_wp2_with fail
  refine H0.out.mono ?_
  rintro e w' ⟨rfl, rfl⟩
  go_wp2_with fail
  refine H1.out.mono ?_
  rintro e w' ⟨rfl, rfl⟩
  go_wp2_with fail
  refine H2.out.mono ?_
  rintro e w' ⟨rfl, rfl⟩
  go_wp2_with fail
  refine H3.out.mono ?_
  rintro e w1 ⟨rfl, hm1, hk1⟩
  have HM1 := Lib.hid hm1
  have HK1 := Lib.hid hk1
  have c2 := HM1.out.count2
  clear hm1 hk1 H3
  go_wp2_with (refine store_count HM1.out 1 _ rfl rfl _ _ rfl rfl rfl size3 ?_)
  intro w2 hm2 hk2
  have HM2 := Lib.hid hm2
  have HK2 := Lib.hid (HK1.out.trans hk2)
  clear hm2 hk2 HM1 HK1
  go_wp2
  go_ret
  exact ⟨rfl, HM2.out, HK2.out⟩
set_option maxHeartbeats 1000000 in
theorem insert_raw (h : Mem w lo b N M gL gH lk hd cnt) (x i a pv : Nat) (hx : x < N) (hi : i < M) (hs : (lk x).s = false) (hc : 0 < cnt) (hc9 : cnt ≤ 65536) (ha : hd i = a) (haN : a < N) (hpv : (lk a).p = pv) (hpn : pv < N) :
    Calls Try.prog 13 #[.pointer (some ⟨b, 0, none⟩), .int .i32 (x : Int), .int .i64 (i : Int)] w fun e w' => e = .returned (.int .i64 0) ∧ Mem w' lo b N M gL gH (layLk lk x a pv) hd (cnt + 1) ∧ Kp b gL gH w w' := by
  have n6 := h.n6
  have h0 := hasNode_at b N _ x w (by constructor <;> omega) h.links0
  have h1 := hasHand_at b M _ i w h.hands1
  have h2 := has_at h x (by constructor <;> omega)
  have e : hasB N lk (x : Int) = false := by unfold hasB; rw [inN_nat hx]; simpa using hs
  rw [inN_nat hx] at h0
  rw [inN_nat hi] at h1
  rw [e] at h2
  have H0 := Lib.hid h0
  have H1 := Lib.hid h1
  have H2 := Lib.hid h2
  have H3 := Lib.hid (ahead_raw h x a pv hx haN hpv hpn)
  have c1 := h.hands1
  have c2 := h.count2
  have c3 := h.hands.cell hi
  rw [ha] at c3
  have hne : ((cnt : Int) == 0) = false := by simp; omega
  have hne2 : (cnt == 0) = false := by simp; omega
  have hw : wrap64 ((cnt : Int) + 1) = ((cnt + 1 : Nat) : Int) := by unfold wrap64; omega
  clear h h0 h1 h2 e ha hpv
  go_enter Try.func13, Try.ntmps13
  go_wp2_with fail
  refine H0.out.mono ?_
  rintro e w' ⟨rfl, rfl⟩
  go_wp2_with fail
  refine H1.out.mono ?_
  rintro e w' ⟨rfl, rfl⟩
  go_wp2_with fail
  refine H2.out.mono ?_
  rintro e w' ⟨rfl, rfl⟩
  go_wp2_with fail
  refine H3.out.mono ?_
  rintro e w1 ⟨rfl, hm1, hk1⟩
  have HM1 := Lib.hid hm1
  have HK1 := Lib.hid hk1
  have c2 := HM1.out.count2
  clear hm1 hk1 H3
  go_wp2_with (refine store_count HM1.out (cnt + 1) _ (by first | exact hw | exact (Int.natCast_add _ _).symm) rfl _ _ rfl rfl rfl size3 ?_)
  intro w2 hm2 hk2
  have HM2 := Lib.hid hm2
  have HK2 := Lib.hid (HK1.out.trans hk2)
  clear hm2 hk2 HM1 HK1
  go_wp2
  go_ret
  exact ⟨rfl, HM2.out, HK2.out⟩
end
end Go.Proofs.Ytjligfgaahcogaa
