/-
  Ahead, Behind, Insert.
-/
import Derived.Test.YtmjccpgkgkindaaRem
namespace Go.Proofs.Ytmjccpgkgkindaa
open Go.ChangeShapes Go.WideShapes Go.ChangeAt Go.RowKit
set_option linter.unusedVariables false

theorem same_flip {P : Program} {f : FuncId} {args : Array Value} {w : World} {v : Value} (h : Calls P f args w fun e w' => e = .returned v ∧ w = w') :
    Calls P f args w fun e w' => e = .returned v ∧ w' = w := h.mono fun _ _ ⟨a, b⟩ => ⟨a, b.symm⟩
def enterC (N M : Nat) (lk : Nat → Lk) (list n : Int) : Int := if (inN M list && inN N n) = false then 1 else if standsB N lk n = true then 8 else 0
def insC (N : Nat) (lk : Nat → Lk) (n a : Int) : Int := if (inN N n && inN N a) = false then 1 else if standsB N lk n = true then 8 else if standsB N lk a = false then 5 else 0

theorem may_nil (list n : Int) (w : World) : Calls Try.prog 36 #[.pointer none, .int .i64 list, .int .i32 n] w fun e w' => e = .returned (.int .i64 9) ∧ w = w' := by
  go_enter Try.func36, Try.ntmps36
  go_wp2
  go_ret
  exact ⟨rfl, rfl⟩
section
variable {w : World} {lo b N M gL gN : Nat} {lk : Nat → Lk} {ln : Nat → Nat}
set_option maxHeartbeats 1000000 in
theorem may_at (h : Mem w lo b N M gL gN lk ln) (list n : Int) (hn : i32in n) :
    Calls Try.prog 36 #[.pointer (some ⟨b, 0, none⟩), .int .i64 list, .int .i32 n] w fun e w' => e = .returned (.int .i64 (enterC N M lk list n)) ∧ w = w' := by
  have h0 := hasList_at b M _ list w h.lens2
  have h1 := hasNode_at b N n w hn h.nodes0
  have h2 := stands_at h n hn
  unfold enterC
  cases hA : inN M list <;> rw [hA] at h0
  · have H0 := Lib.hid h0
    clear h h0 h1 h2
    simp only [Bool.false_and, if_true]
    go_enter Try.func36, Try.ntmps36
    go_wp2_with (go_at_call 41; refine H0.out.mono ?_; rintro e w' ⟨rfl, rfl⟩)
    go_ret
    exact ⟨rfl, rfl⟩
  · cases hB : inN N n <;> rw [hB] at h1
    · have H0 := Lib.hid h0
      have H1 := Lib.hid h1
      clear h h0 h1 h2
      simp only [Bool.true_and, if_true]
      go_enter Try.func36, Try.ntmps36
      go_wp2_with (first | (go_at_call 41; refine H0.out.mono ?_; rintro e w' ⟨rfl, rfl⟩) | (go_at_call 39; refine H1.out.mono ?_; rintro e w' ⟨rfl, rfl⟩))
      go_ret
      exact ⟨rfl, rfl⟩
    · have H0 := Lib.hid h0
      have H1 := Lib.hid h1
      cases hS : standsB N lk n <;> rw [hS] at h2 <;> have H2 := Lib.hid h2 <;> clear h h0 h1 h2
      · simp only [Bool.and_self, Bool.true_eq_false, Bool.false_eq_true, if_false]
        go_enter Try.func36, Try.ntmps36
        go_wp2_with (first | (go_at_call 41; refine H0.out.mono ?_; rintro e w' ⟨rfl, rfl⟩) | (go_at_call 39; refine H1.out.mono ?_; rintro e w' ⟨rfl, rfl⟩) | (go_at_call 38; refine H2.out.mono ?_; rintro e w' ⟨rfl, rfl⟩))
        go_ret
        exact ⟨rfl, rfl⟩
      · simp only [Bool.and_self, Bool.true_eq_false, if_true, if_false]
        go_enter Try.func36, Try.ntmps36
        go_wp2_with (first | (go_at_call 41; refine H0.out.mono ?_; rintro e w' ⟨rfl, rfl⟩) | (go_at_call 39; refine H1.out.mono ?_; rintro e w' ⟨rfl, rfl⟩) | (go_at_call 38; refine H2.out.mono ?_; rintro e w' ⟨rfl, rfl⟩))
        go_ret
        exact ⟨rfl, rfl⟩
end
/-- mayEnter told an error: so do Ahead and Behind -/
theorem ahead_no (p : Option Addr) (list n er : Int) (w : World) (her : ¬ er = 0) (h0 : Calls Try.prog 36 #[.pointer p, .int .i64 list, .int .i32 n] w fun e w' => e = .returned (.int .i64 er) ∧ w = w') :
    Calls Try.prog 19 #[.pointer p, .int .i64 list, .int .i32 n] w fun e w' => e = .returned (.int .i64 er) ∧ w = w' := by
  have hb : (er != 0) = true := by simp [her]
  have H0 := Lib.hid h0
  clear h0
  go_enter Try.func19, Try.ntmps19
  go_wp2_with (go_at_call 36; refine H0.out.mono ?_; rintro e w' ⟨rfl, rfl⟩)
  go_ret
  exact ⟨rfl, rfl⟩
theorem behind_no (p : Option Addr) (list n er : Int) (w : World) (her : ¬ er = 0) (h0 : Calls Try.prog 36 #[.pointer p, .int .i64 list, .int .i32 n] w fun e w' => e = .returned (.int .i64 er) ∧ w = w') :
    Calls Try.prog 14 #[.pointer p, .int .i64 list, .int .i32 n] w fun e w' => e = .returned (.int .i64 er) ∧ w = w' := by
  have hb : (er != 0) = true := by simp [her]
  have H0 := Lib.hid h0
  clear h0
  go_enter Try.func14, Try.ntmps14
  go_wp2_with (go_at_call 36; refine H0.out.mono ?_; rintro e w' ⟨rfl, rfl⟩)
  go_ret
  exact ⟨rfl, rfl⟩
theorem insert_nil (n a : Int) (w : World) : Calls Try.prog 20 #[.pointer none, .int .i32 n, .int .i32 a] w fun e w' => e = .returned (.int .i64 9) ∧ w = w' := by
  go_enter Try.func20, Try.ntmps20
  go_wp2
  go_ret
  exact ⟨rfl, rfl⟩
section
variable {w : World} {lo b N M gL gN : Nat} {lk : Nat → Lk} {ln : Nat → Nat}
def LayPost (w : World) (lo b N M gL gN : Nat) (lk' : Nat → Lk) (ln' : Nat → Nat) (e : Ending) (w' : World) : Prop :=
  e = .returned (.int .i64 0) ∧ Mem w' lo b N M gL gN lk' ln' ∧ Kp gL gN w w'
set_option maxHeartbeats 1000000 in
theorem ahead_yes (h : Mem w lo b N M gL gN lk ln) (i x nx : Nat) (hi : i < M) (hx : x < N) (hc : enterC N M lk i x = 0) (hnx : (lk (N + i)).n = nx) (hnn : nx < N + M) (hli : (lk (N + i)).l = i) (hln : ln i < 9223372036854775807) :
    Calls Try.prog 19 #[.pointer (some ⟨b, 0, none⟩), .int .i64 (i : Int), .int .i32 (x : Int)] w (LayPost w lo b N M gL gN (layLk lk x (N + i) nx i) (put ln i (ln i + 1))) := by
  have h0 := may_at h i x (by have := h.n6; constructor <;> omega)
  rw [hc] at h0
  have h1 := head_at b N i w h.n6 (by have := h.m8; omega) h.nodes0
  have h2 := lay_raw h x (N + i) nx i hx (by omega) hnx hnn hli hi hln
  unfold LayPost
  have H0 := Lib.hid h0
  have H1 := Lib.hid h1
  have H2 := Lib.hid h2
  clear h h0 h1 h2 hc hnx hnn hli hln
  generalize N + i = hd at *
  go_enter Try.func19, Try.ntmps19
  go_wp2_with (first | (go_at_call 36; refine H0.out.mono ?_; rintro e w' ⟨rfl, rfl⟩) | (go_at_call 30; refine H1.out.mono ?_; rintro e w' ⟨rfl, rfl⟩) | (go_at_call 37; refine H2.out.mono ?_; rintro e w' ⟨rfl, hm, hk⟩; have HM := Lib.hid hm; have HK := Lib.hid hk; clear hm hk))
  go_ret
  exact ⟨rfl, HM.out, HK.out⟩
set_option maxHeartbeats 1000000 in
theorem behind_yes (h : Mem w lo b N M gL gN lk ln) (i x pv : Nat) (hi : i < M) (hx : x < N) (hc : enterC N M lk i x = 0) (hpv : (lk (N + i)).p = pv) (hpn : pv < N + M) (hnx : (lk pv).n < N + M) (hli : (lk pv).l = i) (hln : ln i < 9223372036854775807) :
    Calls Try.prog 14 #[.pointer (some ⟨b, 0, none⟩), .int .i64 (i : Int), .int .i32 (x : Int)] w (LayPost w lo b N M gL gN (layLk lk x pv (lk pv).n i) (put ln i (ln i + 1))) := by
  have h0 := may_at h i x (by have := h.n6; constructor <;> omega)
  rw [hc] at h0
  have h1 : ∀ q, Calls Try.prog 30 #[.pointer (some ⟨b, 0, none⟩), .int .i64 (i : Int)] (w.drewN q) fun e w' => e = .returned (.int .i32 ((N + i : Nat) : Int)) ∧ w.drewN q = w' := fun q => head_at b N i _ h.n6 (by have := h.m8; omega) h.nodes0
  have h2 := fun q => lay_raw (h.kept (grown_drewN w q none)) x pv (lk pv).n i hx hpn rfl hnx hli hi hln
  have hl1 := h.links1
  have c0 := h.links.cell (i := N + i) (t := 0) (by omega) (by decide)
  simp only [Lk.cells, List.getElem?_cons_zero, Nat.add_zero, hpv] at c0
  obtain ⟨L, HL⟩ : ∃ L, Hid (N + M = L) := ⟨_, Lib.hid rfl⟩
  rw [HL.out] at hl1
  have hhL : N + i < L := by rw [← HL.out]; omega
  unfold LayPost
  have H0 := Lib.hid h0
  have H1 := Lib.hid h1
  have H2 := Lib.hid h2
  clear h h0 h1 h2 hc hnx hli hln hpv hpn
  generalize N + i = hd at *
  go_enter Try.func14, Try.ntmps14
  go_wp2_with (go_at_call 36; refine H0.out.mono ?_; rintro e w' ⟨rfl, rfl⟩)
  refine region_tail 12 (by kernel_rfl) (by kernel_rfl) ?_
  intro w1 hw1
  have hl1 : w1.cell? ⟨b, 1, none⟩ = some (.slice (some ⟨gL, 0, none⟩) L L) := by rw [hw1]; exact hl1
  have c0 : w1.cell? ⟨gL, hd * 4, none⟩ = some (.int .i32 (pv : Int)) := by rw [hw1]; exact c0
  have H1' : Hid (Calls Try.prog 30 #[.pointer (some ⟨b, 0, none⟩), .int .i64 (i : Int)] w1 fun e w' => e = .returned (.int .i32 (hd : Int)) ∧ w1 = w') := Lib.hid (by rw [hw1]; exact H1.out 1)
  have H2' := Lib.hid (H2.out 1)
  rw [← hw1] at H2'
  have HK : Hid (Kp gL gN w w1) := Lib.hid (by rw [hw1]; exact Kp.of_new (grown_drewN w 1 none))
  clear hw1 H1 H2
  simp only [List.take_succ_cons, List.take_zero, List.drop_succ_cons, List.drop_zero]
  repeat (first | still_step | still_call (same_flip H1'.out))
  refine wpStill_nil ?_
  go_wp2_with (go_at_call 37; refine H2'.out.mono ?_; rintro e w' ⟨rfl, hm, hk⟩; have HM := Lib.hid hm; have HK2 := Lib.hid (HK.out.trans hk); clear hm hk)
  go_ret
  exact ⟨rfl, HM.out, HK2.out⟩
set_option maxHeartbeats 1000000 in
theorem insert_no (h : Mem w lo b N M gL gN lk ln) (n a : Int) (hn : i32in n) (ha : i32in a) (hc : ¬ insC N lk n a = 0) :
    Calls Try.prog 20 #[.pointer (some ⟨b, 0, none⟩), .int .i32 n, .int .i32 a] w fun e w' => e = .returned (.int .i64 (insC N lk n a)) ∧ w = w' := by
  have h0 := hasNode_at b N n w hn h.nodes0
  have h1 := hasNode_at b N a w ha h.nodes0
  have h2 := stands_at h n hn
  have h3 := stands_at h a ha
  unfold insC at hc ⊢
  cases hA : inN N n <;> rw [hA] at h0
  · have H0 := Lib.hid h0
    clear h h0 h1 h2 h3 hc
    simp only [Bool.false_and, if_true]
    go_enter Try.func20, Try.ntmps20
    go_wp2_with (go_at_call 39; refine H0.out.mono ?_; rintro e w' ⟨rfl, rfl⟩)
    go_ret
    exact ⟨rfl, rfl⟩
  · cases hB : inN N a <;> rw [hB] at h1
    · have H0 := Lib.hid h0
      have H1 := Lib.hid h1
      clear h h0 h1 h2 h3 hc
      simp only [Bool.true_and, if_true]
      go_enter Try.func20, Try.ntmps20
      go_wp2_with fail
      refine H0.out.mono ?_
      rintro e w' ⟨rfl, rfl⟩
      go_wp2_with fail
      refine H1.out.mono ?_
      rintro e w' ⟨rfl, rfl⟩
      go_wp2
      go_ret
      exact ⟨rfl, rfl⟩
    · have H0 := Lib.hid h0
      have H1 := Lib.hid h1
      cases hS : standsB N lk n <;> rw [hS] at h2 <;> have H2 := Lib.hid h2 <;> clear h0 h1 h2
      · cases hT : standsB N lk a <;> rw [hT] at h3 <;> have H3 := Lib.hid h3 <;> clear h3
        · simp only [Bool.and_self, Bool.true_eq_false, Bool.false_eq_true, if_false, if_true]
          clear hc h
          go_enter Try.func20, Try.ntmps20
          go_wp2_with fail
          refine H0.out.mono ?_
          rintro e w' ⟨rfl, rfl⟩
          go_wp2_with fail
          refine H1.out.mono ?_
          rintro e w' ⟨rfl, rfl⟩
          go_wp2_with fail
          refine H2.out.mono ?_
          rintro e w' ⟨rfl, rfl⟩
          go_wp2_with fail
          refine H3.out.mono ?_
          rintro e w' ⟨rfl, rfl⟩
          go_wp2
          go_ret
          exact ⟨rfl, rfl⟩
        · rw [hA, hB, hS, hT] at hc
          exact absurd rfl hc
      · simp only [Bool.and_self, Bool.true_eq_false, if_true, if_false]
        clear h3 h hc
        go_enter Try.func20, Try.ntmps20
        go_wp2_with fail
        refine H0.out.mono ?_
        rintro e w' ⟨rfl, rfl⟩
        go_wp2_with fail
        refine H1.out.mono ?_
        rintro e w' ⟨rfl, rfl⟩
        go_wp2_with fail
        refine H2.out.mono ?_
        rintro e w' ⟨rfl, rfl⟩
        go_wp2
        go_ret
        exact ⟨rfl, rfl⟩
set_option maxHeartbeats 1000000 in
theorem insert_yes (h : Mem w lo b N M gL gN lk ln) (x a li : Nat) (hx : x < N) (ha : a < N) (hsx : (lk x).s = false) (hsa : (lk a).s = true) (hnx : (lk a).n < N + M) (hli : (lk a).l = li) (hlm : li < M) (hln : ln li < 9223372036854775807) :
    Calls Try.prog 20 #[.pointer (some ⟨b, 0, none⟩), .int .i32 (x : Int), .int .i32 (a : Int)] w (LayPost w lo b N M gL gN (layLk lk x a (lk a).n li) (put ln li (ln li + 1))) := by
  have n6 := h.n6
  have h0 := hasNode_at b N x w (by constructor <;> omega) h.nodes0
  have h1 := hasNode_at b N a w (by constructor <;> omega) h.nodes0
  have h2 := stands_at h x (by constructor <;> omega)
  have h3 := stands_at h a (by constructor <;> omega)
  have h4 := lay_raw h x a (lk a).n li hx (by omega) rfl hnx hli hlm hln
  have e1 : standsB N lk (x : Int) = false := by unfold standsB; rw [inN_nat hx]; simpa using hsx
  have e2 : standsB N lk (a : Int) = true := by unfold standsB; rw [inN_nat ha]; simpa using hsa
  rw [inN_nat hx] at h0
  rw [inN_nat ha] at h1
  rw [e1] at h2
  rw [e2] at h3
  unfold LayPost
  have H0 := Lib.hid h0
  have H1 := Lib.hid h1
  have H2 := Lib.hid h2
  have H3 := Lib.hid h3
  have H4 := Lib.hid h4
  clear h h0 h1 h2 h3 h4 e1 e2 hnx hli hln
  go_enter Try.func20, Try.ntmps20
  go_wp2_with fail
  refine H0.out.mono ?_
  rintro e w' ⟨rfl, rfl⟩
  go_wp2_with fail
  refine H1.out.mono ?_
  rintro e w' ⟨rfl, rfl⟩
  go_wp2_with fail
  refine H2.out.mono ?_
  rintro e w' ⟨rfl, rfl⟩
  go_wp2_with fail
  refine H3.out.mono ?_
  rintro e w' ⟨rfl, rfl⟩
  go_wp2_with fail
  refine H4.out.mono ?_
  rintro e w' ⟨rfl, hm, hk⟩
  have HM := Lib.hid hm
  have HK := Lib.hid hk
  clear hm hk
  go_wp2
  go_ret
  exact ⟨rfl, HM.out, HK.out⟩
end
end Go.Proofs.Ytmjccpgkgkindaa
