/-
  What the functions that read chains return: a contract a function.
-/
import Derived.Test.YtmjccpgkgkindaaChecked
import Derived.Test.YtmjccpgkgkindaaMem
import Derived.WalkKit
import Derived.ProofKit
import Derived.OpenShut
import Derived.WalkLawsBesides
import Derived.BigQuiet
import Derived.Deep.QuietTactic
import Derived.StillTailTactics
namespace Go.Proofs.Ytmjccpgkgkindaa
open Go.ChangeShapes Go.WideShapes Go.ChangeAt Go.RowKit
set_option linter.unusedVariables false

def i32in (n : Int) : Prop := -2147483648 ≤ n ∧ n < 2147483648
theorem quiet_drew {P : Program} {f : FuncId} {args : Array Value} {w : World} {n : Nat} {v : Value}
    (h : Calls P f args (w.drewN n) fun e w' => e = .returned v ∧ ∃ q, w' = (w.drewN n).drewN q) : Calls P f args (w.drewN n) fun e w'' => e = .returned v ∧ ∃ m, w'' = w.drewN m :=
  h.mono fun _ _ ⟨he, q, hm⟩ => ⟨he, n + q, by rw [hm, World.drewN_drewN]⟩
/-- is there such a node, such a list? -/
def inN (N : Nat) (n : Int) : Bool := decide (0 ≤ n ∧ n < (N : Int))
theorem inN_nat {N x : Nat} (h : x < N) : inN N (x : Int) = true := by unfold inN; simp; omega

theorem hasNode_nil (n : Int) (w : World) : Calls Try.prog 39 #[.pointer none, .int .i32 n] w fun e w' => e = .returned (.bool false) ∧ w = w' := by
  go_enter Try.func39, Try.ntmps39
  go_wp2
  go_ret
  exact ⟨rfl, rfl⟩
theorem hasNode_at (b N : Nat) (n : Int) (w : World) (hn : i32in n) (h0 : w.cell? ⟨b, 0, none⟩ = some (.int .i64 (N : Int))) :
    Calls Try.prog 39 #[.pointer (some ⟨b, 0, none⟩), .int .i32 n] w fun e w' => e = .returned (.bool (inN N n)) ∧ w = w' := by
  have hw : IntKind.i64.wrap n = n := by unfold i32in at hn; rw [IntKind.wrap_i64]; omega
  by_cases h1 : 0 ≤ n
  · have hd : decide (0 ≤ n) = true := by simp; omega
    have e : inN N n = decide (n < (N : Int)) := by unfold inN; simp [h1]
    rw [e]
    go_enter Try.func39, Try.ntmps39
    go_wp2
    go_ret
    exact ⟨rfl, rfl⟩
  · have hd : decide (0 ≤ n) = false := by simp; omega
    have e : inN N n = false := by unfold inN; simp [h1]
    rw [e]
    go_enter Try.func39, Try.ntmps39
    go_wp2
    go_ret
    exact ⟨rfl, rfl⟩
theorem hasList_nil (n : Int) (w : World) : Calls Try.prog 41 #[.pointer none, .int .i64 n] w fun e w' => e = .returned (.bool false) ∧ w = w' := by
  go_enter Try.func41, Try.ntmps41
  go_wp2
  go_ret
  exact ⟨rfl, rfl⟩
theorem hasList_at (b M : Nat) (A : Option Addr) (n : Int) (w : World) (h0 : w.cell? ⟨b, 2, none⟩ = some (.slice A M M)) :
    Calls Try.prog 41 #[.pointer (some ⟨b, 0, none⟩), .int .i64 n] w fun e w' => e = .returned (.bool (inN M n)) ∧ w = w' := by
  by_cases h1 : 0 ≤ n
  · have hd : decide (0 ≤ n) = true := by simp; omega
    have e : inN M n = decide (n < (M : Int)) := by unfold inN; simp [h1]
    rw [e]
    go_enter Try.func41, Try.ntmps41
    go_wp2
    go_ret
    exact ⟨rfl, rfl⟩
  · have hd : decide (0 ≤ n) = false := by simp; omega
    have e : inN M n = false := by unfold inN; simp [h1]
    rw [e]
    go_enter Try.func41, Try.ntmps41
    go_wp2
    go_ret
    exact ⟨rfl, rfl⟩
theorem head_at (b N i : Nat) (w : World) (hN : N ≤ 65536) (hi : i ≤ 8) (h0 : w.cell? ⟨b, 0, none⟩ = some (.int .i64 (N : Int))) :
    Calls Try.prog 30 #[.pointer (some ⟨b, 0, none⟩), .int .i64 (i : Int)] w fun e w' => e = .returned (.int .i32 ((N + i : Nat) : Int)) ∧ w = w' := by
  have hw : IntKind.i32.wrap ((N : Int) + (i : Int)) = ((N + i : Nat) : Int) := by rw [IntKind.wrap_i32]; omega
  go_enter Try.func30, Try.ntmps30
  go_wp2
  go_ret
  exact ⟨by rw [Int.natCast_add]; rfl, rfl⟩

section
variable {w : World} {lo b N M gL gN : Nat} {lk : Nat → Lk} {ln : Nat → Nat}
def standsB (N : Nat) (lk : Nat → Lk) (n : Int) : Bool := inN N n && (lk n.toNat).s
theorem stands_nil (n : Int) (w : World) : Calls Try.prog 38 #[.pointer none, .int .i32 n] w fun e w' => e = .returned (.bool false) ∧ w = w' := by
  go_enter Try.func38, Try.ntmps38
  go_wp2_with (go_at_call 39; refine (hasNode_nil _ _).mono ?_; rintro e w' ⟨rfl, rfl⟩)
  go_ret
  exact ⟨rfl, rfl⟩
theorem idx_ok {x N M : Nat} (h : x < N) : ((x : Int) < ((N + M : Nat) : Int)) := by omega
set_option maxHeartbeats 400000 in
theorem stands_at (h : Mem w lo b N M gL gN lk ln) (n : Int) (hn : i32in n) :
    Calls Try.prog 38 #[.pointer (some ⟨b, 0, none⟩), .int .i32 n] w fun e w' => e = .returned (.bool (standsB N lk n)) ∧ w = w' := by
  have h0 := hasNode_at b N n w hn h.nodes0
  by_cases hin : inN N n = true
  · have hx : 0 ≤ n ∧ n < (N : Int) := by unfold inN at hin; simpa using hin
    obtain ⟨x, rfl⟩ := Int.eq_ofNat_of_zero_le hx.1
    have hxN : x < N := by omega
    have hc := h.links.cell (i := x) (t := 3) (by omega) (by decide)
    simp only [Lk.cells, List.getElem?_cons_succ, List.getElem?_cons_zero] at hc
    have h1 := h.links1
    have hlt : x < N + M := by omega
    rw [hin] at h0
    have e : standsB N lk (x : Int) = (lk x).s := by unfold standsB; rw [hin]; simp
    rw [e]
    have H0 := Lib.hid h0
    clear h0 e hin
    go_enter Try.func38, Try.ntmps38
    go_wp2_with (go_at_call 39; refine H0.out.mono ?_; rintro e w' ⟨rfl, rfl⟩)
    go_ret
    exact ⟨rfl, rfl⟩
  · have hin : inN N n = false := by simpa using hin
    rw [hin] at h0
    have e : standsB N lk n = false := by unfold standsB; rw [hin]; rfl
    rw [e]
    have H0 := Lib.hid h0
    clear h0 e hin
    go_enter Try.func38, Try.ntmps38
    go_wp2_with (go_at_call 39; refine H0.out.mono ?_; rintro e w' ⟨rfl, rfl⟩)
    go_ret
    exact ⟨rfl, rfl⟩

/-- a node, or nothing -/
def tup (N u : Nat) : Value := if u < N then .tuple #[.int .i32 (u : Int), .bool true] else .tuple #[.int .i32 0, .bool false]
def tnone : Value := .tuple #[.int .i32 0, .bool false]
theorem unless_nil (n : Int) (w : World) : Calls Try.prog 44 #[.pointer none, .int .i32 n] w fun e w' => e = .returned tnone ∧ w = w' := by
  go_enter Try.func44, Try.ntmps44
  go_wp2_with (go_at_call 39; refine (hasNode_nil _ _).mono ?_; rintro e w' ⟨rfl, rfl⟩)
  go_ret2
  exact ⟨rfl, rfl⟩
theorem unless_at (b N u : Nat) (w : World) (hu : u < 2147483648) (h0 : w.cell? ⟨b, 0, none⟩ = some (.int .i64 (N : Int))) :
    Calls Try.prog 44 #[.pointer (some ⟨b, 0, none⟩), .int .i32 (u : Int)] w fun e w' => e = .returned (tup N u) ∧ w = w' := by
  have h1 := hasNode_at b N u w (by constructor <;> omega) h0
  by_cases hin : u < N
  · rw [inN_nat hin] at h1
    have H1 := Lib.hid h1
    clear h1
    unfold tup
    rw [if_pos hin]
    go_enter Try.func44, Try.ntmps44
    go_wp2_with (go_at_call 39; refine H1.out.mono ?_; rintro e w' ⟨rfl, rfl⟩)
    go_ret2
    exact ⟨rfl, rfl⟩
  · have e : inN N (u : Int) = false := by unfold inN; simp; omega
    rw [e] at h1
    have H1 := Lib.hid h1
    clear h1 e
    unfold tup
    rw [if_neg hin]
    go_enter Try.func44, Try.ntmps44
    go_wp2_with (go_at_call 39; refine H1.out.mono ?_; rintro e w' ⟨rfl, rfl⟩)
    go_ret2
    exact ⟨rfl, rfl⟩
theorem ret_pair {v u : Value} {tmps : Array Value} {x y : Value} (h : v = .tuple #[x, y]) : Ending.returned (.tuple #[x, y]) = .returned v := by rw [h]

theorem first_nil (n : Int) (w : World) : Calls Try.prog 25 #[.pointer none, .int .i64 n] w fun e w' => e = .returned tnone ∧ w = w' := by
  go_enter Try.func25, Try.ntmps25
  go_wp2_with (go_at_call 41; refine (hasList_nil _ _).mono ?_; rintro e w' ⟨rfl, rfl⟩)
  go_ret2
  exact ⟨rfl, rfl⟩
theorem first_no (h : Mem w lo b N M gL gN lk ln) (n : Int) (hn : inN M n = false) : Calls Try.prog 25 #[.pointer (some ⟨b, 0, none⟩), .int .i64 n] w fun e w' => e = .returned tnone ∧ w = w' := by
  have h0 := hasList_at b M _ n w h.lens2
  rw [hn] at h0
  have H0 := Lib.hid h0
  clear h0
  go_enter Try.func25, Try.ntmps25
  go_wp2_with (go_at_call 41; refine H0.out.mono ?_; rintro e w' ⟨rfl, rfl⟩)
  go_ret2
  exact ⟨rfl, rfl⟩
set_option maxHeartbeats 1000000 in
theorem first_raw (h : Mem w lo b N M gL gN lk ln) (i u : Nat) (hi : i < M) (hu : (lk (N + i)).n = u) (hu2 : u < 2147483648) (r0 : Int) (r1 : Bool) (ht : tup N u = .tuple #[.int .i32 r0, .bool r1]) :
    Calls Try.prog 25 #[.pointer (some ⟨b, 0, none⟩), .int .i64 (i : Int)] w fun e w' => e = .returned (.tuple #[.int .i32 r0, .bool r1]) ∧ ∃ q, w' = w.drewN q := by
  have hin : inN M (i : Int) = true := inN_nat hi
  have h0 := hasList_at b M _ i w h.lens2
  rw [hin] at h0
  have h1 := h.links1
  have hc := h.links.cell (i := N + i) (t := 1) (by omega) (by decide)
  simp only [Lk.cells, List.getElem?_cons_succ, List.getElem?_cons_zero, hu] at hc
  have hlt : N + i < N + M := by omega
  have HH : Hid (∀ q, Calls Try.prog 30 #[.pointer (some ⟨b, 0, none⟩), .int .i64 (i : Int)] (w.drewN q) fun e w' => e = .returned (.int .i32 ((N + i : Nat) : Int)) ∧ ∃ q', w' = (w.drewN q).drewN q') := Lib.hid fun q => by
    refine (head_at b N i (w.drewN q) h.n6 (by have := h.m8; omega) h.nodes0).mono ?_
    rintro e w' ⟨he, hw⟩
    exact ⟨he, 0, hw.symm⟩
  have HU : Hid (∀ q, Calls Try.prog 44 #[.pointer (some ⟨b, 0, none⟩), .int .i32 (u : Int)] (w.drewN q) fun e w' => e = .returned (.tuple #[.int .i32 r0, .bool r1]) ∧ ∃ q', w' = (w.drewN q).drewN q') := Lib.hid fun q => by
    refine (unless_at b N u (w.drewN q) hu2 h.nodes0).mono ?_
    rintro e w' ⟨he, hw⟩
    rw [ht] at he
    exact ⟨he, 0, hw.symm⟩
  have H0 := Lib.hid h0
  clear h0 hin hu
  generalize N + i = hd at *
  go_enter Try.func25, Try.ntmps25
  go_wp2_with (go_at_call 41; refine H0.out.mono ?_; rintro e w' ⟨rfl, rfl⟩)
  go_quiet (first | (go_at_call 30; exact quiet_drew (HH.out _)) | (go_at_call 44; exact quiet_drew (HU.out _)))
  go_wp2
  go_ret2
  exact ⟨rfl, _, rfl⟩
theorem first_at (h : Mem w lo b N M gL gN lk ln) (i : Nat) (hi : i < M) (hu2 : (lk (N + i)).n < 2147483648) :
    Calls Try.prog 25 #[.pointer (some ⟨b, 0, none⟩), .int .i64 (i : Int)] w fun e w' => e = .returned (tup N (lk (N + i)).n) ∧ ∃ q, w' = w.drewN q := by
  by_cases hh : (lk (N + i)).n < N
  · have e : tup N (lk (N + i)).n = .tuple #[.int .i32 (((lk (N + i)).n : Nat) : Int), .bool true] := by unfold tup; rw [if_pos hh]
    rw [e]; exact first_raw h i _ hi rfl hu2 _ _ e
  · have e : tup N (lk (N + i)).n = .tuple #[.int .i32 0, .bool false] := by unfold tup; rw [if_neg hh]
    rw [e]; exact first_raw h i _ hi rfl hu2 _ _ e

theorem last_nil (n : Int) (w : World) : Calls Try.prog 26 #[.pointer none, .int .i64 n] w fun e w' => e = .returned tnone ∧ w = w' := by
  go_enter Try.func26, Try.ntmps26
  go_wp2_with (go_at_call 41; refine (hasList_nil _ _).mono ?_; rintro e w' ⟨rfl, rfl⟩)
  go_ret2
  exact ⟨rfl, rfl⟩
theorem last_no (h : Mem w lo b N M gL gN lk ln) (n : Int) (hn : inN M n = false) : Calls Try.prog 26 #[.pointer (some ⟨b, 0, none⟩), .int .i64 n] w fun e w' => e = .returned tnone ∧ w = w' := by
  have h0 := hasList_at b M _ n w h.lens2
  rw [hn] at h0
  have H0 := Lib.hid h0
  clear h0
  go_enter Try.func26, Try.ntmps26
  go_wp2_with (go_at_call 41; refine H0.out.mono ?_; rintro e w' ⟨rfl, rfl⟩)
  go_ret2
  exact ⟨rfl, rfl⟩
set_option maxHeartbeats 1000000 in
theorem last_raw (h : Mem w lo b N M gL gN lk ln) (i u : Nat) (hi : i < M) (hu : (lk (N + i)).p = u) (hu2 : u < 2147483648) (r0 : Int) (r1 : Bool) (ht : tup N u = .tuple #[.int .i32 r0, .bool r1]) :
    Calls Try.prog 26 #[.pointer (some ⟨b, 0, none⟩), .int .i64 (i : Int)] w fun e w' => e = .returned (.tuple #[.int .i32 r0, .bool r1]) ∧ ∃ q, w' = w.drewN q := by
  have hin : inN M (i : Int) = true := inN_nat hi
  have h0 := hasList_at b M _ i w h.lens2
  rw [hin] at h0
  have h1 := h.links1
  have hc := h.links.cell (i := N + i) (t := 0) (by omega) (by decide)
  simp only [Lk.cells, List.getElem?_cons_zero, hu, Nat.add_zero] at hc
  have hlt : N + i < N + M := by omega
  have HH : Hid (∀ q, Calls Try.prog 30 #[.pointer (some ⟨b, 0, none⟩), .int .i64 (i : Int)] (w.drewN q) fun e w' => e = .returned (.int .i32 ((N + i : Nat) : Int)) ∧ ∃ q', w' = (w.drewN q).drewN q') := Lib.hid fun q => by
    refine (head_at b N i (w.drewN q) h.n6 (by have := h.m8; omega) h.nodes0).mono ?_
    rintro e w' ⟨he, hw⟩
    exact ⟨he, 0, hw.symm⟩
  have HU : Hid (∀ q, Calls Try.prog 44 #[.pointer (some ⟨b, 0, none⟩), .int .i32 (u : Int)] (w.drewN q) fun e w' => e = .returned (.tuple #[.int .i32 r0, .bool r1]) ∧ ∃ q', w' = (w.drewN q).drewN q') := Lib.hid fun q => by
    refine (unless_at b N u (w.drewN q) hu2 h.nodes0).mono ?_
    rintro e w' ⟨he, hw⟩
    rw [ht] at he
    exact ⟨he, 0, hw.symm⟩
  have H0 := Lib.hid h0
  clear h0 hin hu
  generalize N + i = hd at *
  go_enter Try.func26, Try.ntmps26
  go_wp2_with (go_at_call 41; refine H0.out.mono ?_; rintro e w' ⟨rfl, rfl⟩)
  go_quiet (first | (go_at_call 30; exact quiet_drew (HH.out _)) | (go_at_call 44; exact quiet_drew (HU.out _)))
  go_wp2
  go_ret2
  exact ⟨rfl, _, rfl⟩
theorem last_at (h : Mem w lo b N M gL gN lk ln) (i : Nat) (hi : i < M) (hu2 : (lk (N + i)).p < 2147483648) :
    Calls Try.prog 26 #[.pointer (some ⟨b, 0, none⟩), .int .i64 (i : Int)] w fun e w' => e = .returned (tup N (lk (N + i)).p) ∧ ∃ q, w' = w.drewN q := by
  by_cases hh : (lk (N + i)).p < N
  · have e : tup N (lk (N + i)).p = .tuple #[.int .i32 (((lk (N + i)).p : Nat) : Int), .bool true] := by unfold tup; rw [if_pos hh]
    rw [e]; exact last_raw h i _ hi rfl hu2 _ _ e
  · have e : tup N (lk (N + i)).p = .tuple #[.int .i32 0, .bool false] := by unfold tup; rw [if_neg hh]
    rw [e]; exact last_raw h i _ hi rfl hu2 _ _ e

theorem next_nil (n : Int) (w : World) : Calls Try.prog 27 #[.pointer none, .int .i32 n] w fun e w' => e = .returned tnone ∧ w = w' := by
  go_enter Try.func27, Try.ntmps27
  go_wp2_with (go_at_call 38; refine (stands_nil _ _).mono ?_; rintro e w' ⟨rfl, rfl⟩)
  go_ret2
  exact ⟨rfl, rfl⟩
theorem next_no (h : Mem w lo b N M gL gN lk ln) (n : Int) (hn : i32in n) (hs : standsB N lk n = false) : Calls Try.prog 27 #[.pointer (some ⟨b, 0, none⟩), .int .i32 n] w fun e w' => e = .returned tnone ∧ w = w' := by
  have h0 := stands_at h n hn
  rw [hs] at h0
  have H0 := Lib.hid h0
  clear h0
  go_enter Try.func27, Try.ntmps27
  go_wp2_with (go_at_call 38; refine H0.out.mono ?_; rintro e w' ⟨rfl, rfl⟩)
  go_ret2
  exact ⟨rfl, rfl⟩
set_option maxHeartbeats 1000000 in
theorem next_raw (h : Mem w lo b N M gL gN lk ln) (x u : Nat) (hx : x < N) (hs : (lk x).s = true) (hu : (lk x).n = u) (hu2 : u < 2147483648) (r0 : Int) (r1 : Bool) (ht : tup N u = .tuple #[.int .i32 r0, .bool r1]) :
    Calls Try.prog 27 #[.pointer (some ⟨b, 0, none⟩), .int .i32 (x : Int)] w fun e w' => e = .returned (.tuple #[.int .i32 r0, .bool r1]) ∧ w = w' := by
  have h0 := stands_at h x (by have := h.n6; constructor <;> omega)
  have e : standsB N lk (x : Int) = true := by unfold standsB; rw [inN_nat hx]; simpa using hs
  rw [e] at h0
  have h1 := h.links1
  have hc := h.links.cell (i := x) (t := 1) (by omega) (by decide)
  simp only [Lk.cells, List.getElem?_cons_succ, List.getElem?_cons_zero, hu] at hc
  have hlt : x < N + M := by omega
  have hun := unless_at b N u w hu2 h.nodes0
  rw [ht] at hun
  have H0 := Lib.hid h0
  have HU := Lib.hid hun
  clear h0 hun e hu
  go_enter Try.func27, Try.ntmps27
  go_wp2_with (first | (go_at_call 38; refine H0.out.mono ?_; rintro e w' ⟨rfl, rfl⟩) | (go_at_call 44; refine HU.out.mono ?_; rintro e w' ⟨rfl, rfl⟩))
  go_ret2
  exact ⟨rfl, rfl⟩
theorem next_at (h : Mem w lo b N M gL gN lk ln) (x : Nat) (hx : x < N) (hs : (lk x).s = true) (hu2 : (lk x).n < 2147483648) :
    Calls Try.prog 27 #[.pointer (some ⟨b, 0, none⟩), .int .i32 (x : Int)] w fun e w' => e = .returned (tup N (lk x).n) ∧ w = w' := by
  by_cases hh : (lk x).n < N
  · have e : tup N (lk x).n = .tuple #[.int .i32 (((lk x).n : Nat) : Int), .bool true] := by unfold tup; rw [if_pos hh]
    rw [e]; exact next_raw h x _ hx hs rfl hu2 _ _ e
  · have e : tup N (lk x).n = .tuple #[.int .i32 0, .bool false] := by unfold tup; rw [if_neg hh]
    rw [e]; exact next_raw h x _ hx hs rfl hu2 _ _ e

theorem prev_nil (n : Int) (w : World) : Calls Try.prog 28 #[.pointer none, .int .i32 n] w fun e w' => e = .returned tnone ∧ w = w' := by
  go_enter Try.func28, Try.ntmps28
  go_wp2_with (go_at_call 38; refine (stands_nil _ _).mono ?_; rintro e w' ⟨rfl, rfl⟩)
  go_ret2
  exact ⟨rfl, rfl⟩
theorem prev_no (h : Mem w lo b N M gL gN lk ln) (n : Int) (hn : i32in n) (hs : standsB N lk n = false) : Calls Try.prog 28 #[.pointer (some ⟨b, 0, none⟩), .int .i32 n] w fun e w' => e = .returned tnone ∧ w = w' := by
  have h0 := stands_at h n hn
  rw [hs] at h0
  have H0 := Lib.hid h0
  clear h0
  go_enter Try.func28, Try.ntmps28
  go_wp2_with (go_at_call 38; refine H0.out.mono ?_; rintro e w' ⟨rfl, rfl⟩)
  go_ret2
  exact ⟨rfl, rfl⟩
set_option maxHeartbeats 1000000 in
theorem prev_raw (h : Mem w lo b N M gL gN lk ln) (x u : Nat) (hx : x < N) (hs : (lk x).s = true) (hu : (lk x).p = u) (hu2 : u < 2147483648) (r0 : Int) (r1 : Bool) (ht : tup N u = .tuple #[.int .i32 r0, .bool r1]) :
    Calls Try.prog 28 #[.pointer (some ⟨b, 0, none⟩), .int .i32 (x : Int)] w fun e w' => e = .returned (.tuple #[.int .i32 r0, .bool r1]) ∧ w = w' := by
  have h0 := stands_at h x (by have := h.n6; constructor <;> omega)
  have e : standsB N lk (x : Int) = true := by unfold standsB; rw [inN_nat hx]; simpa using hs
  rw [e] at h0
  have h1 := h.links1
  have hc := h.links.cell (i := x) (t := 0) (by omega) (by decide)
  simp only [Lk.cells, List.getElem?_cons_zero, hu, Nat.add_zero] at hc
  have hlt : x < N + M := by omega
  have hun := unless_at b N u w hu2 h.nodes0
  rw [ht] at hun
  have H0 := Lib.hid h0
  have HU := Lib.hid hun
  clear h0 hun e hu
  go_enter Try.func28, Try.ntmps28
  go_wp2_with (first | (go_at_call 38; refine H0.out.mono ?_; rintro e w' ⟨rfl, rfl⟩) | (go_at_call 44; refine HU.out.mono ?_; rintro e w' ⟨rfl, rfl⟩))
  go_ret2
  exact ⟨rfl, rfl⟩
theorem prev_at (h : Mem w lo b N M gL gN lk ln) (x : Nat) (hx : x < N) (hs : (lk x).s = true) (hu2 : (lk x).p < 2147483648) :
    Calls Try.prog 28 #[.pointer (some ⟨b, 0, none⟩), .int .i32 (x : Int)] w fun e w' => e = .returned (tup N (lk x).p) ∧ w = w' := by
  by_cases hh : (lk x).p < N
  · have e : tup N (lk x).p = .tuple #[.int .i32 (((lk x).p : Nat) : Int), .bool true] := by unfold tup; rw [if_pos hh]
    rw [e]; exact prev_raw h x _ hx hs rfl hu2 _ _ e
  · have e : tup N (lk x).p = .tuple #[.int .i32 0, .bool false] := by unfold tup; rw [if_neg hh]
    rw [e]; exact prev_raw h x _ hx hs rfl hu2 _ _ e

theorem list_nil (n : Int) (w : World) : Calls Try.prog 29 #[.pointer none, .int .i32 n] w fun e w' => e = .returned (.tuple #[.int .i64 0, .bool false]) ∧ w = w' := by
  go_enter Try.func29, Try.ntmps29
  go_wp2_with (go_at_call 38; refine (stands_nil _ _).mono ?_; rintro e w' ⟨rfl, rfl⟩)
  go_ret2
  exact ⟨rfl, rfl⟩
theorem list_no (h : Mem w lo b N M gL gN lk ln) (n : Int) (hn : i32in n) (hs : standsB N lk n = false) : Calls Try.prog 29 #[.pointer (some ⟨b, 0, none⟩), .int .i32 n] w fun e w' => e = .returned (.tuple #[.int .i64 0, .bool false]) ∧ w = w' := by
  have h0 := stands_at h n hn
  rw [hs] at h0
  have H0 := Lib.hid h0
  clear h0
  go_enter Try.func29, Try.ntmps29
  go_wp2_with (go_at_call 38; refine H0.out.mono ?_; rintro e w' ⟨rfl, rfl⟩)
  go_ret2
  exact ⟨rfl, rfl⟩
set_option maxHeartbeats 1000000 in
theorem list_at (h : Mem w lo b N M gL gN lk ln) (x : Nat) (hx : x < N) (hs : (lk x).s = true) :
    Calls Try.prog 29 #[.pointer (some ⟨b, 0, none⟩), .int .i32 (x : Int)] w fun e w' => e = .returned (.tuple #[.int .i64 ((lk x).l : Int), .bool true]) ∧ w = w' := by
  have h0 := stands_at h x (by have := h.n6; constructor <;> omega)
  have e : standsB N lk (x : Int) = true := by unfold standsB; rw [inN_nat hx]; simpa using hs
  rw [e] at h0
  have h1 := h.links1
  have hc := h.links.cell (i := x) (t := 2) (by omega) (by decide)
  simp only [Lk.cells, List.getElem?_cons_succ, List.getElem?_cons_zero] at hc
  have hlt : x < N + M := by omega
  have H0 := Lib.hid h0
  clear h0 e
  go_enter Try.func29, Try.ntmps29
  go_wp2_with (go_at_call 38; refine H0.out.mono ?_; rintro e w' ⟨rfl, rfl⟩)
  go_ret2
  exact ⟨rfl, rfl⟩
theorem len_nil (n : Int) (w : World) : Calls Try.prog 22 #[.pointer none, .int .i64 n] w fun e w' => e = .returned (.int .i64 0) ∧ w = w' := by
  go_enter Try.func22, Try.ntmps22
  go_wp2_with (go_at_call 41; refine (hasList_nil _ _).mono ?_; rintro e w' ⟨rfl, rfl⟩)
  go_ret
  exact ⟨rfl, rfl⟩
theorem len_no (h : Mem w lo b N M gL gN lk ln) (n : Int) (hn : inN M n = false) : Calls Try.prog 22 #[.pointer (some ⟨b, 0, none⟩), .int .i64 n] w fun e w' => e = .returned (.int .i64 0) ∧ w = w' := by
  have h0 := hasList_at b M _ n w h.lens2
  rw [hn] at h0
  have H0 := Lib.hid h0
  clear h0
  go_enter Try.func22, Try.ntmps22
  go_wp2_with (go_at_call 41; refine H0.out.mono ?_; rintro e w' ⟨rfl, rfl⟩)
  go_ret
  exact ⟨rfl, rfl⟩
theorem len_at (h : Mem w lo b N M gL gN lk ln) (i : Nat) (hi : i < M) : Calls Try.prog 22 #[.pointer (some ⟨b, 0, none⟩), .int .i64 (i : Int)] w fun e w' => e = .returned (.int .i64 (ln i : Int)) ∧ w = w' := by
  have h0 := hasList_at b M _ i w h.lens2
  rw [inN_nat hi] at h0
  have H0 := Lib.hid h0
  have h2 := h.lens2
  have hc := h.lens.cell hi
  clear h0
  go_enter Try.func22, Try.ntmps22
  go_wp2_with (go_at_call 41; refine H0.out.mono ?_; rintro e w' ⟨rfl, rfl⟩)
  go_ret
  exact ⟨rfl, rfl⟩
end
end Go.Proofs.Ytmjccpgkgkindaa
