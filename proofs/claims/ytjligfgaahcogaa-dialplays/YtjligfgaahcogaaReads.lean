/-
  What the functions that read a dial return: a contract a function.
-/
import Derived.Test.YtjligfgaahcogaaChecked
import Derived.Test.YtjligfgaahcogaaMem
import Derived.WalkKit
import Derived.ProofKit
import Derived.OpenShut
import Derived.WalkLawsBesides
import Derived.BigQuiet
import Derived.Deep.QuietTactic
import Derived.StillTailTactics
namespace Go.Proofs.Ytjligfgaahcogaa
open Go.ChangeShapes Go.WideShapes Go.ChangeAt Go.RowKit
set_option linter.unusedVariables false

def i32in (n : Int) : Prop := -2147483648 ≤ n ∧ n < 2147483648
/-- is there such a node, such a hand? -/
def inN (N : Nat) (n : Int) : Bool := decide (0 ≤ n ∧ n < (N : Int))
theorem inN_nat {N x : Nat} (h : x < N) : inN N (x : Int) = true := by unfold inN; simp; omega
theorem inN_get {N : Nat} {n : Int} (h : inN N n = true) : ∃ x : Nat, n = (x : Int) ∧ x < N := by
  have hx : 0 ≤ n ∧ n < (N : Int) := by unfold inN at h; simpa using h
  obtain ⟨x, rfl⟩ := Int.eq_ofNat_of_zero_le hx.1
  exact ⟨x, rfl, by omega⟩

theorem hasNode_nil (n : Int) (w : World) : Calls Try.prog 32 #[.pointer none, .int .i32 n] w fun e w' => e = .returned (.bool false) ∧ w = w' := by
  go_enter Try.func32, Try.ntmps32
  go_wp2
  go_ret
  exact ⟨rfl, rfl⟩
theorem hasNode_at (b N : Nat) (A : Option Addr) (n : Int) (w : World) (hn : i32in n) (h0 : w.cell? ⟨b, 0, none⟩ = some (.slice A N N)) :
    Calls Try.prog 32 #[.pointer (some ⟨b, 0, none⟩), .int .i32 n] w fun e w' => e = .returned (.bool (inN N n)) ∧ w = w' := by
  have hw : IntKind.i64.wrap n = n := by unfold i32in at hn; rw [IntKind.wrap_i64]; omega
  by_cases h1 : 0 ≤ n
  · have hd : decide (0 ≤ n) = true := by simp; omega
    have e : inN N n = decide (n < (N : Int)) := by unfold inN; simp [h1]
    rw [e]
    go_enter Try.func32, Try.ntmps32
    go_wp2
    go_ret
    exact ⟨rfl, rfl⟩
  · have hd : decide (0 ≤ n) = false := by simp; omega
    have e : inN N n = false := by unfold inN; simp [h1]
    rw [e]
    go_enter Try.func32, Try.ntmps32
    go_wp2
    go_ret
    exact ⟨rfl, rfl⟩
theorem hasHand_nil (n : Int) (w : World) : Calls Try.prog 33 #[.pointer none, .int .i64 n] w fun e w' => e = .returned (.bool false) ∧ w = w' := by
  go_enter Try.func33, Try.ntmps33
  go_wp2
  go_ret
  exact ⟨rfl, rfl⟩
theorem hasHand_at (b M : Nat) (A : Option Addr) (n : Int) (w : World) (h0 : w.cell? ⟨b, 1, none⟩ = some (.slice A M M)) :
    Calls Try.prog 33 #[.pointer (some ⟨b, 0, none⟩), .int .i64 n] w fun e w' => e = .returned (.bool (inN M n)) ∧ w = w' := by
  by_cases h1 : 0 ≤ n
  · have hd : decide (0 ≤ n) = true := by simp; omega
    have e : inN M n = decide (n < (M : Int)) := by unfold inN; simp [h1]
    rw [e]
    go_enter Try.func33, Try.ntmps33
    go_wp2
    go_ret
    exact ⟨rfl, rfl⟩
  · have hd : decide (0 ≤ n) = false := by simp; omega
    have e : inN M n = false := by unfold inN; simp [h1]
    rw [e]
    go_enter Try.func33, Try.ntmps33
    go_wp2
    go_ret
    exact ⟨rfl, rfl⟩

def tnone : Value := .tuple #[.int .i32 0, .bool false]
theorem has_nil (n : Int) (w : World) : Calls Try.prog 24 #[.pointer none, .int .i32 n] w fun e w' => e = .returned (.bool false) ∧ w = w' := by
  go_enter Try.func24, Try.ntmps24
  go_wp2_with (go_at_call 32; refine (hasNode_nil _ _).mono ?_; rintro e w' ⟨rfl, rfl⟩)
  go_ret
  exact ⟨rfl, rfl⟩
theorem at_nil (n : Int) (w : World) : Calls Try.prog 20 #[.pointer none, .int .i64 n] w fun e w' => e = .returned tnone ∧ w = w' := by
  go_enter Try.func20, Try.ntmps20
  go_wp2_with (go_at_call 33; refine (hasHand_nil _ _).mono ?_; rintro e w' ⟨rfl, rfl⟩)
  go_ret2
  exact ⟨rfl, rfl⟩
theorem next_nil (n : Int) (w : World) : Calls Try.prog 22 #[.pointer none, .int .i32 n] w fun e w' => e = .returned tnone ∧ w = w' := by
  go_enter Try.func22, Try.ntmps22
  go_wp2_with (go_at_call 24; refine (has_nil _ _).mono ?_; rintro e w' ⟨rfl, rfl⟩)
  go_ret2
  exact ⟨rfl, rfl⟩
theorem len_nil (w : World) : Calls Try.prog 16 #[.pointer none] w fun e w' => e = .returned (.int .i64 0) ∧ w = w' := by
  go_enter Try.func16, Try.ntmps16
  go_wp2
  go_ret
  exact ⟨rfl, rfl⟩
theorem step_nil (n : Int) (w : World) : Calls Try.prog 14 #[.pointer none, .int .i64 n] w fun e w' => e = .returned (.bool false) ∧ w = w' := by
  go_enter Try.func14, Try.ntmps14
  go_wp2_with (go_at_call 20; refine (at_nil _ _).mono ?_; unfold tnone; rintro e w' ⟨rfl, rfl⟩)
  go_ret
  exact ⟨rfl, rfl⟩
theorem insert_nil (n h : Int) (w : World) : Calls Try.prog 13 #[.pointer none, .int .i32 n, .int .i64 h] w fun e w' => e = .returned (.int .i64 9) ∧ w = w' := by
  go_enter Try.func13, Try.ntmps13
  go_wp2
  go_ret
  exact ⟨rfl, rfl⟩
theorem set_nil (h n : Int) (w : World) : Calls Try.prog 23 #[.pointer none, .int .i64 h, .int .i32 n] w fun e w' => e = .returned (.int .i64 9) ∧ w = w' := by
  go_enter Try.func23, Try.ntmps23
  go_wp2
  go_ret
  exact ⟨rfl, rfl⟩
theorem remove_no (p : Option Addr) (n : Int) (w : World) (h0 : Calls Try.prog 24 #[.pointer p, .int .i32 n] w fun e w' => e = .returned (.bool false) ∧ w = w') :
    Calls Try.prog 18 #[.pointer p, .int .i32 n] w fun e w' => e = .returned (.bool false) ∧ w = w' := by
  have H0 := Lib.hid h0
  clear h0
  go_enter Try.func18, Try.ntmps18
  go_wp2_with (go_at_call 24; refine H0.out.mono ?_; rintro e w' ⟨rfl, rfl⟩)
  go_ret
  exact ⟨rfl, rfl⟩

section
variable {w : World} {lo b N M gL gH : Nat} {lk : Nat → Lk} {hd : Nat → Nat} {cnt : Nat}
def hasB (N : Nat) (lk : Nat → Lk) (n : Int) : Bool := inN N n && (lk n.toNat).s
set_option maxHeartbeats 400000 in
theorem has_at (h : Mem w lo b N M gL gH lk hd cnt) (n : Int) (hn : i32in n) :
    Calls Try.prog 24 #[.pointer (some ⟨b, 0, none⟩), .int .i32 n] w fun e w' => e = .returned (.bool (hasB N lk n)) ∧ w = w' := by
  have h0 := hasNode_at b N _ n w hn h.links0
  by_cases hin : inN N n = true
  · obtain ⟨x, rfl, hxN⟩ := inN_get hin
    have hc := h.links.cell (i := x) (t := 2) (by omega) (by decide)
    simp only [Lk.cells, List.getElem?_cons_succ, List.getElem?_cons_zero] at hc
    have h1 := h.links0
    rw [hin] at h0
    have e : hasB N lk (x : Int) = (lk x).s := by unfold hasB; rw [hin]; simp
    rw [e]
    have H0 := Lib.hid h0
    clear h0 e hin
    go_enter Try.func24, Try.ntmps24
    go_wp2_with (go_at_call 32; refine H0.out.mono ?_; rintro e w' ⟨rfl, rfl⟩)
    go_ret
    exact ⟨rfl, rfl⟩
  · have hin : inN N n = false := by simpa using hin
    rw [hin] at h0
    have e : hasB N lk n = false := by unfold hasB; rw [hin]; rfl
    rw [e]
    have H0 := Lib.hid h0
    clear h0 e hin
    go_enter Try.func24, Try.ntmps24
    go_wp2_with (go_at_call 32; refine H0.out.mono ?_; rintro e w' ⟨rfl, rfl⟩)
    go_ret
    exact ⟨rfl, rfl⟩
/-- there is no such hand, or no node -/
theorem at_no (h : Mem w lo b N M gL gH lk hd cnt) (n : Int) (hh : inN M n = false ∨ cnt = 0) :
    Calls Try.prog 20 #[.pointer (some ⟨b, 0, none⟩), .int .i64 n] w fun e w' => e = .returned tnone ∧ w = w' := by
  have h0 := hasHand_at b M _ n w h.hands1
  have h2 := h.count2
  cases hin : inN M n with
  | false =>
    rw [hin] at h0
    have H0 := Lib.hid h0
    clear h0 hh
    go_enter Try.func20, Try.ntmps20
    go_wp2_with (go_at_call 33; refine H0.out.mono ?_; rintro e w' ⟨rfl, rfl⟩)
    go_ret2
    exact ⟨rfl, rfl⟩
  | true =>
    obtain rfl : cnt = 0 := by rcases hh with hh | hh; rw [hin] at hh; cases hh; exact hh
    rw [hin] at h0
    have H0 := Lib.hid h0
    clear h0 hh
    go_enter Try.func20, Try.ntmps20
    go_wp2_with (go_at_call 33; refine H0.out.mono ?_; rintro e w' ⟨rfl, rfl⟩)
    go_ret2
    exact ⟨rfl, rfl⟩
theorem at_at (h : Mem w lo b N M gL gH lk hd cnt) (i : Nat) (hi : i < M) (hc : 0 < cnt) :
    Calls Try.prog 20 #[.pointer (some ⟨b, 0, none⟩), .int .i64 (i : Int)] w fun e w' => e = .returned (.tuple #[.int .i32 (hd i : Int), .bool true]) ∧ w = w' := by
  have h0 := hasHand_at b M _ i w h.hands1
  rw [inN_nat hi] at h0
  have h1 := h.hands1
  have h2 := h.count2
  have h3 := h.hands.cell hi
  have hne : ((cnt : Int) == 0) = false := by simp; omega
  have hne2 : (cnt == 0) = false := by simp; omega
  have H0 := Lib.hid h0
  clear h0
  go_enter Try.func20, Try.ntmps20
  go_wp2_with (go_at_call 33; refine H0.out.mono ?_; rintro e w' ⟨rfl, rfl⟩)
  go_ret2
  exact ⟨rfl, rfl⟩
theorem next_no (h : Mem w lo b N M gL gH lk hd cnt) (n : Int) (hn : i32in n) (hs : hasB N lk n = false) : Calls Try.prog 22 #[.pointer (some ⟨b, 0, none⟩), .int .i32 n] w fun e w' => e = .returned tnone ∧ w = w' := by
  have h0 := has_at h n hn
  rw [hs] at h0
  have H0 := Lib.hid h0
  clear h0
  go_enter Try.func22, Try.ntmps22
  go_wp2_with (go_at_call 24; refine H0.out.mono ?_; rintro e w' ⟨rfl, rfl⟩)
  go_ret2
  exact ⟨rfl, rfl⟩
theorem next_at (h : Mem w lo b N M gL gH lk hd cnt) (x : Nat) (hx : x < N) (hs : (lk x).s = true) :
    Calls Try.prog 22 #[.pointer (some ⟨b, 0, none⟩), .int .i32 (x : Int)] w fun e w' => e = .returned (.tuple #[.int .i32 ((lk x).n : Int), .bool true]) ∧ w = w' := by
  have h0 := has_at h x (by have := h.n6; constructor <;> omega)
  have e : hasB N lk (x : Int) = true := by unfold hasB; rw [inN_nat hx]; simpa using hs
  rw [e] at h0
  have h1 := h.links0
  have hc := h.links.cell (i := x) (t := 1) (by omega) (by decide)
  simp only [Lk.cells, List.getElem?_cons_succ, List.getElem?_cons_zero] at hc
  have H0 := Lib.hid h0
  clear h0 e
  go_enter Try.func22, Try.ntmps22
  go_wp2_with (go_at_call 24; refine H0.out.mono ?_; rintro e w' ⟨rfl, rfl⟩)
  go_ret2
  exact ⟨rfl, rfl⟩
theorem len_at (h : Mem w lo b N M gL gH lk hd cnt) : Calls Try.prog 16 #[.pointer (some ⟨b, 0, none⟩)] w fun e w' => e = .returned (.int .i64 (cnt : Int)) ∧ w = w' := by
  have h2 := h.count2
  go_enter Try.func16, Try.ntmps16
  go_wp2
  go_ret
  exact ⟨rfl, rfl⟩
end
end Go.Proofs.Ytjligfgaahcogaa
