/-
  What the functions that read a slab of numbers return: a contract a function.
-/
import Derived.Test.YtoopfoapkbjdkaaChecked
import Derived.Test.YtoopfoapkbjdkaaApp
import Derived.WalkKit
import Derived.ProofKit
import Derived.OpenShut
import Derived.WalkLawsBesides
import Derived.BigQuiet
import Derived.Deep.QuietTactic
import Derived.StillTailTactics
namespace Go.Proofs.Ytoopfoapkbjdkaa
open Go.ChangeShapes Go.WideShapes Go.ChangeAt Go.RowKit
set_option linter.unusedVariables false

def Ki : Kd := ⟨73, 118, 89, 3⟩
theorem Ki_ok : Ki.Ok := by constructor <;> decide

theorem ret_int {k : IntKind} {a b : Int} (h : a = b) : Ending.returned (.int k a) = .returned (.int k b) := by rw [h]
theorem new_no (most c : Int) (w : World) (h : most < 1 ∨ 65536 < most ∨ c < 1 ∨ most < c) :
    Calls Try.prog 7 #[.int .i64 most, .int .i64 c] w fun e w' => e = .returned (.tuple #[.pointer none, .int .i64 1]) ∧ w = w' := by
  go_enter Try.func7, Try.ntmps7
  by_cases h1 : most < 1
  · have hd1 : decide (most < 1) = true := by simp; omega
    go_wp2
    go_ret2
    exact ⟨rfl, rfl⟩
  · have hd1 : decide (most < 1) = false := by simp; omega
    by_cases h2 : 65536 < most
    · have hd2 : decide (65536 < most) = true := by simp; omega
      go_wp2
      go_ret2
      exact ⟨rfl, rfl⟩
    · have hd2 : decide (65536 < most) = false := by simp; omega
      by_cases h3 : c < 1
      · have hd3 : decide (c < 1) = true := by simp; omega
        go_wp2
        go_ret2
        exact ⟨rfl, rfl⟩
      · have hd3 : decide (c < 1) = false := by simp; omega
        have hd4 : decide (most < c) = true := by simp; omega
        go_wp2
        go_ret2
        exact ⟨rfl, rfl⟩
theorem new_yes (most c : Nat) (w : World) (h1 : 1 ≤ c) (h2 : c ≤ most) (h3 : most ≤ 65536) :
    Calls Try.prog 7 #[.int .i64 (most : Int), .int .i64 (c : Int)] w fun e w' => e = .returned (.tuple #[.pointer (some ⟨w.heap.size, 0, none⟩), .int .i64 0]) ∧ w' = w.alloc (.cells #[.int .i64 (most : Int), .int .i64 (c : Int), .int .i64 0, .slice none 0 0, .slice none 0 0] 73) := by
  have hd1 : decide ((most : Int) < 1) = false := by simp; omega
  have hd2 : decide (65536 < (most : Int)) = false := by simp; omega
  have hd3 : decide ((c : Int) < 1) = false := by simp; omega
  have hd4 : decide ((most : Int) < (c : Int)) = false := by simp; omega
  go_enter Try.func7, Try.ntmps7
  go_wp2
  go_ret2
  exact ⟨rfl, rfl⟩
theorem len_nil (w : World) : Calls Try.prog 26 #[.pointer none] w fun e w' => e = .returned (.int .i64 0) ∧ w = w' := by
  go_enter Try.func26, Try.ntmps26
  go_wp2
  go_ret
  exact ⟨rfl, rfl⟩
theorem room_nil (w : World) : Calls Try.prog 27 #[.pointer none] w fun e w' => e = .returned (.int .i64 0) ∧ w = w' := by
  go_enter Try.func27, Try.ntmps27
  go_wp2
  go_ret
  exact ⟨rfl, rfl⟩
theorem chunks_nil (w : World) : Calls Try.prog 28 #[.pointer none] w fun e w' => e = .returned (.int .i64 0) ∧ w = w' := by
  go_enter Try.func28, Try.ntmps28
  go_wp2
  go_ret
  exact ⟨rfl, rfl⟩
theorem len_raw (b t f cap : Nat) (A : Option Addr) (w : World) (hf : f ≤ t) (ht : t ≤ 65536) (h2 : w.cell? ⟨b, 2, none⟩ = some (.int .i64 (t : Int))) (h4 : w.cell? ⟨b, 4, none⟩ = some (.slice A f cap)) :
    Calls Try.prog 26 #[.pointer (some ⟨b, 0, none⟩)] w fun e w' => e = .returned (.int .i64 ((t - f : Nat) : Int)) ∧ ∃ q, w' = w.drewN q := by
  go_enter Try.func26, Try.ntmps26
  go_wp2
  go_quiet (fail)
  go_wp2
  go_ret
  exact ⟨ret_int (Int.ofNat_sub hf).symm, _, rfl⟩
theorem quiet_drew {P : Program} {f : FuncId} {args : Array Value} {w : World} {n : Nat} {v : Value}
    (h : Calls P f args (w.drewN n) fun e w' => e = .returned v ∧ ∃ q, w' = (w.drewN n).drewN q) : Calls P f args (w.drewN n) fun e w'' => e = .returned v ∧ ∃ m, w'' = w.drewN m :=
  h.mono fun _ _ ⟨he, q, hm⟩ => ⟨he, n + q, by rw [hm, World.drewN_drewN]⟩
theorem room_raw (b m t f cap : Nat) (A : Option Addr) (w : World) (hf : f ≤ t) (ht : t ≤ m) (hm : m ≤ 65536) (h0 : w.cell? ⟨b, 0, none⟩ = some (.int .i64 (m : Int))) (h2 : w.cell? ⟨b, 2, none⟩ = some (.int .i64 (t : Int))) (h4 : w.cell? ⟨b, 4, none⟩ = some (.slice A f cap)) :
    Calls Try.prog 27 #[.pointer (some ⟨b, 0, none⟩)] w fun e w' => e = .returned (.int .i64 ((m - (t - f) : Nat) : Int)) ∧ ∃ q, w' = w.drewN q := by
  go_enter Try.func27, Try.ntmps27
  go_wp2
  go_quiet ((go_at_call 26; exact quiet_drew (len_raw b t f cap A _ hf (by omega) h2 h4)))
  go_wp2
  go_ret
  exact ⟨ret_int (by omega), _, rfl⟩
theorem chunks_raw (b n cap : Nat) (A : Option Addr) (w : World) (h3 : w.cell? ⟨b, 3, none⟩ = some (.slice A n cap)) :
    Calls Try.prog 28 #[.pointer (some ⟨b, 0, none⟩)] w fun e w' => e = .returned (.int .i64 (n : Int)) ∧ w = w' := by
  go_enter Try.func28, Try.ntmps28
  go_wp2
  go_ret
  exact ⟨rfl, rfl⟩
theorem spot_nil (p : Int) (w : World) : Calls Try.prog 37 #[.pointer none, .int .i32 p] w fun e w' => e = .returned (.pointer none) ∧ w = w' := by
  go_enter Try.func37, Try.ntmps37
  go_wp2
  go_ret
  exact ⟨rfl, rfl⟩
theorem spot_no (b t : Nat) (p : Int) (w : World) (h : p < 0 ∨ (t : Int) ≤ p) (hp : -2147483648 ≤ p ∧ p < 2147483648) (h2 : w.cell? ⟨b, 2, none⟩ = some (.int .i64 (t : Int))) :
    Calls Try.prog 37 #[.pointer (some ⟨b, 0, none⟩), .int .i32 p] w fun e w' => e = .returned (.pointer none) ∧ w = w' := by
  have hw : IntKind.i64.wrap p = p := by rw [IntKind.wrap_i64]; omega
  by_cases h1 : p < 0
  · have hd : decide (p < 0) = true := by simp; omega
    go_enter Try.func37, Try.ntmps37
    go_wp2
    go_ret
    exact ⟨rfl, rfl⟩
  · have hd : decide (p < 0) = false := by simp; omega
    have hd2 : decide ((t : Int) ≤ p) = true := by simp; omega
    go_enter Try.func37, Try.ntmps37
    go_wp2
    go_ret
    exact ⟨rfl, rfl⟩
theorem wrap_quo (p c : Nat) (h : p < 65536) : IntKind.i64.wrap ((p : Int).tdiv (c : Int)) = ((p / c : Nat) : Int) := by
  rw [Int.tdiv_eq_ediv_of_nonneg (by omega), ← Int.natCast_ediv, IntKind.wrap_i64]
  have := Nat.div_le_self p c
  generalize p / c = q at *
  omega
theorem wrap_quo' (p c : Nat) (h : p < 65536) : IntKind.i64.wrap ((p : Int) / (c : Int)) = ((p / c : Nat) : Int) := by
  rw [← wrap_quo p c h, Int.tdiv_eq_ediv_of_nonneg (by omega)]
theorem wrap_rem (p c : Nat) (h : p < 65536) : IntKind.i64.wrap ((p : Int).tmod (c : Int)) = ((p % c : Nat) : Int) := by
  rw [Int.tmod_eq_emod_of_nonneg (by omega), ← Int.natCast_emod, IntKind.wrap_i64]
  have := Nat.mod_le p c
  generalize p % c = q at *
  omega
theorem wrap_rem' (p c : Nat) (h : p < 65536) : IntKind.i64.wrap ((p : Int) % (c : Int)) = ((p % c : Nat) : Int) := by
  rw [← wrap_rem p c h, Int.tmod_eq_emod_of_nonneg (by omega)]
theorem tmod_nat (p c : Nat) : (p : Int).tmod (c : Int) = ((p % c : Nat) : Int) := by
  rw [Int.tmod_eq_emod_of_nonneg (by omega), ← Int.natCast_emod]
set_option maxHeartbeats 400000 in
theorem spot_raw (b t c p gC n capC dj lj cj : Nat) (w : World) (h : p < t) (ht : t ≤ 65536) (hc : 1 ≤ c) (hc6 : c ≤ 65536) (h1 : w.cell? ⟨b, 1, none⟩ = some (.int .i64 (c : Int))) (h2 : w.cell? ⟨b, 2, none⟩ = some (.int .i64 (t : Int)))
    (h3 : w.cell? ⟨b, 3, none⟩ = some (.slice (some ⟨gC, 0, none⟩) n capC)) (hn : p / c < n) (hr : w.cell? ⟨gC, p / c, none⟩ = some (.slice (some ⟨dj, 0, none⟩) lj cj)) (hl : p % c < lj) :
    Calls Try.prog 37 #[.pointer (some ⟨b, 0, none⟩), .int .i32 (p : Int)] w fun e w' => e = .returned (.pointer (some ⟨dj, p % c * 3, none⟩)) ∧ ∃ q, w' = w.drewN q := by
  have hd : decide ((p : Int) < 0) = false := by simp
  have hd2 : decide ((t : Int) ≤ (p : Int)) = false := by simp; omega
  have hz : ((c : Int) == 0) = false := beq_eq_false_iff_ne.2 (by omega)
  have hz2 : ¬ c = 0 := by omega
  have hz3 : ¬ (c : Int) = 0 := by omega
  have hq' := wrap_quo' p c (by omega)
  have hm' := tmod_nat p c
  generalize p / c = j at *
  generalize p % c = i at *
  go_enter Try.func37, Try.ntmps37
  go_wp2
  go_quiet (fail)
  go_wp2
  go_ret
  exact ⟨rfl, _, rfl⟩
end Go.Proofs.Ytoopfoapkbjdkaa
