/-
  Configs: which may be, their names, how many pages may be hot, how much less room.
-/
import Derived.Test.YtdchmpbmaeoeoaaDoorProg
import Derived.WalkKit
import Derived.BigCall
import Derived.BigGuard
import Derived.Lib.Hide
import Derived.Laws.ResultCell
namespace Go.Proofs.YtdchmpbmaeoeoaaDoor
open Go.RowKit

set_option linter.unusedVariables false
/-- a policy's name -/
def nm (p : Int) : List UInt8 := if p = 1 then [108, 105, 114, 115] else if p = 2 then [99, 108, 111, 99, 107] else if p = 3 then [108, 114, 117] else if p = 4 then [115, 101, 99, 111, 110, 100] else []
/-- the policy of a name -/
def pol (l : List UInt8) : Int := if l = nm 1 then 1 else if l = nm 2 then 2 else if l = nm 3 then 3 else if l = nm 4 then 4 else 0
def Mb (p c q g : Int) : Prop := (1 ≤ p ∧ p ≤ 4) ∧ (2 ≤ c ∧ c ≤ 256) ∧ (1 ≤ q ∧ q < c) ∧ (0 ≤ g ∧ g ≤ 512)
instance (p c q g : Int) : Decidable (Mb p c q g) := by unfold Mb; infer_instance
def ck (p c q g : Int) : Int := if Mb p c q g then 0 else 2
def ns (p : Int) : ByteArray := ⟨(nm p).toArray⟩
theorem ns_eq {p : Int} {x : ByteArray} : ns p = x ↔ nm p = x.data.toList := by
  constructor
  · rintro rfl; simp [ns]
  · intro h; rw [ns, h]
theorem name_at (p : Int) (w : World) : Calls Tryd.prog 12 #[.int .i64 p] w fun e w' => e = .returned (.string (ns p)) ∧ w' = w := by
  have hn : p = 1 ∨ p = 2 ∨ p = 3 ∨ p = 4 ∨ (p ≠ 1 ∧ p ≠ 2 ∧ p ≠ 3 ∧ p ≠ 4) := by omega
  rcases hn with rfl | rfl | rfl | rfl | ⟨h1, h2, h3, h4⟩
  · go_enter Tryd.func12, Tryd.ntmps12
    go_wp2
    go_ret
    exact ⟨rfl, rfl⟩
  · go_enter Tryd.func12, Tryd.ntmps12
    go_wp2
    go_ret
    exact ⟨rfl, rfl⟩
  · go_enter Tryd.func12, Tryd.ntmps12
    go_wp2
    go_ret
    exact ⟨rfl, rfl⟩
  · go_enter Tryd.func12, Tryd.ntmps12
    go_wp2
    go_ret
    exact ⟨rfl, rfl⟩
  · have e : ns p = ⟨#[]⟩ := by rw [ns, nm, if_neg h1, if_neg h2, if_neg h3, if_neg h4]
    rw [e]
    clear e
    go_enter Tryd.func12, Tryd.ntmps12
    go_wp2
    go_ret
    exact ⟨rfl, rfl⟩
theorem rname_at (p : Int) (w : World) : Calls Tryd.prog 13 #[.int .i64 p] w fun e w' => e = .returned (.string (ns p)) ∧ w' = w := by
  have hn : p = 1 ∨ p = 2 ∨ p = 3 ∨ p = 4 ∨ (p ≠ 1 ∧ p ≠ 2 ∧ p ≠ 3 ∧ p ≠ 4) := by omega
  rcases hn with rfl | rfl | rfl | rfl | ⟨h1, h2, h3, h4⟩
  · go_enter Tryd.func13, Tryd.ntmps13
    go_wp2
    go_ret
    exact ⟨rfl, rfl⟩
  · go_enter Tryd.func13, Tryd.ntmps13
    go_wp2
    go_ret
    exact ⟨rfl, rfl⟩
  · go_enter Tryd.func13, Tryd.ntmps13
    go_wp2
    go_ret
    exact ⟨rfl, rfl⟩
  · go_enter Tryd.func13, Tryd.ntmps13
    go_wp2
    go_ret
    exact ⟨rfl, rfl⟩
  · have e : ns p = ⟨#[]⟩ := by rw [ns, nm, if_neg h1, if_neg h2, if_neg h3, if_neg h4]
    rw [e]
    clear e
    go_enter Tryd.func13, Tryd.ntmps13
    go_wp2
    go_ret
    exact ⟨rfl, rfl⟩
theorem within_at (n a b : Int) (w : World) : Calls Tryd.prog 19 #[.int .i64 n, .int .i64 a, .int .i64 b] w fun e w' => e = .returned (.bool (decide (a ≤ n ∧ n ≤ b))) ∧ w' = w := by
  by_cases h1 : a ≤ n
  · by_cases h2 : n ≤ b
    · rw [decide_eq_true (And.intro h1 h2)]
      go_enter Tryd.func19, Tryd.ntmps19
      go_wp2
      go_ret
      exact ⟨rfl, rfl⟩
    · rw [decide_eq_false (fun h => h2 h.2)]
      go_enter Tryd.func19, Tryd.ntmps19
      go_wp2
      go_ret
      exact ⟨rfl, rfl⟩
  · rw [decide_eq_false (fun h => h1 h.1)]
    go_enter Tryd.func19, Tryd.ntmps19
    go_wp2
    go_ret
    exact ⟨rfl, rfl⟩
end Go.Proofs.YtdchmpbmaeoeoaaDoor
