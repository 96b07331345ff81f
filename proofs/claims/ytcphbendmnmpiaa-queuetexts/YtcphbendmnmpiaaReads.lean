/-
  What a queue tells of itself: Len, Total, a place in the ring, At; a new one.
-/
import Derived.Test.YtcphbendmnmpiaaChecked
import Derived.Test.YtcphbendmnmpiaaMem
namespace Go.Proofs.Ytcphbendmnmpiaa
open Go.ChangeShapes Go.WideShapes Go.ChangeAt Go.RowKit
set_option linter.unusedVariables false
set_option maxRecDepth 100000

theorem quiet_drew {P : Program} {f : FuncId} {args : Array Value} {w : World} {n : Nat} {v : Value}
    (h : Calls P f args (w.drewN n) fun e w' => e = .returned v ∧ ∃ q, w' = (w.drewN n).drewN q) : Calls P f args (w.drewN n) fun e w'' => e = .returned v ∧ ∃ m, w'' = w.drewN m :=
  h.mono fun _ _ ⟨he, q, hm⟩ => ⟨he, n + q, by rw [hm, World.drewN_drewN]⟩
section
variable {w : World} {lo b : Nat} {og : Option Nat} {g : Nat} {Q : Qu} {l : List Value}
theorem len_at (x : QAt 54 2 w lo b og Q) : Calls Try.prog 15 #[.pointer (some ⟨b, 0, none⟩)] w fun e w' => e = .returned (.int .i64 (Q.cnt : Int)) ∧ w = w' := by
  have c := x.c3
  go_enter Try.func15, Try.ntmps15
  go_wp2
  go_ret
  exact ⟨rfl, rfl⟩
theorem len_nil (w : World) : Calls Try.prog 15 #[.pointer none] w fun e w' => e = .returned (.int .i64 0) ∧ w = w' := by
  go_enter Try.func15, Try.ntmps15
  go_wp2
  go_ret
  exact ⟨rfl, rfl⟩
theorem total_at (x : QAt 54 2 w lo b og Q) : Calls Try.prog 16 #[.pointer (some ⟨b, 0, none⟩)] w fun e w' => e = .returned (.int .u64 (Q.tot : Int)) ∧ w = w' := by
  have c := x.c4
  go_enter Try.func16, Try.ntmps16
  go_wp2
  go_ret
  exact ⟨rfl, rfl⟩
theorem total_nil (w : World) : Calls Try.prog 16 #[.pointer none] w fun e w' => e = .returned (.int .u64 0) ∧ w = w' := by
  go_enter Try.func16, Try.ntmps16
  go_wp2
  go_ret
  exact ⟨rfl, rfl⟩
set_option maxHeartbeats 1000000 in
theorem spot_at (x : QAt 54 2 w lo b (some g) Q) (h6 : Q.R.length ≤ 65536) (hf : Q.first < Q.R.length) (p : Nat) (hp : p ≤ 65536) :
    Calls Try.prog 21 #[.pointer (some ⟨b, 0, none⟩), .int .i64 (p : Int)] w fun e w' => e = .returned (.int .i64 (((Q.first + p) % Q.R.length : Nat) : Int)) ∧ ∃ q, w' = w.drewN q := by
  have c1 := x.c1
  have c2 := x.c2
  unfold ringV at c1
  obtain ⟨n, hn⟩ : ∃ n, Q.R.length = n := ⟨_, rfl⟩
  obtain ⟨f, hq⟩ : ∃ f, Q.first = f := ⟨_, rfl⟩
  rw [hn] at c1 h6 hf ⊢
  rw [hq] at c2 hf ⊢
  obtain ⟨r, hr⟩ : ∃ r, (f + p) % n = r := ⟨_, rfl⟩
  have e1 : ((f : Int) + (p : Int)) % (n : Int) = (r : Int) := by rw [← hr, Int.natCast_emod, Int.natCast_add]
  have k0 : ¬ (n : Int) = 0 := by omega
  have k1 : (0 : Int) ≤ (f : Int) + (p : Int) := by omega
  rw [hr]
  clear x hn hq hr
  go_enter Try.func21, Try.ntmps21
  go_wp2_with fail
  go_quiet (fail)
  go_wp2
  rw [e1]
  go_ret
  exact ⟨rfl, nq, rfl⟩
theorem new_bad (m : Int) (h : m < 1 ∨ 65536 < m) (w : World) : Calls Try.prog 8 #[.int .i64 m] w fun e w' => e = .returned (.tuple #[.pointer none, .int .i64 1]) ∧ w = w' := by
  by_cases h1 : m < 1
  · go_enter Try.func8, Try.ntmps8
    go_wp2
    go_ret2
    exact ⟨rfl, rfl⟩
  · have h2 : 65536 < m := by omega
    clear h
    go_enter Try.func8, Try.ntmps8
    go_wp2
    go_ret2
    exact ⟨rfl, rfl⟩
/-- a queue, with all that it has -/
def IsQ (w : World) (lo b : Nat) (og : Option Nat) (l : List Value) (most tot : Nat) : Prop := ∃ Q, QAt 54 2 w lo b og Q ∧ Has Q l ∧ Q.most = most ∧ Q.tot = tot
theorem new_at (m : Nat) (h1 : 1 ≤ m) (h2 : m ≤ 65536) (w : World) : Calls Try.prog 8 #[.int .i64 (m : Int)] w fun e w' => e = .returned (.tuple #[.pointer (some ⟨w.heap.size, 0, none⟩), .int .i64 0]) ∧ w.grownBy w' none ∧ IsQ w' w.heap.size w.heap.size none [] m 0 := by
  have k1 : ¬ (m : Int) < 1 := by omega
  have k2 : ¬ (65536 : Int) < (m : Int) := by omega
  have HFin : Hid (IsQ (w.alloc (.cells #[.int .i64 (m : Int), .slice none 0 0, .int .i64 0, .int .i64 0, .int .u64 0] 54)) w.heap.size w.heap.size none [] m 0) := Lib.hid
    ⟨⟨m, [], 0, 0, 0⟩, ⟨by decide, Nat.le_refl _, heap_alloc_new w _, fun _ e => (by cases e), fun _ => rfl, fun _ e => (by cases e)⟩, has_new h1 h2, rfl, rfl⟩
  go_enter Try.func8, Try.ntmps8
  go_wp2
  go_ret2
  exact ⟨rfl, World.grownBy_alloc _ _ none, HFin.out⟩
/-- At of a thing that is there -/
theorem at_yes (x : QAt 54 2 w lo b (some g) Q) (hh : Has Q l) {i : Nat} {v : Value} (hv : l[i]? = some v) :
    Calls Try.prog 12 #[.pointer (some ⟨b, 0, none⟩), .int .i64 (i : Int)] w fun e w' => e = .returned (.tuple #[v, .bool true]) ∧ ∃ q, w' = w.drewN q := by
  have hi : i < l.length := (List.getElem?_eq_some_iff.1 hv).1
  obtain ⟨hf, hg⟩ := hh.get hi
  have h1 := hh.room
  have h2 := hh.m2
  have h3 := hh.cnt
  have h4 := hh.fits
  rw [hv] at hg
  have hcell := x.rc ((Q.first + i) % Q.R.length)
  rw [hg] at hcell
  have c1 := x.c1
  unfold ringV at c1
  have HL := Lib.hid (len_at x)
  have HS := Lib.hid (fun q => spot_at (x.kept (grown_drewN w q none)) (by omega) hf i (by omega))
  have hlt : (Q.first + i) % Q.R.length < Q.R.length := Nat.mod_lt _ (by omega)
  obtain ⟨n, hn⟩ : ∃ n, Q.R.length = n := ⟨_, rfl⟩
  obtain ⟨r, hr⟩ : ∃ r, (Q.first + i) % Q.R.length = r := ⟨_, rfl⟩
  obtain ⟨c, hc⟩ : ∃ c, Q.cnt = c := ⟨_, rfl⟩
  rw [hr] at hlt HS hcell
  rw [hn] at c1 hlt
  rw [hc] at HL
  have k0 : ¬ (i : Int) < 0 := by omega
  have k1 : ¬ (c : Int) ≤ (i : Int) := by omega
  clear hi hv h1 h2 h3 h4 hg hh hf hn hr hc x
  go_enter Try.func12, Try.ntmps12
  go_wp2_with (go_at_call 15; refine HL.out.mono ?_; rintro e w' ⟨rfl, rfl⟩)
  go_quiet (first | (go_at_call 21; exact quiet_drew (HS.out _)))
  go_wp2
  go_ret2
  exact ⟨rfl, nq, rfl⟩
theorem at_no (x : QAt 54 2 w lo b og Q) (hh : Has Q l) {i : Int} (hi : i < 0 ∨ (l.length : Int) ≤ i) :
    Calls Try.prog 12 #[.pointer (some ⟨b, 0, none⟩), .int .i64 i] w fun e w' => e = .returned (.tuple #[.int .i64 0, .bool false]) ∧ w.grownBy w' none := by
  have h3 := hh.cnt
  have HL := Lib.hid (len_at x)
  obtain ⟨c, hc⟩ : ∃ c, Q.cnt = c := ⟨_, rfl⟩
  rw [hc] at HL
  by_cases h0 : i < 0
  · clear hi h3 hc hh x
    go_enter Try.func12, Try.ntmps12
    go_wp2_with (go_at_call 15; refine HL.out.mono ?_; rintro e w' ⟨rfl, rfl⟩)
    go_ret2
    exact ⟨rfl, World.grownBy_alloc _ _ none⟩
  · have h1 : (c : Int) ≤ i := by omega
    clear hi h3 hc hh x
    go_enter Try.func12, Try.ntmps12
    go_wp2_with (go_at_call 15; refine HL.out.mono ?_; rintro e w' ⟨rfl, rfl⟩)
    go_ret2
    exact ⟨rfl, World.grownBy_alloc _ _ none⟩
theorem at_nil (i : Int) (w : World) : Calls Try.prog 12 #[.pointer none, .int .i64 i] w fun e w' => e = .returned (.tuple #[.int .i64 0, .bool false]) ∧ w.grownBy w' none := by
  by_cases h0 : i < 0
  · go_enter Try.func12, Try.ntmps12
    go_wp2_with (go_at_call 15; refine (len_nil _).mono ?_; rintro e w' ⟨rfl, rfl⟩)
    go_ret2
    exact ⟨rfl, World.grownBy_alloc _ _ none⟩
  · have h1 : 0 ≤ i := by omega
    go_enter Try.func12, Try.ntmps12
    go_wp2_with (go_at_call 15; refine (len_nil _).mono ?_; rintro e w' ⟨rfl, rfl⟩)
    go_ret2
    exact ⟨rfl, World.grownBy_alloc _ _ none⟩
end
end Go.Proofs.Ytcphbendmnmpiaa
