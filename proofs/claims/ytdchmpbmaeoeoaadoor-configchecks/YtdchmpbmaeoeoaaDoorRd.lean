/-
  A config read out of four words: the program's read.
-/
import Derived.Test.YtdchmpbmaeoeoaaDoorFld
import Derived.Test.YtdchmpbmaeoeoaaDoorDRefRI
import Derived.Test.YtdchmpbmaeoeoaaDoorDWords
namespace Go.Proofs.YtdchmpbmaeoeoaaDoor
open Go.Shelf Go.RowKit Go.Sort
open Go.Lib hiding intOf
set_option linter.unusedVariables false
def nd (o : Option Int) : Int := o.getD 0
theorem tupI_nd (o : Option Int) : tupI o = .tuple #[.int .i64 (nd o), .bool o.isSome] := by cases o <;> rfl
def ok4 (a0 a1 a2 a3 : List UInt8) : Bool := decide (pol a0 ≠ 0) && ((rdi a1).isSome && ((rdi a2).isSome && (rdi a3).isSome))
def dw (a0 a1 a2 a3 : List UInt8) : List Int := [pol a0, nd (rdi a1), nd (rdi a2), nd (rdi a3)]
def okw : List (List UInt8) → Bool
  | [a0, a1, a2, a3] => ok4 a0 a1 a2 a3
  | _ => false
def dr : List (List UInt8) → List Int
  | [a0, a1, a2, a3] => dw a0 a1 a2 a3
  | _ => zs
theorem dr_len (ws : List (List UInt8)) : (dr ws).length = 4 := by unfold dr; split <;> rfl
theorem four_of {ws : List (List UInt8)} (h : ws.length = 4) : ∃ a0 a1 a2 a3, ws = [a0, a1, a2, a3] := by
  match ws, h with
  | [a0, a1, a2, a3], _ => exact ⟨a0, a1, a2, a3, rfl⟩
theorem not_four {ws : List (List UInt8)} (h : ws.length ≠ 4) : okw ws = false ∧ dr ws = zs := by
  unfold okw dr
  split
  · exact absurd rfl h
  · exact ⟨rfl, rfl⟩
set_option maxHeartbeats 1000000 in
set_option maxRecDepth 100000 in
theorem read4_at (ws : List (List UInt8)) (A : Option Addr) (n cap : Nat) (hn : n = ws.length) (hsz : ∀ i, (mkS (ws.getD i [])).size ≤ 1000000) (w : World) (hS : SRow w A ws) (he : Env w) :
    Calls Tryd.prog 20 #[.slice A n cap] w fun e w' => e = .returned (.tuple #[cv (dr ws), .bool (okw ws)]) ∧ Below w.heap.size w w' := by
  have hR := row_alloc w zs
  have q1 := alloc_below w (.cells (ca zs) 24)
  have hS1 := hS.kept q1
  have hE1 := he.kept q1
  have hs1 : (w.alloc (.cells (ca zs) 24)).heap.size = w.heap.size + 1 := by simp
  obtain ⟨w1, hw1⟩ : ∃ w1, w1 = w.alloc (.cells (ca zs) 24) := ⟨_, rfl⟩
  rw [← hw1] at hR q1 hS1 hE1 hs1
  have HW := Lib.hid hw1
  by_cases h4 : n = 4
  · subst h4
    obtain ⟨a0, a1, a2, a3, rfl⟩ := four_of hn.symm
    obtain ⟨b, off, rfl, hb, c0, c1, c2, c3⟩ := hS1.four
    obtain ⟨x0, hx0⟩ : ∃ x, x = mkS a0 := ⟨_, rfl⟩
    obtain ⟨x1, hx1⟩ : ∃ x, x = mkS a1 := ⟨_, rfl⟩
    obtain ⟨x2, hx2⟩ : ∃ x, x = mkS a2 := ⟨_, rfl⟩
    obtain ⟨x3, hx3⟩ : ∃ x, x = mkS a3 := ⟨_, rfl⟩
    have P8 : Hid (∀ V, Calls Tryd.prog 8 #[.string x0] V fun e w' => e = .returned (.tuple #[.int .i64 (pol a0), .bool (decide (pol a0 ≠ 0))]) ∧ w' = V) := Lib.hid (fun V => by
      have := policy_at x0 V
      rw [hx0, mkS_list] at this
      rw [hx0]
      exact this)
    have R1 : Hid (∀ V, Env V → Calls Tryd.prog 27 #[.string x1] V fun e w' => e = .returned (.tuple #[.int .i64 (nd (rdi a1)), .bool (rdi a1).isSome]) ∧ Below V.heap.size V w') := Lib.hid (fun V hV => by
      have := readInt_at x1 (by rw [hx1]; exact hsz 1) V hV
      rw [hx1, mkS_list, tupI_nd] at this
      rw [hx1]
      exact this)
    have R2 : Hid (∀ V, Env V → Calls Tryd.prog 27 #[.string x2] V fun e w' => e = .returned (.tuple #[.int .i64 (nd (rdi a2)), .bool (rdi a2).isSome]) ∧ Below V.heap.size V w') := Lib.hid (fun V hV => by
      have := readInt_at x2 (by rw [hx2]; exact hsz 2) V hV
      rw [hx2, mkS_list, tupI_nd] at this
      rw [hx2]
      exact this)
    have R3 : Hid (∀ V, Env V → Calls Tryd.prog 27 #[.string x3] V fun e w' => e = .returned (.tuple #[.int .i64 (nd (rdi a3)), .bool (rdi a3).isSome]) ∧ Below V.heap.size V w') := Lib.hid (fun V hV => by
      have := readInt_at x3 (by rw [hx3]; exact hsz 3) V hV
      rw [hx3, mkS_list, tupI_nd] at this
      rw [hx3]
      exact this)
    obtain ⟨r0, hr0⟩ : ∃ r, r = pol a0 := ⟨_, rfl⟩
    obtain ⟨b0, hb0⟩ : ∃ r, r = decide (pol a0 ≠ 0) := ⟨_, rfl⟩
    obtain ⟨r1, hr1⟩ : ∃ r, r = nd (rdi a1) := ⟨_, rfl⟩
    obtain ⟨b1, hb1⟩ : ∃ r, r = (rdi a1).isSome := ⟨_, rfl⟩
    obtain ⟨r2, hr2⟩ : ∃ r, r = nd (rdi a2) := ⟨_, rfl⟩
    obtain ⟨b2, hb2⟩ : ∃ r, r = (rdi a2).isSome := ⟨_, rfl⟩
    obtain ⟨r3, hr3⟩ : ∃ r, r = nd (rdi a3) := ⟨_, rfl⟩
    obtain ⟨b3, hb3⟩ : ∃ r, r = (rdi a3).isSome := ⟨_, rfl⟩
    have hD : dr [a0, a1, a2, a3] = [r0, r1, r2, r3] := by rw [hr0, hr1, hr2, hr3]; rfl
    have hO : okw [a0, a1, a2, a3] = (b0 && (b1 && (b2 && b3))) := by rw [hb0, hb1, hb2, hb3]; rfl
    rw [hD, hO]
    rw [← hb0, ← hr0] at P8
    rw [← hb1, ← hr1] at R1
    rw [← hb2, ← hr2] at R2
    rw [← hb3, ← hr3] at R3
    rw [← hx0] at c0
    rw [← hx1] at c1
    rw [← hx2] at c2
    rw [← hx3] at c3
    have H1 := Lib.hid (And.intro hR (And.intro q1 hE1))
    have HC := Lib.hid (And.intro c2 (And.intro c3 hb))
    clear hx0 hx1 hx2 hx3 hr0 hr1 hr2 hr3 hb0 hb1 hb2 hb3 hD hO hR q1 hS1 hE1 hs1 hw1 hS he hn hsz c2 c3
    have hA : w.alloc (.cells #[.int .i64 0, .int .i64 0, .int .i64 0, .int .i64 0] 24) = w1 := HW.out.symm
    rw [← hA] at c0
    have HA := Lib.hid hA
    clear hA
    go_enter Tryd.func20, Tryd.ntmps20
    go_wp2_with fail
    rw [HA.out]
    clear c0
    refine (P8.out _).mono ?_
    rintro e w2 ⟨rfl, h2⟩
    subst h2
    go_wp2_with fail
    refine (R1.out _ H1.out.2.2).mono ?_
    rintro e w3 ⟨rfl, hb3⟩
    have hR3 := H1.out.1.kept hb3 H1.out.1.lt
    have q3 := H1.out.2.1.trans (hb3.mono H1.out.2.1.size)
    have hE3 := H1.out.2.2.kept hb3
    have c2 := (hb3.cell (p := ⟨b, off + 2, none⟩) (by exact HC.out.2.2)).trans HC.out.1
    have c3 := (hb3.cell (p := ⟨b, off + 3, none⟩) (by exact HC.out.2.2)).trans HC.out.2.1
    have HC3 := Lib.hid (And.intro c3 (show b < w3.heap.size from Nat.lt_of_lt_of_le HC.out.2.2 hb3.size))
    have H3 := Lib.hid (And.intro hR3 (And.intro q3 hE3))
    clear c1 c3 hb hb3 hR3 q3 hE3 H1 HC R1 P8
    go_wp2_with fail
    refine (R2.out _ H3.out.2.2).mono ?_
    rintro e w4 ⟨rfl, hb4⟩
    have hR4 := H3.out.1.kept hb4 H3.out.1.lt
    have q4 := H3.out.2.1.trans (hb4.mono H3.out.2.1.size)
    have hE4 := H3.out.2.2.kept hb4
    have c3 := (hb4.cell (p := ⟨b, off + 3, none⟩) (by exact HC3.out.2)).trans HC3.out.1
    have H4 := Lib.hid (And.intro hR4 (And.intro q4 hE4))
    clear c2 hb4 hR4 q4 hE4 H3 HC3 R2
    go_wp2_with fail
    refine (R3.out _ H4.out.2.2).mono ?_
    rintro e w5 ⟨rfl, hb5⟩
    have hR5 := H4.out.1.kept hb5 H4.out.1.lt
    have q5 := H4.out.2.1.trans (hb5.mono H4.out.2.1.size)
    have hb6 := alloc_below w5 (.cells (ca [r0, r1, r2, r3]) 24)
    have hR6 := hR5.kept hb6 hR5.lt
    have hC6 := row_alloc w5 [r0, r1, r2, r3]
    have q6 := q5.trans (hb6.mono q5.size)
    obtain ⟨w6, hw6⟩ : ∃ w6, w6 = w5.alloc (.cells (ca [r0, r1, r2, r3]) 24) := ⟨_, rfl⟩
    obtain ⟨g, hg⟩ : ∃ g, g = w5.heap.size := ⟨_, rfl⟩
    rw [← hw6] at hR6 hC6 q6
    rw [← hg] at hC6
    have H6 := Lib.hid (And.intro hR6 (And.intro hC6 q6))
    have HW6 := Lib.hid (And.intro hw6 hg)
    clear c3 hb5 hR5 q5 hb6 hR6 hC6 q6 hw6 hg H4 R3
    cases b0 with
    | false =>
      go_wp2_with (first | fail | (refine st24n rfl (.tmp 12) (.tmp 49) rfl [r0, r1, r2, r3] rfl rfl rfl _ rfl ?_; rw [← HW6.out.1, ← HW6.out.2]) | refine ld24 rfl (.tmp 12) rfl _ rfl _ H6.out.2.1 rfl ?_ | refine st24 rfl (.tmp 2) (.tmp 50) rfl _ _ rfl rfl _ H6.out.1 rfl rfl ?_)
      refine bodyPost_ret (results_cnt2 rfl _ _ _ _ rfl H6.out.1.rowSet rfl) rfl ?_
      exact ⟨rfl, below_setRow H6.out.2.2 (Nat.le_refl _)⟩
    | true =>
      cases b1 with
      | false =>
        go_wp2_with (first | fail | (refine st24n rfl (.tmp 12) (.tmp 49) rfl [r0, r1, r2, r3] rfl rfl rfl _ rfl ?_; rw [← HW6.out.1, ← HW6.out.2]) | refine ld24 rfl (.tmp 12) rfl _ rfl _ H6.out.2.1 rfl ?_ | refine st24 rfl (.tmp 2) (.tmp 50) rfl _ _ rfl rfl _ H6.out.1 rfl rfl ?_)
        refine bodyPost_ret (results_cnt2 rfl _ _ _ _ rfl H6.out.1.rowSet rfl) rfl ?_
        exact ⟨rfl, below_setRow H6.out.2.2 (Nat.le_refl _)⟩
      | true =>
        cases b2 with
        | false =>
          go_wp2_with (first | fail | (refine st24n rfl (.tmp 12) (.tmp 49) rfl [r0, r1, r2, r3] rfl rfl rfl _ rfl ?_; rw [← HW6.out.1, ← HW6.out.2]) | refine ld24 rfl (.tmp 12) rfl _ rfl _ H6.out.2.1 rfl ?_ | refine st24 rfl (.tmp 2) (.tmp 50) rfl _ _ rfl rfl _ H6.out.1 rfl rfl ?_)
          refine bodyPost_ret (results_cnt2 rfl _ _ _ _ rfl H6.out.1.rowSet rfl) rfl ?_
          exact ⟨rfl, below_setRow H6.out.2.2 (Nat.le_refl _)⟩
        | true =>
          cases b3 with
          | false =>
            go_wp2_with (first | fail | (refine st24n rfl (.tmp 12) (.tmp 49) rfl [r0, r1, r2, r3] rfl rfl rfl _ rfl ?_; rw [← HW6.out.1, ← HW6.out.2]) | refine ld24 rfl (.tmp 12) rfl _ rfl _ H6.out.2.1 rfl ?_ | refine st24 rfl (.tmp 2) (.tmp 50) rfl _ _ rfl rfl _ H6.out.1 rfl rfl ?_)
            refine bodyPost_ret (results_cnt2 rfl _ _ _ _ rfl H6.out.1.rowSet rfl) rfl ?_
            exact ⟨rfl, below_setRow H6.out.2.2 (Nat.le_refl _)⟩
          | true =>
            go_wp2_with (first | fail | (refine st24n rfl (.tmp 12) (.tmp 49) rfl [r0, r1, r2, r3] rfl rfl rfl _ rfl ?_; rw [← HW6.out.1, ← HW6.out.2]) | refine ld24 rfl (.tmp 12) rfl _ rfl _ H6.out.2.1 rfl ?_ | refine st24 rfl (.tmp 2) (.tmp 50) rfl _ _ rfl rfl _ H6.out.1 rfl rfl ?_)
            refine bodyPost_ret (results_cnt2 rfl _ _ _ _ rfl H6.out.1.rowSet rfl) rfl ?_
            exact ⟨rfl, below_setRow H6.out.2.2 (Nat.le_refl _)⟩
  · obtain ⟨e1, e2⟩ := not_four (ws := ws) (fun e => h4 (hn.trans e))
    rw [e1, e2]
    have hne : ¬ (n : Int) = 4 := by omega
    have H1 := Lib.hid (And.intro hR (And.intro q1 hE1))
    clear e1 e2 hn hsz hS he hS1 hE1 hR q1 hs1 hw1 h4
    go_enter Tryd.func20, Tryd.ntmps20
    go_wp2_with (first | fail | (refine st24n rfl (.tmp 2) (.tmp 16) rfl zs rfl rfl rfl _ rfl ?_; rw [← HW.out]))
    refine bodyPost_ret (results_cnt2 rfl _ _ _ _ rfl H1.out.1 rfl) rfl ?_
    exact ⟨rfl, H1.out.2.1⟩
end Go.Proofs.YtdchmpbmaeoeoaaDoor
