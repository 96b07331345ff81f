/-
  The document's states: the pages are as they should be.
-/
import Derived.Test.YtifenpmkbnohhaaG04
import Derived.Test.YtifenpmkbnohhaaG03
namespace Go.Proofs.Ytifenpmkbnohhaa
open Go.RowKit
open Go.Proofs.StackM
set_option linter.unusedVariables false
def Pk (s : St) (p : Pg) : Prop := p.test = false ∧ p.mark = false ∧ (p.kind = 1 ∨ p.kind = 2 ∨ p.kind = 3) ∧ (p.key ∈ s.qu ↔ p.kind = 2) ∧ (p.key ∈ s.gh ↔ p.kind = 3)
def PgOk (s : St) : Prop := (∀ j (h : j < s.pg.length), Pk s s.pg[j]) ∧ Bt s
open Classical in
noncomputable def pgB (s : St) : Bool := decide (PgOk s)
theorem pgB_false {s : St} (h : ¬ PgOk s) : pgB s = false := by simp [pgB, h]
theorem pgB_true {s : St} (h : PgOk s) : pgB s = true := by simp [pgB, h]
set_option maxHeartbeats 2000000 in
set_option maxRecDepth 100000 in
theorem pages_at (s : St) (r : R3) (hl : Lim s 100000) (w : World) (hr : SR w s r) : Calls Try.prog 29 #[sV s r] w fun e w' => e = .returned (.bool (pgB s)) ∧ Below w.heap.size w w' := by
  have x := Fr.start1 hr
  obtain ⟨w1, hw1⟩ : ∃ w1, w1 = w.alloc (.cells (sA s r) 31) := ⟨_, rfl⟩
  rw [← hw1] at x
  obtain ⟨rb, hrb⟩ : ∃ b, b = pgB s := ⟨_, rfl⟩
  rw [← hrb]
  obtain ⟨n, hn⟩ : ∃ n, n = s.pg.length := ⟨_, rfl⟩
  have hnl : n ≤ 100000 := by rw [hn]; exact hl.1
  have HW0 := Lib.hid hw1
  have HR := Lib.hid hrb
  have HX := Lib.hid x
  have HN := Lib.hid hn
  have HL := Lib.hid hl
  clear x hw1 hrb hn hl hr
  go_enter Try.func29, Try.ntmps29
  go_wp2_with fail
  rw [← HW0.out]
  go_loopw [3] (fun i wr => ∃ k : Nat, k ≤ n ∧ i = .int .i64 (k : Int) ∧ Hid (Fr w (w.heap.size + 1) r wr w.heap.size s r) ∧ Hid (∀ j (h1 : j < k) (h : j < s.pg.length), Pk s s.pg[j])) (fun i _ => n - (intOf i).toNat)
  case atStart => exact ⟨0, by omega, by go_num, HX, Lib.hid (fun j h1 => absurd h1 (by omega))⟩
  case round =>
    obtain ⟨k, hk, rfl, HF, HK⟩ := hrel
    have d5 := at5 HF.out.box
    rw [← HN.out] at d5
    by_cases hlt : k < n
    · have hkl : k < s.pg.length := by have := HN.out; omega
      obtain ⟨b, off, ha, hc⟩ := HF.out.rows.pg.row.at hkl
      obtain ⟨c0, c1, c2, c3⟩ := hc k hkl
      rw [ha] at d5
      obtain ⟨y, hy⟩ : ∃ y, y = s.pg[k] := ⟨_, rfl⟩
      rw [← hy] at c0 c1 c2 c3
      obtain ⟨p0, p1, p2, p3⟩ := y
      dsimp only at c0 c1 c2 c3
      have HY := Lib.hid hy
      have x1 := HF.out.keep (alloc_below wr (.cells #[.int .u64 p0, .int .i64 p1, .bool p2, .bool p3] 59))
      have a0 : (wr.alloc (.cells #[.int .u64 p0, .int .i64 p1, .bool p2, .bool p3] 59)).cell? ⟨wr.heap.size, 0, none⟩ = some (.int .u64 p0) := by rw [World.cell?_alloc_new]; rfl
      have a1 : (wr.alloc (.cells #[.int .u64 p0, .int .i64 p1, .bool p2, .bool p3] 59)).cell? ⟨wr.heap.size, 1, none⟩ = some (.int .i64 p1) := by rw [World.cell?_alloc_new]; rfl
      have a2 : (wr.alloc (.cells #[.int .u64 p0, .int .i64 p1, .bool p2, .bool p3] 59)).cell? ⟨wr.heap.size, 2, none⟩ = some (.bool p2) := by rw [World.cell?_alloc_new]; rfl
      have a3 : (wr.alloc (.cells #[.int .u64 p0, .int .i64 p1, .bool p2, .bool p3] 59)).cell? ⟨wr.heap.size, 3, none⟩ = some (.bool p3) := by rw [World.cell?_alloc_new]; rfl
      obtain ⟨w2, hw2⟩ : ∃ w2, w2 = wr.alloc (.cells #[.int .u64 p0, .int .i64 p1, .bool p2, .bool p3] 59) := ⟨_, rfl⟩
      obtain ⟨g, hg⟩ : ∃ g, g = wr.heap.size := ⟨_, rfl⟩
      have hgl0 : g < w2.heap.size := by rw [hg, hw2]; simp
      rw [← hw2] at x1 a0 a1 a2 a3
      rw [← hg] at a0 a1 a2 a3
      have HW := Lib.hid (And.intro hw2 hg)
      have H1 := Lib.hid x1
      clear hc hy x1 hw2 hg ha
      cases p2 with
      | true =>
        have HD : Hid (¬ Pk s s.pg[k]) := Lib.hid (by rw [← HY.out]; exact fun h => by cases h.1)
        have HE : Hid (rb = false) := Lib.hid (by rw [HR.out]; exact pgB_false (fun h => HD.out (h.1 k hkl)))
        clear a0 a1 a2 a3 hgl0
        go_wp2_with fail
        go_ret
        exact ⟨by rw [HE.out]; rfl, (HF.out.alloc _).bel⟩
      | false =>
        cases p3 with
        | true =>
          have HD : Hid (¬ Pk s s.pg[k]) := Lib.hid (by rw [← HY.out]; exact fun h => by cases h.2.1)
          have HE : Hid (rb = false) := Lib.hid (by rw [HR.out]; exact pgB_false (fun h => HD.out (h.1 k hkl)))
          clear a0 a1 a2 a3 hgl0
          go_wp2_with fail
          go_ret
          exact ⟨by rw [HE.out]; rfl, (HF.out.alloc _).bel⟩
        | false =>
          obtain ⟨q1, hq1⟩ : ∃ q, q = decide (p0 ∈ s.qu) := ⟨_, rfl⟩
          obtain ⟨q2, hq2⟩ : ∃ q, q = decide (p0 ∈ s.gh) := ⟨_, rfl⟩
          have g0 : ∀ W : GrB w2, W.v.cell? ⟨g, 0, none⟩ = some (.int .u64 p0) := fun W => by rw [W.h.cell (by exact hgl0)]; exact a0
          have g1 : ∀ W : GrB w2, W.v.cell? ⟨g, 1, none⟩ = some (.int .i64 p1) := fun W => by rw [W.h.cell (by exact hgl0)]; exact a1
          have x6 : ∀ W : GrB w2, W.v.cell? ⟨w.heap.size, 6, none⟩ = some (.slice r.a2 s.qu.length r.c2) := fun W => at6 (H1.out.keep W.h).box
          have x7 : ∀ W : GrB w2, W.v.cell? ⟨w.heap.size, 7, none⟩ = some (.slice r.a3 s.gh.length r.c3) := fun W => at7 (H1.out.keep W.h).box
          have C1 : Hid (∀ W : GrB w2, Calls Try.prog 55 #[.slice r.a2 s.qu.length r.c2, .int .u64 p0] W.v fun e w' => e = .returned (.bool q1) ∧ ∃ W' : GrB w2, w' = W'.v) := Lib.hid (grown_call (w := w2) fun V hV => (has_at s.qu p0 r.a2 s.qu.length r.c2 rfl (by have := HL.out.2.1; omega) V (H1.out.keep hV).rows.qu.row).mono fun e w' ⟨e1, e2⟩ => ⟨by rw [hq1]; exact e1, e2 ▸ Below.refl _ _⟩)
          have C2 : Hid (∀ W : GrB w2, Calls Try.prog 55 #[.slice r.a3 s.gh.length r.c3, .int .u64 p0] W.v fun e w' => e = .returned (.bool q2) ∧ ∃ W' : GrB w2, w' = W'.v) := Lib.hid (grown_call (w := w2) fun V hV => (has_at s.gh p0 r.a3 s.gh.length r.c3 rfl (by have := HL.out.2.2; omega) V (H1.out.keep hV).rows.gh.row).mono fun e w' ⟨e1, e2⟩ => ⟨by rw [hq2]; exact e1, e2 ▸ Below.refl _ _⟩)
          have HQ1 := Lib.hid hq1
          have HQ2 := Lib.hid hq2
          clear hq1 hq2 hgl0 a0 a1 a2 a3
          by_cases hk1 : p1 = 1
          · subst hk1
            cases q1 with
            | false =>
              cases q2 with
              | false =>
                have HS : Hid (Pk s s.pg[k]) := Lib.hid (by
                  rw [← HY.out]
                  refine ⟨rfl, rfl, .inl rfl, ?_, ?_⟩
                  · exact ⟨fun h => absurd h (of_decide_eq_false HQ1.out.symm), fun h => absurd h (show ¬ ((1 : Int) = 2) by decide)⟩
                  · exact ⟨fun h => absurd h (of_decide_eq_false HQ2.out.symm), fun h => absurd h (show ¬ ((1 : Int) = 3) by decide)⟩)
                go_wp2_with fail
                rw [← HW.out.1, ← HW.out.2]
                refine region_grown (by kernel_rfl) (by kernel_rfl) ?_
                repeat (go_big_quiet_step (first | (go_at_call 55; first | with_reducible exact C1.out _ | with_reducible exact C2.out _)))
                refine wpQuiet_nil ?_
                rintro w9 ⟨⟨w8, hgl⟩, rfl⟩
                clear g0 g1 x6 x7
                go_wp2_with fail
                go_round
                case rel => exact ⟨k + 1, by omega, by go_num, Lib.hid (H1.out.keep hgl), Lib.hid (fun j h1 h => by
                  rcases Nat.lt_succ_iff_lt_or_eq.1 h1 with h2 | rfl
                  · exact HK.out j h2 h
                  · exact HS.out)⟩
                case measure => simp only [intOf]; omega
              | true =>
                have HD : Hid (¬ Pk s s.pg[k]) := Lib.hid (by rw [← HY.out]; exact fun h => absurd (h.2.2.2.2.1 (of_decide_eq_true HQ2.out.symm)) (show ¬ ((1 : Int) = 3) by decide))
                have HE : Hid (rb = false) := Lib.hid (by rw [HR.out]; exact pgB_false (fun h => HD.out (h.1 k hkl)))
                go_wp2_with fail
                rw [← HW.out.1, ← HW.out.2]
                refine region_grown (by kernel_rfl) (by kernel_rfl) ?_
                repeat (go_big_quiet_step (first | (go_at_call 55; first | with_reducible exact C1.out _ | with_reducible exact C2.out _)))
                refine wpQuiet_nil ?_
                rintro w9 ⟨⟨w8, hgl⟩, rfl⟩
                clear g0 g1 x6 x7
                go_wp2_with fail
                go_ret
                exact ⟨by rw [HE.out]; rfl, (H1.out.keep hgl).bel⟩
            | true =>
              have HD : Hid (¬ Pk s s.pg[k]) := Lib.hid (by rw [← HY.out]; exact fun h => absurd (h.2.2.2.1.1 (of_decide_eq_true HQ1.out.symm)) (show ¬ ((1 : Int) = 2) by decide))
              have HE : Hid (rb = false) := Lib.hid (by rw [HR.out]; exact pgB_false (fun h => HD.out (h.1 k hkl)))
              go_wp2_with fail
              rw [← HW.out.1, ← HW.out.2]
              refine region_grown (by kernel_rfl) (by kernel_rfl) ?_
              repeat (go_big_quiet_step (first | (go_at_call 55; first | with_reducible exact C1.out _ | with_reducible exact C2.out _)))
              refine wpQuiet_nil ?_
              rintro w9 ⟨⟨w8, hgl⟩, rfl⟩
              clear g0 g1 x6 x7
              go_wp2_with fail
              go_ret
              exact ⟨by rw [HE.out]; rfl, (H1.out.keep hgl).bel⟩
          · by_cases hk2 : p1 = 2
            · subst hk2
              cases q1 with
              | false =>
                have HD : Hid (¬ Pk s s.pg[k]) := Lib.hid (by rw [← HY.out]; exact fun h => absurd (h.2.2.2.1.2 rfl) (of_decide_eq_false HQ1.out.symm))
                have HE : Hid (rb = false) := Lib.hid (by rw [HR.out]; exact pgB_false (fun h => HD.out (h.1 k hkl)))
                go_wp2_with fail
                rw [← HW.out.1, ← HW.out.2]
                refine region_grown (by kernel_rfl) (by kernel_rfl) ?_
                repeat (go_big_quiet_step (first | (go_at_call 55; first | with_reducible exact C1.out _ | with_reducible exact C2.out _)))
                refine wpQuiet_nil ?_
                rintro w9 ⟨⟨w8, hgl⟩, rfl⟩
                clear g0 g1 x6 x7
                go_wp2_with fail
                go_ret
                exact ⟨by rw [HE.out]; rfl, (H1.out.keep hgl).bel⟩
              | true =>
                cases q2 with
                | false =>
                  have HS : Hid (Pk s s.pg[k]) := Lib.hid (by
                    rw [← HY.out]
                    refine ⟨rfl, rfl, .inr (.inl rfl), ?_, ?_⟩
                    · exact ⟨fun h => rfl, fun h => of_decide_eq_true HQ1.out.symm⟩
                    · exact ⟨fun h => absurd h (of_decide_eq_false HQ2.out.symm), fun h => absurd h (show ¬ ((2 : Int) = 3) by decide)⟩)
                  go_wp2_with fail
                  rw [← HW.out.1, ← HW.out.2]
                  refine region_grown (by kernel_rfl) (by kernel_rfl) ?_
                  repeat (go_big_quiet_step (first | (go_at_call 55; first | with_reducible exact C1.out _ | with_reducible exact C2.out _)))
                  refine wpQuiet_nil ?_
                  rintro w9 ⟨⟨w8, hgl⟩, rfl⟩
                  clear g0 g1 x6 x7
                  go_wp2_with fail
                  go_round
                  case rel => exact ⟨k + 1, by omega, by go_num, Lib.hid (H1.out.keep hgl), Lib.hid (fun j h1 h => by
                    rcases Nat.lt_succ_iff_lt_or_eq.1 h1 with h2 | rfl
                    · exact HK.out j h2 h
                    · exact HS.out)⟩
                  case measure => simp only [intOf]; omega
                | true =>
                  have HD : Hid (¬ Pk s s.pg[k]) := Lib.hid (by rw [← HY.out]; exact fun h => absurd (h.2.2.2.2.1 (of_decide_eq_true HQ2.out.symm)) (show ¬ ((2 : Int) = 3) by decide))
                  have HE : Hid (rb = false) := Lib.hid (by rw [HR.out]; exact pgB_false (fun h => HD.out (h.1 k hkl)))
                  go_wp2_with fail
                  rw [← HW.out.1, ← HW.out.2]
                  refine region_grown (by kernel_rfl) (by kernel_rfl) ?_
                  repeat (go_big_quiet_step (first | (go_at_call 55; first | with_reducible exact C1.out _ | with_reducible exact C2.out _)))
                  refine wpQuiet_nil ?_
                  rintro w9 ⟨⟨w8, hgl⟩, rfl⟩
                  clear g0 g1 x6 x7
                  go_wp2_with fail
                  go_ret
                  exact ⟨by rw [HE.out]; rfl, (H1.out.keep hgl).bel⟩
            · by_cases hk3 : p1 = 3
              · subst hk3
                cases q1 with
                | false =>
                  cases q2 with
                  | false =>
                    have HD : Hid (¬ Pk s s.pg[k]) := Lib.hid (by rw [← HY.out]; exact fun h => absurd (h.2.2.2.2.2 rfl) (of_decide_eq_false HQ2.out.symm))
                    have HE : Hid (rb = false) := Lib.hid (by rw [HR.out]; exact pgB_false (fun h => HD.out (h.1 k hkl)))
                    go_wp2_with fail
                    rw [← HW.out.1, ← HW.out.2]
                    refine region_grown (by kernel_rfl) (by kernel_rfl) ?_
                    repeat (go_big_quiet_step (first | (go_at_call 55; first | with_reducible exact C1.out _ | with_reducible exact C2.out _)))
                    refine wpQuiet_nil ?_
                    rintro w9 ⟨⟨w8, hgl⟩, rfl⟩
                    clear g0 g1 x6 x7
                    go_wp2_with fail
                    go_ret
                    exact ⟨by rw [HE.out]; rfl, (H1.out.keep hgl).bel⟩
                  | true =>
                    have HS : Hid (Pk s s.pg[k]) := Lib.hid (by
                      rw [← HY.out]
                      refine ⟨rfl, rfl, .inr (.inr rfl), ?_, ?_⟩
                      · exact ⟨fun h => absurd h (of_decide_eq_false HQ1.out.symm), fun h => absurd h (show ¬ ((3 : Int) = 2) by decide)⟩
                      · exact ⟨fun h => rfl, fun h => of_decide_eq_true HQ2.out.symm⟩)
                    go_wp2_with fail
                    rw [← HW.out.1, ← HW.out.2]
                    refine region_grown (by kernel_rfl) (by kernel_rfl) ?_
                    repeat (go_big_quiet_step (first | (go_at_call 55; first | with_reducible exact C1.out _ | with_reducible exact C2.out _)))
                    refine wpQuiet_nil ?_
                    rintro w9 ⟨⟨w8, hgl⟩, rfl⟩
                    clear g0 g1 x6 x7
                    go_wp2_with fail
                    go_round
                    case rel => exact ⟨k + 1, by omega, by go_num, Lib.hid (H1.out.keep hgl), Lib.hid (fun j h1 h => by
                      rcases Nat.lt_succ_iff_lt_or_eq.1 h1 with h2 | rfl
                      · exact HK.out j h2 h
                      · exact HS.out)⟩
                    case measure => simp only [intOf]; omega
                | true =>
                  have HD : Hid (¬ Pk s s.pg[k]) := Lib.hid (by rw [← HY.out]; exact fun h => absurd (h.2.2.2.1.1 (of_decide_eq_true HQ1.out.symm)) (show ¬ ((3 : Int) = 2) by decide))
                  have HE : Hid (rb = false) := Lib.hid (by rw [HR.out]; exact pgB_false (fun h => HD.out (h.1 k hkl)))
                  go_wp2_with fail
                  rw [← HW.out.1, ← HW.out.2]
                  refine region_grown (by kernel_rfl) (by kernel_rfl) ?_
                  repeat (go_big_quiet_step (first | (go_at_call 55; first | with_reducible exact C1.out _ | with_reducible exact C2.out _)))
                  refine wpQuiet_nil ?_
                  rintro w9 ⟨⟨w8, hgl⟩, rfl⟩
                  clear g0 g1 x6 x7
                  go_wp2_with fail
                  go_ret
                  exact ⟨by rw [HE.out]; rfl, (H1.out.keep hgl).bel⟩
              · have HD : Hid (¬ Pk s s.pg[k]) := Lib.hid (by rw [← HY.out]; exact fun h => h.2.2.1.elim hk1 (fun h => h.elim hk2 hk3))
                have HE : Hid (rb = false) := Lib.hid (by rw [HR.out]; exact pgB_false (fun h => HD.out (h.1 k hkl)))
                have z1 : (p1 != 1) = true := by simpa using hk1
                have z2 : (p1 != 2) = true := by simpa using hk2
                have z3 : (p1 != 3) = true := by simpa using hk3
                clear g0 g1 x6 x7
                go_wp2_with fail
                go_ret
                exact ⟨by rw [HE.out]; rfl, (HF.out.alloc _).bel⟩
    · have hkn : k = n := by omega
      subst hkn
      have hall : ∀ j (h : j < s.pg.length), Pk s s.pg[j] := fun j h => HK.out j (by have := HN.out; omega) h
      cases hp : s.pg.getLast? with
      | none =>
        have hnil : s.pg = [] := List.getLast?_eq_none_iff.1 hp
        have hk0 : k = 0 := by rw [HN.out, hnil]; rfl
        have HE : Hid (rb = true) := Lib.hid (by rw [HR.out]; exact pgB_true ⟨hall, fun p h => by rw [hp] at h; cases h⟩)
        subst hk0
        clear hall hp hnil
        go_wp2
        go_ret
        exact ⟨by rw [HE.out]; rfl, HF.out.bel⟩
      | some p =>
        obtain ⟨hi, hlast, hpos⟩ := last_at hp
        obtain ⟨b, off, ha, hc⟩ := HF.out.rows.pg.row.at hi
        obtain ⟨c0, c1, c2, c3⟩ := hc _ hi
        rw [hlast] at c1
        obtain ⟨m, hm1⟩ : ∃ m, m = k - 1 := ⟨_, rfl⟩
        have hkm : k = m + 1 := by have := HN.out; omega
        rw [← HN.out, ← hm1] at c1
        rw [ha] at d5
        have hp' := hp
        have z0 : ¬ (m : Int) + 1 = 0 := by omega
        have z00 : (0 : Int) < (m : Int) + 1 := by omega
        obtain ⟨p0, p1, p2, p3⟩ := p
        dsimp only at c1
        have HP := Lib.hid hp
        have HALL := Lib.hid hall
        subst hkm
        clear hp hp' hi hlast hpos hc hm1 ha c0 c2 c3 hall hlt
        by_cases hk1 : p1 = 1
        · subst hk1
          have HE : Hid (rb = true) := Lib.hid (by rw [HR.out]; exact pgB_true ⟨HALL.out, fun p h => by rw [HP.out] at h; cases h; rfl⟩)
          go_wp2
          go_ret
          exact ⟨by rw [HE.out]; rfl, HF.out.bel⟩
        · have hz1 : (p1 == 1) = false := by simpa using hk1
          have HE : Hid (rb = false) := Lib.hid (by rw [HR.out]; exact pgB_false (fun h => hk1 (h.2 _ HP.out)))
          go_wp2
          go_ret
          exact ⟨by rw [HE.out]; rfl, HF.out.bel⟩
end Go.Proofs.Ytifenpmkbnohhaa
