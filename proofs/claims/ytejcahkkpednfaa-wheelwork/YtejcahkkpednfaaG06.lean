/-
  The ring: hands, pages, the target: what the document's small functions tell.
  The ring: a page at the head, another page in a place, a page leaves, the hot hand steps.
  The document's rows: two rows of keys, two rows of pages compared.
-/
import Derived.Test.YtejcahkkpednfaaG02
import Derived.Test.YtejcahkkpednfaaG04
namespace Go.Proofs.Ytejcahkkpednfaa
open Go.RowKit
open Go.Proofs.StackM (Pg Cf Ct St up many fnd fnd_at fnd_no)
open Go.Proofs.WheelM
set_option linter.unusedVariables false
theorem tmod_pos {a n : Int} (h : 0 ≤ a) : a.tmod n = a % n := Int.tmod_eq_emod_of_nonneg h
set_option maxHeartbeats 2000000 in
set_option maxRecDepth 100000 in
theorem behind_at (a i n : Int) (ha : -1000 ≤ a ∧ a ≤ 1000) (hi : -1000 ≤ i ∧ i ≤ 1000) (hn : -1000 ≤ n ∧ n ≤ 1000) (w : World) : Calls Try.prog 84 #[.int .i64 a, .int .i64 i, .int .i64 n] w fun e w' => e = .returned (.int .i64 (behind a i n)) ∧ w' = w := by
  obtain ⟨a1, a2⟩ := ha
  obtain ⟨i1, i2⟩ := hi
  obtain ⟨n1, n2⟩ := hn
  obtain ⟨z, hz⟩ : ∃ z, z = behind a i n := ⟨_, rfl⟩
  rw [← hz]
  unfold behind at hz
  by_cases h1 : i < a
  · rw [if_pos h1] at hz
    by_cases h2 : n - 1 ≤ a - 1
    · rw [if_pos h2] at hz
      subst hz
      go_enter Try.func84, Try.ntmps84
      go_wp2
      go_ret
      exact ⟨rfl, by trivial⟩
    · rw [if_neg h2] at hz
      have HZ := Lib.hid hz
      clear hz
      go_enter Try.func84, Try.ntmps84
      go_wp2
      go_ret
      exact ⟨by rw [HZ.out]; rfl, by trivial⟩
  · rw [if_neg h1] at hz
    by_cases h2 : n - 1 ≤ a
    · rw [if_pos h2] at hz
      subst hz
      go_enter Try.func84, Try.ntmps84
      go_wp2
      go_ret
      exact ⟨rfl, by trivial⟩
    · rw [if_neg h2] at hz
      have HZ := Lib.hid hz
      clear hz
      go_enter Try.func84, Try.ntmps84
      go_wp2
      go_ret
      exact ⟨by rw [HZ.out]; rfl, by trivial⟩
set_option maxHeartbeats 2000000 in
set_option maxRecDepth 100000 in
theorem on_at (a n : Int) (ha : 0 ≤ a ∧ a ≤ 1000) (hn : 0 < n ∧ n ≤ 1000) (w : World) : Calls Try.prog 88 #[.int .i64 a, .int .i64 n] w fun e w' => e = .returned (.int .i64 (onw a n)) ∧ w' = w := by
  obtain ⟨a1, a2⟩ := ha
  obtain ⟨n1, n2⟩ := hn
  have hz : onw a n = (a + 1).tmod n := (tmod_pos (by omega)).symm
  have hb := onw_in (a := a) (n := n)
  rw [hz]
  have t1 : 0 ≤ (a + 1).tmod n := by rw [tmod_pos (by omega)]; exact Int.emod_nonneg _ (by omega)
  have t2 : (a + 1).tmod n < n := by rw [tmod_pos (by omega)]; exact Int.emod_lt_of_pos _ n1
  clear hz hb
  go_enter Try.func88, Try.ntmps88
  go_wp2
  go_ret
  refine ⟨?_, by trivial⟩
  have h9 := tmod_pos (a := a + 1) (n := n) (by omega)
  first | rfl | (rw [h9]; rfl) | simp [h9]
set_option maxHeartbeats 2000000 in
set_option maxRecDepth 100000 in
theorem hand_at (a n : Int) (w : World) : Calls Try.prog 29 #[.int .i64 a, .int .i64 n] w fun e w' => e = .returned (.bool (decide (0 ≤ a ∧ (a < n ∨ a = 0)))) ∧ w' = w := by
  by_cases h1 : 0 ≤ a
  · by_cases h2 : a < n
    · rw [decide_eq_true ⟨h1, .inl h2⟩]
      go_enter Try.func29, Try.ntmps29
      go_wp2
      go_ret
      exact ⟨rfl, by trivial⟩
    · by_cases h3 : a = 0
      · subst h3
        rw [decide_eq_true ⟨h1, .inr rfl⟩]
        go_enter Try.func29, Try.ntmps29
        go_wp2
        go_ret
        exact ⟨rfl, by trivial⟩
      · rw [decide_eq_false (fun h => h.2.elim h2 h3)]
        have h4 : (a == 0) = false := by simpa using h3
        go_enter Try.func29, Try.ntmps29
        go_wp2
        go_ret
        exact ⟨rfl, by trivial⟩
  · rw [decide_eq_false (fun h => h1 h.1)]
    go_enter Try.func29, Try.ntmps29
    go_wp2
    go_ret
    exact ⟨rfl, by trivial⟩
instance (p : Pg) : Decidable (Pok p) := by unfold Pok; infer_instance
set_option maxHeartbeats 2000000 in
set_option maxRecDepth 100000 in
theorem page_at (p0 p1 : Int) (p2 p3 : Bool) (w : World) : Calls Try.prog 27 #[.agg #[.int .u64 p0, .int .i64 p1, .bool p2, .bool p3]] w fun e w' => e = .returned (.bool (decide (Pok ⟨p0, p1, p2, p3⟩))) ∧ Below w.heap.size w w' := by
  have e : decide (Pok ⟨p0, p1, p2, p3⟩) = (if p1 = 1 then !p2 else if p1 = 2 then true else if p1 = 3 then (p2 && !p3) else false) := by
    unfold Pok
    dsimp only
    by_cases h1 : p1 = 1
    · subst h1; cases p2 <;> simp
    · by_cases h2 : p1 = 2
      · subst h2; simp
      · by_cases h3 : p1 = 3
        · subst h3; cases p2 <;> cases p3 <;> simp
        · simp [h1, h2, h3]
  rw [e]
  clear e
  by_cases h1 : p1 = 1
  · subst h1
    rw [if_pos rfl]
    go_enter Try.func27, Try.ntmps27
    go_wp2
    go_ret
    exact ⟨rfl, alloc_below _ _⟩
  · rw [if_neg h1]
    have g1 : (p1 == 1) = false := by simpa using h1
    by_cases h2 : p1 = 2
    · subst h2
      rw [if_pos rfl]
      go_enter Try.func27, Try.ntmps27
      go_wp2
      go_ret
      exact ⟨rfl, alloc_below _ _⟩
    · rw [if_neg h2]
      have g2 : (p1 == 2) = false := by simpa using h2
      by_cases h3 : p1 = 3
      · subst h3
        rw [if_pos rfl]
        cases p2 <;> cases p3
        all_goals
          go_enter Try.func27, Try.ntmps27
          go_wp2
          go_ret
          exact ⟨rfl, alloc_below _ _⟩
      · rw [if_neg h3]
        have g3 : (p1 == 3) = false := by simpa using h3
        go_enter Try.func27, Try.ntmps27
        go_wp2
        go_ret
        exact ⟨rfl, alloc_below _ _⟩
set_option maxHeartbeats 2000000 in
set_option maxRecDepth 100000 in
theorem kepts_at (s : St) (r : R3) (hl : s.pg.length ≤ 100000) (w : World) (hr : SR w s r) : Calls Try.prog 31 #[sV s r] w fun e w' => e = .returned (.int .i64 (kps s.pg : Int)) ∧ Below w.heap.size w w' := by
  have x := Fr.start1 hr
  obtain ⟨w1, hw1⟩ : ∃ w1, w1 = w.alloc (.cells (sA s r) 31) := ⟨_, rfl⟩
  rw [← hw1] at x
  have HW := Lib.hid hw1
  have d5 : ∀ W : GrB w1, W.v.cell? ⟨w.heap.size, 5, none⟩ = some (.slice r.a1 s.pg.length r.c1) := fun W => at5 (x.keep W.h).box
  have C1 := Lib.hid (grown_call (w := w1) fun V hV => (many_at s.pg 1 r.a1 s.pg.length r.c1 rfl (by omega) V (x.keep hV).rows.pg.row).mono fun e w' ⟨e1, e2⟩ => ⟨e1, e2 ▸ Below.refl _ _⟩)
  have C2 := Lib.hid (grown_call (w := w1) fun V hV => (many_at s.pg 2 r.a1 s.pg.length r.c1 rfl (by omega) V (x.keep hV).rows.pg.row).mono fun e w' ⟨e1, e2⟩ => ⟨e1, e2 ▸ Below.refl _ _⟩)
  have h1 := many_le s.pg 1
  have h2 := many_le s.pg 2
  obtain ⟨n, hn⟩ : ∃ n, n = many s.pg 1 := ⟨_, rfl⟩
  obtain ⟨m, hm⟩ : ∃ n, n = many s.pg 2 := ⟨_, rfl⟩
  have hk : kps s.pg = n + m := by rw [hn, hm]; rfl
  rw [← hn] at C1 h1
  rw [← hm] at C2 h2
  rw [hk]
  have b1 : n ≤ 100000 := by omega
  have b2 : m ≤ 100000 := by omega
  have HX := Lib.hid x
  clear hn hm hk h1 h2 x hr hl hw1
  go_enter Try.func31, Try.ntmps31
  go_wp2_with fail
  rw [← HW.out]
  refine region_grown (by kernel_rfl) (by kernel_rfl) ?_
  repeat (go_big_quiet_step (first | (go_at_call 30; with_reducible (first | exact C1.out _ | exact C2.out _))))
  refine wpQuiet_nil ?_
  rintro w' ⟨⟨w9, hgl⟩, rfl⟩
  clear d5
  go_wp2
  go_ret
  exact ⟨by first | rfl | go_num, (HX.out.keep hgl).bel⟩
set_option maxHeartbeats 2000000 in
set_option maxRecDepth 100000 in
theorem rises_at (s : St) (r : R3) (hc : s.cf.c ≤ 1000) (ht : 1 ≤ s.tg ∧ s.tg ≤ s.cf.c - 1) (w : World) (hr : SR w s r) : Calls Try.prog 71 #[sV s r] w (SPost w r (rises s)) := by
  have x := F2.start hr
  obtain ⟨w1, hw1⟩ : ∃ w1, w1 = (w.alloc (.cells (sA s r) 31)).alloc (.cells (sA S0 R0) 31) := ⟨_, rfl⟩
  rw [← hw1] at x
  have hA : (w.alloc (.cells (sA s r) 31)).alloc (.cells #[.int .i64 0, .int .i64 0, .int .i64 0, .int .i64 0, .int .i64 0, .slice none 0 0, .slice none 0 0, .slice none 0 0, .int .i64 0, .int .i64 0, .int .u64 0, .int .u64 0, .int .u64 0, .int .u64 0, .int .u64 0, .int .u64 0, .int .u64 0, .int .u64 0, .int .u64 0, .int .u64 0] 31) = w1 := hw1.symm
  have HA := Lib.hid hA
  have HX := Lib.hid x
  have HR := Lib.hid hr
  have d4 := at4 x.fr.box
  have d1 := at1 x.fr.box
  have f4 := x.fr.box.free 4
  obtain ⟨t1, t2⟩ := ht
  obtain ⟨t, hte⟩ : ∃ t, t = s.tg := ⟨_, rfl⟩
  obtain ⟨c, hce⟩ : ∃ c, c = s.cf.c := ⟨_, rfl⟩
  rw [← hA] at d4 d1 f4
  rw [← hte] at d4 t1 t2
  rw [← hce] at d1 t2 hc
  have HT := Lib.hid hte
  have HC := Lib.hid hce
  clear hte hce
  clear x hw1 hA hr
  show Calls Try.prog 71 #[sV s r] w fun e w' => SPost w r (rises s) e w'
  go_enter Try.func71, Try.ntmps71
  by_cases h : t < c - 1
  · have HE : Hid (rises s = { s with tg := t + 1 }) := Lib.hid (by unfold rises; rw [if_pos (by rw [← HT.out, ← HC.out]; exact h), HT.out])
    have y := F2.start (w := w) (s := { s with tg := s.tg + 1 }) (r := r) ⟨HR.out.pg, HR.out.qu, HR.out.gh⟩
    obtain ⟨w2, hw2⟩ : ∃ w2, w2 = (w.alloc (.cells (sA { s with tg := s.tg + 1 } r) 31)).alloc (.cells (sA S0 R0) 31) := ⟨_, rfl⟩
    rw [← hw2] at y
    have hv : (sA s r).setIfInBounds 4 (.int .i64 (t + 1)) = sA { s with tg := s.tg + 1 } r := by rw [HT.out]; rfl
    have hA2 : (w.alloc (.cells ((sA s r).setIfInBounds 4 (.int .i64 (t + 1))) 31)).alloc (.cells #[.int .i64 0, .int .i64 0, .int .i64 0, .int .i64 0, .int .i64 0, .slice none 0 0, .slice none 0 0, .slice none 0 0, .int .i64 0, .int .i64 0, .int .u64 0, .int .u64 0, .int .u64 0, .int .u64 0, .int .u64 0, .int .u64 0, .int .u64 0, .int .u64 0, .int .u64 0, .int .u64 0] 31) = w2 := by rw [hv]; exact hw2.symm
    have HY := Lib.hid y
    have HW2 := Lib.hid hA2
    clear y hw2 HX hv hA2
    go_wp2_with (first | fail | (rw [HW2.out]; refine ld31 rfl (.tmp 1) rfl _ rfl _ HY.out.fr.box ?_) | refine st31 rfl (.tmp 2) (.tmp 14) rfl _ _ _ rfl rfl _ HY.out.res ?_)
    refine bodyPost_ret (results_s rfl _ _ _ _ rfl (HY.out.res.rowSet (sA_len _ _))) rfl ?_
    rw [HE.out, HT.out]
    exact HY.out.ret HY.out.fr.rows HY.out.fr.frm rfl
  · have HE : Hid (rises s = s) := Lib.hid (by unfold rises; rw [if_neg (by rw [← HT.out, ← HC.out]; exact h)])
    go_wp2_with (first | fail | (rw [HA.out]; refine ld31 rfl (.tmp 1) rfl _ rfl _ HX.out.fr.box ?_) | refine st31 rfl (.tmp 2) (.tmp 14) rfl _ _ _ rfl rfl _ HX.out.res ?_)
    refine bodyPost_ret (results_s rfl _ _ _ _ rfl (HX.out.res.rowSet (sA_len _ _))) rfl ?_
    rw [HE.out]
    exact HX.out.ret HX.out.fr.rows HX.out.fr.frm rfl
set_option maxHeartbeats 2000000 in
set_option maxRecDepth 100000 in
theorem falls_at (s : St) (r : R3) (hc : s.cf.c ≤ 1000) (ht : 1 ≤ s.tg ∧ s.tg ≤ s.cf.c - 1) (w : World) (hr : SR w s r) : Calls Try.prog 85 #[sV s r] w (SPost w r (falls s)) := by
  have x := F2.start hr
  obtain ⟨w1, hw1⟩ : ∃ w1, w1 = (w.alloc (.cells (sA s r) 31)).alloc (.cells (sA S0 R0) 31) := ⟨_, rfl⟩
  rw [← hw1] at x
  have hA : (w.alloc (.cells (sA s r) 31)).alloc (.cells #[.int .i64 0, .int .i64 0, .int .i64 0, .int .i64 0, .int .i64 0, .slice none 0 0, .slice none 0 0, .slice none 0 0, .int .i64 0, .int .i64 0, .int .u64 0, .int .u64 0, .int .u64 0, .int .u64 0, .int .u64 0, .int .u64 0, .int .u64 0, .int .u64 0, .int .u64 0, .int .u64 0] 31) = w1 := hw1.symm
  have HA := Lib.hid hA
  have HX := Lib.hid x
  have HR := Lib.hid hr
  have d4 := at4 x.fr.box
  have d1 := at1 x.fr.box
  have f4 := x.fr.box.free 4
  obtain ⟨t1, t2⟩ := ht
  obtain ⟨t, hte⟩ : ∃ t, t = s.tg := ⟨_, rfl⟩
  obtain ⟨c, hce⟩ : ∃ c, c = s.cf.c := ⟨_, rfl⟩
  rw [← hA] at d4 d1 f4
  rw [← hte] at d4 t1 t2
  rw [← hce] at d1 t2 hc
  have HT := Lib.hid hte
  have HC := Lib.hid hce
  clear hte hce
  clear x hw1 hA hr
  show Calls Try.prog 85 #[sV s r] w fun e w' => SPost w r (falls s) e w'
  go_enter Try.func85, Try.ntmps85
  by_cases h : 1 < t
  · have HE : Hid (falls s = { s with tg := t - 1 }) := Lib.hid (by unfold falls; rw [if_pos (by rw [← HT.out]; exact h), HT.out])
    have y := F2.start (w := w) (s := { s with tg := s.tg - 1 }) (r := r) ⟨HR.out.pg, HR.out.qu, HR.out.gh⟩
    obtain ⟨w2, hw2⟩ : ∃ w2, w2 = (w.alloc (.cells (sA { s with tg := s.tg - 1 } r) 31)).alloc (.cells (sA S0 R0) 31) := ⟨_, rfl⟩
    rw [← hw2] at y
    have hv : (sA s r).setIfInBounds 4 (.int .i64 (t - 1)) = sA { s with tg := s.tg - 1 } r := by rw [HT.out]; rfl
    have hA2 : (w.alloc (.cells ((sA s r).setIfInBounds 4 (.int .i64 (t - 1))) 31)).alloc (.cells #[.int .i64 0, .int .i64 0, .int .i64 0, .int .i64 0, .int .i64 0, .slice none 0 0, .slice none 0 0, .slice none 0 0, .int .i64 0, .int .i64 0, .int .u64 0, .int .u64 0, .int .u64 0, .int .u64 0, .int .u64 0, .int .u64 0, .int .u64 0, .int .u64 0, .int .u64 0, .int .u64 0] 31) = w2 := by rw [hv]; exact hw2.symm
    have HY := Lib.hid y
    have HW2 := Lib.hid hA2
    clear y hw2 HX hv hA2
    go_wp2_with (first | fail | (rw [HW2.out]; refine ld31 rfl (.tmp 1) rfl _ rfl _ HY.out.fr.box ?_) | refine st31 rfl (.tmp 2) (.tmp 10) rfl _ _ _ rfl rfl _ HY.out.res ?_)
    refine bodyPost_ret (results_s rfl _ _ _ _ rfl (HY.out.res.rowSet (sA_len _ _))) rfl ?_
    rw [HE.out, HT.out]
    exact HY.out.ret HY.out.fr.rows HY.out.fr.frm rfl
  · have HE : Hid (falls s = s) := Lib.hid (by unfold falls; rw [if_neg (by rw [← HT.out]; exact h)])
    go_wp2_with (first | fail | (rw [HA.out]; refine ld31 rfl (.tmp 1) rfl _ rfl _ HX.out.fr.box ?_) | refine st31 rfl (.tmp 2) (.tmp 10) rfl _ _ _ rfl rfl _ HX.out.res ?_)
    refine bodyPost_ret (results_s rfl _ _ _ _ rfl (HX.out.res.rowSet (sA_len _ _))) rfl ?_
    rw [HE.out]
    exact HX.out.ret HX.out.fr.rows HX.out.fr.frm rfl
end Go.Proofs.Ytejcahkkpednfaa
namespace Go.Proofs.Ytejcahkkpednfaa
open Go.RowKit
open Go.Proofs.StackM (Pg Cf Ct St up many fnd fnd_at fnd_no)
open Go.Proofs.WheelM
set_option linter.unusedVariables false
/-- the frame of a function that is handed a page: its box between the state's and the result's -/
structure FP (w : World) (r0 : R3) (w' : World) (s : St) (r : R3) : Prop where
  fr : Fr w (w.heap.size + 3) r0 w' w.heap.size s r
  res : Box w' (w.heap.size + 2) (sA S0 R0)
def PB (w : World) (b : Nat) (p : Pg) : Prop := w.heap[b]? = some (.cells #[.int .u64 p.key, .int .i64 p.kind, .bool p.test, .bool p.mark] 58 (0, 0))
theorem PB.kept {w w' : World} {b B : Nat} {p : Pg} (h : PB w b p) (hb : Below B w w') (hB : b < B) : PB w' b p := by unfold PB at *; rw [hb.block b hB]; exact h
theorem PB.lt {w : World} {b : Nat} {p : Pg} (h : PB w b p) : b < w.heap.size := (Array.getElem?_eq_some_iff.1 h).1
theorem PB.at {w : World} {b : Nat} {p : Pg} (h : PB w b p) : w.cell? ⟨b, 0, none⟩ = some (.int .u64 p.key) ∧ w.cell? ⟨b, 1, none⟩ = some (.int .i64 p.kind) ∧ w.cell? ⟨b, 2, none⟩ = some (.bool p.test) ∧ w.cell? ⟨b, 3, none⟩ = some (.bool p.mark) := by
  unfold PB at h
  refine ⟨?_, ?_, ?_, ?_⟩ <;> simp [World.cell?, h]
section
variable {w w1 w2 : World} {r0 r : R3} {s : St}
theorem FP.keep (x : FP w r0 w1 s r) (hb : Below w1.heap.size w1 w2) : FP w r0 w2 s r := ⟨x.fr.keep hb, x.res.kept hb x.res.lt⟩
theorem FP.cellset (x : FP w r0 w1 s r) {k : Nat} {v : Value} {s' : St} {r' : R3} (y : Fr w (w.heap.size + 3) r0 (w1.setCell ⟨w.heap.size, k, none⟩ v) w.heap.size s' r') : FP w r0 (w1.setCell ⟨w.heap.size, k, none⟩ v) s' r' := ⟨y, x.res.cellOther (by simp)⟩
theorem FP.start {s : St} {r : R3} (h : SR w s r) (p : Pg) : FP w r (((w.alloc (.cells (sA s r) 31)).alloc (.cells #[.int .u64 p.key, .int .i64 p.kind, .bool p.test, .bool p.mark] 58)).alloc (.cells (sA S0 R0) 31)) s r ∧
    PB (((w.alloc (.cells (sA s r) 31)).alloc (.cells #[.int .u64 p.key, .int .i64 p.kind, .bool p.test, .bool p.mark] 58)).alloc (.cells (sA S0 R0) 31)) (w.heap.size + 1) p := by
  have x := Fr.start h (.cells #[.int .u64 p.key, .int .i64 p.kind, .bool p.test, .bool p.mark] 58)
  have b1 := x.alloc (.cells (sA S0 R0) 31)
  have hs : ((w.alloc (.cells (sA s r) 31)).alloc (.cells #[.int .u64 p.key, .int .i64 p.kind, .bool p.test, .bool p.mark] 58)).heap.size = w.heap.size + 2 := by simp
  refine ⟨⟨⟨b1.box, b1.rows, Frm.refl _ _, h.old, b1.bel, Nat.le_refl _, by omega, by simp⟩, ?_⟩, ?_⟩
  · have := box_alloc ((w.alloc (.cells (sA s r) 31)).alloc (.cells #[.int .u64 p.key, .int .i64 p.kind, .bool p.test, .bool p.mark] 58)) (sA S0 R0) rfl
    rw [hs] at this
    exact this
  · unfold PB
    rw [(alloc_below _ (.cells (sA S0 R0) 31)).block _ (by rw [hs]; omega)]
    rw [show w.heap.size + 1 = (w.alloc (.cells (sA s r) 31)).heap.size from by simp]
    exact heap_alloc_new _ _
theorem FP.fresh (x : FP w r0 w1 s r) {A : Option Addr} (h : ∀ a, A = some a → w1.heap.size ≤ a.block) : ∀ a, A = some a → w.heap.size + 3 ≤ a.block := fun a e => Nat.le_trans x.fr.hi (h a e)
theorem FP.ret (x : FP w r0 w1 s r) {s' : St} {r' : R3} (hr : SR w1 s' r') (hf : Frm (w.heap.size + 3) r0 r') {e : Ending} (he : e = .returned (sV s' r')) : SPost w r0 s' e (w1.setRow (w.heap.size + 2) (sA s' r')) :=
  x.fr.ret (by omega) (by omega) hr hf (by omega) he
end
theorem pvals_drop (l : List Pg) (k : Nat) : pvals (l.drop k) = (pvals l).drop (k * 4) := by
  induction k generalizing l with
  | zero => simp
  | succ k ih =>
    cases l with
    | nil => simp [pvals]
    | cons p l =>
      rw [List.drop_succ_cons, ih]
      have : (k + 1) * 4 = k * 4 + 1 + 1 + 1 + 1 := by omega
      rw [this]
      rfl
theorem pvals_take (l : List Pg) (k : Nat) : pvals (l.take k) = (pvals l).take (k * 4) := by
  induction k generalizing l with
  | zero => simp [pvals]
  | succ k ih =>
    cases l with
    | nil => simp [pvals]
    | cons p l =>
      have : (k + 1) * 4 = k * 4 + 1 + 1 + 1 + 1 := by omega
      rw [List.take_succ_cons, this]
      show pvals (p :: l.take k) = _
      have e : ∀ (q : List Pg) (b : Pg), pvals (b :: q) = .int .u64 b.key :: .int .i64 b.kind :: .bool b.test :: .bool b.mark :: pvals q := fun _ _ => rfl
      rw [e, e, ih]
      rfl
theorem prow_take {w : World} {b off c : Nat} {l : List Pg} (h : PRow w (some ⟨b, off, none⟩) c l) (k c' : Nat) : PRow w (some ⟨b, off, none⟩) c' (l.take k) := by
  rcases h with ⟨h, _⟩ | ⟨b', off', e, hc⟩
  · cases h
  · refine .inr ⟨b', off', e, fun j hj => ?_⟩
    have hj2 := hj
    rw [pvals_take, List.length_take] at hj2
    rw [hc j (by omega)]
    congr 1
    simp only [pvals_take, List.getElem_take]
theorem prow_drop {w : World} {b off c : Nat} {l : List Pg} (h : PRow w (some ⟨b, off, none⟩) c l) (k c' : Nat) : PRow w (some ⟨b, off + k * 4, none⟩) c' (l.drop k) := by
  rcases h with ⟨h, _⟩ | ⟨b', off', e, hc⟩
  · cases h
  · refine .inr ⟨b, off + k * 4, rfl, fun j hj => ?_⟩
    have hj2 := hj
    rw [pvals_drop, List.length_drop] at hj2
    injection e with e
    injection e with e1 e2
    subst e1 e2
    rw [show off + k * 4 + j = off + (k * 4 + j) by omega, hc (k * 4 + j) (by omega)]
    congr 1
    simp only [pvals_drop, List.getElem_drop]
theorem prow_dropc {w : World} {b off c : Nat} {l : List Pg} (h : PRow w (some ⟨b, off, none⟩) c l) (k c' : Nat) (hc : l.length ≤ c) : PRow w (if c = k then some ⟨b, off, none⟩ else some ⟨b, off + k * 4, none⟩) c' (l.drop k) := by
  by_cases e : c = k
  · rw [if_pos e, List.drop_of_length_le (by omega)]
    exact .inr ⟨b, off, rfl, fun j hj => absurd hj (by simp [pvals])⟩
  · rw [if_neg e]; exact prow_drop h k c'
/-- a row of pages copied -/
theorem copyP {w : World} {l : List Pg} {A : Option Addr} {c : Nat} (hr : PRow w A c l) (hl : l.length ≤ 1000) : ∃ v' w', (Builtin.append_ #[25, 25] 25 #[.slice (some ⟨w.heap.size, 0, none⟩) 0 0, .slice A l.length c]).run Try.prog (w.alloc (.cells #[] 58)) = .ok v' w' ∧ w'.ownsRow w.heap.size 58 4 v' l.length (pvals l) ∧ Below w.heap.size w w' := by
  have l0 : (w.alloc (.cells #[] 58)).ownsRow w.heap.size 58 4 (.slice (some ⟨w.heap.size, 0, none⟩) 0 0) 0 (pvals []) := World.ownsRow_lit (base := w.heap.size) (e := 58) (size := 4) w #[] 0 (Nat.le_refl _) (by decide) rfl
  obtain ⟨v', w', h1, h2, h3⟩ := appP (n := 0) (m := l.length) (r := l) (A := A) (cap := c) l0 (hr.kept (alloc_below w (.cells #[] 58))) rfl (by omega) (alloc_below w (.cells #[] 58)).size
  rw [Nat.zero_add, List.nil_append] at h2
  exact ⟨v', w', h1, h2, (alloc_below w (.cells #[] 58)).trans h3⟩
/-- and one page more behind -/
theorem addP {w : World} {base n : Nat} {v : Value} {l : List Pg} (p0 p1 : Int) (p2 p3 : Bool) (ho : w.ownsRow base 58 4 v n (pvals l)) (hn : n ≤ 10000) (hb : base ≤ w.heap.size) :
    ∃ v' w', (Builtin.append_ #[25, 25] 25 #[v, .slice (some ⟨w.heap.size, 0, none⟩) 1 1]).run Try.prog (w.alloc (.cells #[.int .u64 p0, .int .i64 p1, .bool p2, .bool p3] 58)) = .ok v' w' ∧ w'.ownsRow base 58 4 v' (n + 1) (pvals (l ++ [⟨p0, p1, p2, p3⟩])) ∧ Below base w w' := by
  have b0 := alloc_below w (.cells #[.int .u64 p0, .int .i64 p1, .bool p2, .bool p3] 58)
  obtain ⟨v', w', h1, h2, h3⟩ := appP (own_below ho b0) (one_p w ⟨p0, p1, p2, p3⟩) rfl (by simp; omega) (by have := b0.size; omega)
  exact ⟨v', w', h1, h2, (b0.mono hb).trans h3⟩
set_option maxHeartbeats 2000000 in
set_option maxRecDepth 100000 in
theorem head_at (s : St) (r : R3) (p : Pg) (hl : s.pg.length ≤ 1000) (w : World) (hr : SR w s r) : Calls Try.prog 74 #[sV s r, .agg #[.int .u64 p.key, .int .i64 p.kind, .bool p.test, .bool p.mark]] w (SPost w r (head s p)) := by
  obtain ⟨x, pb⟩ := FP.start hr p
  obtain ⟨w1, hw1⟩ : ∃ w1, w1 = ((w.alloc (.cells (sA s r) 31)).alloc (.cells #[.int .u64 p.key, .int .i64 p.kind, .bool p.test, .bool p.mark] 58)).alloc (.cells (sA S0 R0) 31) := ⟨_, rfl⟩
  rw [← hw1] at x pb
  have hA : ((w.alloc (.cells (sA s r) 31)).alloc (.cells #[.int .u64 p.key, .int .i64 p.kind, .bool p.test, .bool p.mark] 58)).alloc (.cells #[.int .i64 0, .int .i64 0, .int .i64 0, .int .i64 0, .int .i64 0, .slice none 0 0, .slice none 0 0, .slice none 0 0, .int .i64 0, .int .i64 0, .int .u64 0, .int .u64 0, .int .u64 0, .int .u64 0, .int .u64 0, .int .u64 0, .int .u64 0, .int .u64 0, .int .u64 0, .int .u64 0] 31) = w1 := hw1.symm
  have hs1 : w1.heap.size = w.heap.size + 3 := by rw [hw1]; simp
  obtain ⟨p0, p1, p2, p3⟩ := p
  dsimp only at hA pb ⊢
  obtain ⟨v1, w2, hrun1, o1, b1⟩ := copyP x.fr.rows.pg.row hl
  have pb2 := pb.kept b1 pb.lt
  obtain ⟨c0, c1, c2, c3⟩ := pb2.at
  dsimp only at c0 c1 c2 c3
  obtain ⟨v2, w3, hrun2, o2, b2⟩ := addP p0 p1 p2 p3 o1 (by omega) b1.size
  have b12 := b1.trans b2
  have x3 := x.keep b12
  obtain ⟨A8, cc8, rfl, hcap8, hv8, hf8⟩ := owns_vrow o2
  have y3 := x3.cellset (x3.fr.setPg (l := s.pg ++ [(⟨p0, p1, p2, p3⟩ : Pg)]) (A := A8) (c := cc8) (n := s.pg.length + 1) ⟨show PRow w3 A8 cc8 (s.pg ++ [(⟨p0, p1, p2, p3⟩ : Pg)]) from hv8, fun a e => (hf8 a e).2, by simp; omega⟩ (fun a e => by have := (hf8 a e).1; have := x.fr.hi; omega) (by simp))
  have f5 := x3.fr.box.free 5
  have e5 := at5 x3.fr.box
  have d5 := at5 (x.keep (alloc_below w1 (.cells #[] 58))).fr.box
  obtain ⟨w4, hw4⟩ : ∃ w4, w4 = w3.setCell ⟨w.heap.size, 5, none⟩ (.slice A8 (s.pg.length + 1) cc8) := ⟨_, rfl⟩
  rw [← hw4] at y3
  rw [← hA] at d5
  rw [hs1] at hrun1
  have HA := Lib.hid hA
  have HY := Lib.hid y3
  have HW4 := Lib.hid hw4
  have R1 := Lib.hid hrun1
  have R2 := Lib.hid hrun2
  clear x pb hw1 hA hr hrun1 o1 b1 pb2 hrun2 o2 b2 b12 x3 hcap8 hv8 hf8 y3 hw4 hs1
  show Calls Try.prog 74 #[sV s r, .agg #[.int .u64 p0, .int .i64 p1, .bool p2, .bool p3]] w fun e w' => SPost w r (head s ⟨p0, p1, p2, p3⟩) e w'
  go_enter Try.func74, Try.ntmps74
  go_wp2_with (first | fail | (at_builtin; first | (rw [HA.out]; refine append_run rfl (.tmp 6) (.tmp 8) 25 rfl rfl rfl R1.out ?_) | refine append_run rfl (.tmp 10) (.tmp 12) 25 rfl rfl rfl R2.out ?_) | (rw [← HW4.out]; refine ld31 rfl (.tmp 2) rfl _ rfl _ HY.out.fr.box ?_) | refine st31 rfl (.tmp 4) (.tmp 16) rfl _ _ _ rfl rfl _ HY.out.res ?_)
  refine bodyPost_ret (results_s rfl _ _ _ _ rfl (HY.out.res.rowSet (sA_len _ _))) rfl ?_
  exact HY.out.ret HY.out.fr.rows HY.out.fr.frm rfl
end Go.Proofs.Ytejcahkkpednfaa
namespace Go.Proofs.Ytejcahkkpednfaa
open Go.RowKit
open Go.Proofs.StackM
set_option linter.unusedVariables false
set_option maxHeartbeats 2000000 in
set_option maxRecDepth 100000 in
theorem same_at (a b : List Int) (A B : Option Addr) (n m c c' : Nat) (hn : n = a.length) (hm : m = b.length) (hb : n ≤ 1000000) (hb2 : m ≤ 1000000) (w : World) (ha : URow w A c a) (hbr : URow w B c' b) :
    Calls Try.prog 25 #[.slice A n c, .slice B m c'] w fun e w' => e = .returned (.bool (decide (a = b))) ∧ Below w.heap.size w w' := by
  obtain ⟨r, hr⟩ : ∃ r, r = decide (a = b) := ⟨_, rfl⟩
  rw [← hr]
  have HR := Lib.hid hr
  have HN := Lib.hid (And.intro hn hm)
  have HA := Lib.hid (And.intro ha hbr)
  clear hr hn hm ha hbr
  by_cases hnm : n = m
  · subst hnm
    go_enter Try.func25, Try.ntmps25
    go_wp2_with fail
    go_loopw [5] (fun i wr => ∃ (k q : Nat), k ≤ n ∧ i = .int .i64 (k : Int) ∧ wr = w.drewN q ∧ Hid (∀ j (h1 : j < k) (h2 : j < a.length) (h3 : j < b.length), a[j] = b[j])) (fun i _ => n - (intOf i).toNat)
    case atStart => exact ⟨0, 0, by omega, by go_num, by simp [World.drewN], Lib.hid (fun j h1 => absurd h1 (by omega))⟩
    case round =>
      obtain ⟨k, q, hk, rfl, rfl, HK⟩ := hrel
      by_cases hlt : k < n
      · have hka : k < a.length := by have := HN.out.1; omega
        have hkb : k < b.length := by have := HN.out.2; omega
        obtain ⟨ba, offa, rfl, hca⟩ := HA.out.1.at hka
        obtain ⟨bb, offb, rfl, hcb⟩ := HA.out.2.at hkb
        have d1 := hca k hka
        have d2 := hcb k hkb
        obtain ⟨y, hy⟩ : ∃ y, y = a[k] := ⟨_, rfl⟩
        obtain ⟨z, hz⟩ : ∃ z, z = b[k] := ⟨_, rfl⟩
        rw [← hy] at d1
        rw [← hz] at d2
        clear hca hcb
        by_cases hyz : y = z
        · have HS : Hid (a[k] = b[k]) := Lib.hid (by rw [← hy, ← hz, hyz])
          clear hy hz
          subst hyz
          go_wp2_with fail
          go_quiet (fail)
          go_wp2_with fail
          go_round
          case rel => exact ⟨k + 1, _, by omega, by go_num, rfl, Lib.hid (fun j h1 h2 h3 => by
            rcases Nat.lt_succ_iff_lt_or_eq.1 h1 with h | rfl
            · exact HK.out j h h2 h3
            · exact HS.out)⟩
          case measure => simp only [intOf]; omega
        · have HD : Hid (¬ a[k] = b[k]) := Lib.hid (by rw [← hy, ← hz]; exact hyz)
          clear hy hz
          have HE : Hid (r = false) := Lib.hid (by
            rw [HR.out]
            exact decide_eq_false (fun e => HD.out (by subst e; rfl)))
          go_wp2_with fail
          go_quiet (fail)
          go_wp2_with fail
          go_ret
          exact ⟨by rw [HE.out]; rfl, below_drew (below_drew (Below.refl _ _) _) _⟩
      · have HE : Hid (r = true) := Lib.hid (by
          rw [HR.out]
          refine decide_eq_true (List.ext_getElem (HN.out.1.symm.trans HN.out.2) (fun j h1 h2 => HK.out j (by have := HN.out.1; omega) h1 h2))
        )
        go_wp2
        go_ret
        exact ⟨by rw [HE.out]; rfl, below_drew (Below.refl _ _) q⟩
  · have hne : ¬ (n : Int) = (m : Int) := by omega
    have HE : Hid (r = false) := Lib.hid (by rw [HR.out]; exact decide_eq_false (fun e => hnm (by rw [HN.out.1, HN.out.2, e])))
    clear hnm
    go_enter Try.func25, Try.ntmps25
    go_wp2
    go_ret
    exact ⟨by rw [HE.out]; rfl, Below.refl _ _⟩
set_option maxHeartbeats 2000000 in
set_option maxRecDepth 100000 in
theorem pgs_at (a b : List Pg) (A B : Option Addr) (n m c c' : Nat) (hn : n = a.length) (hm : m = b.length) (hb : n ≤ 1000000) (hb2 : m ≤ 1000000) (w : World) (ha : PRow w A c a) (hbr : PRow w B c' b) :
    Calls Try.prog 44 #[.slice A n c, .slice B m c'] w fun e w' => e = .returned (.bool (decide (a = b))) ∧ Below w.heap.size w w' := by
  obtain ⟨r, hr⟩ : ∃ r, r = decide (a = b) := ⟨_, rfl⟩
  rw [← hr]
  have HR := Lib.hid hr
  have HN := Lib.hid (And.intro hn hm)
  have HA := Lib.hid (And.intro ha hbr)
  clear hr hn hm ha hbr
  by_cases hnm : n = m
  · subst hnm
    go_enter Try.func44, Try.ntmps44
    go_wp2_with fail
    go_loopw [5] (fun i wr => ∃ (k q : Nat), k ≤ n ∧ i = .int .i64 (k : Int) ∧ wr = w.drewN q ∧ Hid (∀ j (h1 : j < k) (h2 : j < a.length) (h3 : j < b.length), a[j] = b[j])) (fun i _ => n - (intOf i).toNat)
    case atStart => exact ⟨0, 0, by omega, by go_num, by simp [World.drewN], Lib.hid (fun j h1 => absurd h1 (by omega))⟩
    case round =>
      obtain ⟨k, q, hk, rfl, rfl, HK⟩ := hrel
      by_cases hlt : k < n
      · have hka : k < a.length := by have := HN.out.1; omega
        have hkb : k < b.length := by have := HN.out.2; omega
        obtain ⟨ba, offa, rfl, hca⟩ := HA.out.1.at hka
        obtain ⟨bb, offb, rfl, hcb⟩ := HA.out.2.at hkb
        obtain ⟨d0, d1, d2, d3⟩ := hca k hka
        obtain ⟨e0, e1, e2, e3⟩ := hcb k hkb
        obtain ⟨y, hy⟩ : ∃ y, y = a[k] := ⟨_, rfl⟩
        obtain ⟨z, hz⟩ : ∃ z, z = b[k] := ⟨_, rfl⟩
        rw [← hy] at d0 d1 d2 d3
        rw [← hz] at e0 e1 e2 e3
        obtain ⟨y0, y1, y2, y3⟩ := y
        obtain ⟨z0, z1, z2, z3⟩ := z
        dsimp only at d0 d1 d2 d3 e0 e1 e2 e3
        clear hca hcb
        by_cases h0 : y0 = z0
        · subst h0
          by_cases h1 : y1 = z1
          · subst h1
            by_cases h2 : y2 = z2
            · subst h2
              by_cases h3 : y3 = z3
              · subst h3
                have HS : Hid (a[k] = b[k]) := Lib.hid (by rw [← hy, ← hz])
                clear hy hz
                go_wp2_with fail
                go_quiet (fail)
                go_wp2_with fail
                go_round
                case rel => exact ⟨k + 1, _, by omega, by go_num, rfl, Lib.hid (fun j h1 h2 h3 => by
                  rcases Nat.lt_succ_iff_lt_or_eq.1 h1 with h | rfl
                  · exact HK.out j h h2 h3
                  · exact HS.out)⟩
                case measure => simp only [intOf]; omega
              · have HD : Hid (¬ a[k] = b[k]) := Lib.hid (by rw [← hy, ← hz]; intro e; injection e; contradiction)
                clear hy hz
                have HE : Hid (r = false) := Lib.hid (by
                  rw [HR.out]
                  exact decide_eq_false (fun e => HD.out (by subst e; rfl)))
                go_wp2_with fail
                go_quiet (fail)
                go_wp2_with fail
                go_ret
                exact ⟨by rw [HE.out]; rfl, below_drew (below_drew (Below.refl _ _) _) _⟩
            · have HD : Hid (¬ a[k] = b[k]) := Lib.hid (by rw [← hy, ← hz]; intro e; injection e; contradiction)
              clear hy hz
              have HE : Hid (r = false) := Lib.hid (by
                rw [HR.out]
                exact decide_eq_false (fun e => HD.out (by subst e; rfl)))
              go_wp2_with fail
              go_quiet (fail)
              go_wp2_with fail
              go_ret
              exact ⟨by rw [HE.out]; rfl, below_drew (below_drew (Below.refl _ _) _) _⟩
          · have HD : Hid (¬ a[k] = b[k]) := Lib.hid (by rw [← hy, ← hz]; intro e; injection e; contradiction)
            clear hy hz
            have HE : Hid (r = false) := Lib.hid (by
              rw [HR.out]
              exact decide_eq_false (fun e => HD.out (by subst e; rfl)))
            go_wp2_with fail
            go_quiet (fail)
            go_wp2_with fail
            go_ret
            exact ⟨by rw [HE.out]; rfl, below_drew (below_drew (Below.refl _ _) _) _⟩
        · have HD : Hid (¬ a[k] = b[k]) := Lib.hid (by rw [← hy, ← hz]; intro e; injection e; contradiction)
          clear hy hz
          have HE : Hid (r = false) := Lib.hid (by
            rw [HR.out]
            exact decide_eq_false (fun e => HD.out (by subst e; rfl)))
          go_wp2_with fail
          go_quiet (fail)
          go_wp2_with fail
          go_ret
          exact ⟨by rw [HE.out]; rfl, below_drew (below_drew (Below.refl _ _) _) _⟩
      · have HE : Hid (r = true) := Lib.hid (by
          rw [HR.out]
          refine decide_eq_true (List.ext_getElem (HN.out.1.symm.trans HN.out.2) (fun j h1 h2 => HK.out j (by have := HN.out.1; omega) h1 h2))
        )
        go_wp2
        go_ret
        exact ⟨by rw [HE.out]; rfl, below_drew (Below.refl _ _) q⟩
  · have hne : ¬ (n : Int) = (m : Int) := by omega
    have HE : Hid (r = false) := Lib.hid (by rw [HR.out]; exact decide_eq_false (fun e => hnm (by rw [HN.out.1, HN.out.2, e])))
    clear hnm
    go_enter Try.func44, Try.ntmps44
    go_wp2
    go_ret
    exact ⟨by rw [HE.out]; rfl, Below.refl _ _⟩
end Go.Proofs.Ytejcahkkpednfaa
