/-
  The ring: another page in a place, a page leaves, the hot hand steps.
  The ring: the hot hand steps.
  The frame with a page's block beside it.
-/
import Derived.Test.YtejcahkkpednfaaG06
import Derived.Test.YtejcahkkpednfaaG05
import Derived.Deep.LoopGhost
namespace Go.Proofs.Ytejcahkkpednfaa
open Go.RowKit
open Go.Proofs.StackM (Pg Cf Ct St up many fnd fnd_at fnd_no)
open Go.Proofs.WheelM
set_option linter.unusedVariables false
/-- a page of four cells is put in a place -/
theorem pvals_set (l : List Pg) (i : Nat) (hi : i < l.length) (p : Pg) : pvals (l.set i p) = ((((pvals l).set (i * 4) (.int .u64 p.key)).set (i * 4 + 1) (.int .i64 p.kind)).set (i * 4 + 2) (.bool p.test)).set (i * 4 + 3) (.bool p.mark) := by
  induction l generalizing i with
  | nil => cases hi
  | cons a l ih =>
    cases i with
    | zero => rfl
    | succ i =>
      have e : ∀ q : List Pg, ∀ b : Pg, pvals (b :: q) = .int .u64 b.key :: .int .i64 b.kind :: .bool b.test :: .bool b.mark :: pvals q := fun _ _ => rfl
      rw [List.set_cons_succ, e, e, ih i (by simpa using hi)]
      have h0 : (i + 1) * 4 = i * 4 + 1 + 1 + 1 + 1 := by omega
      rw [h0]
      simp
theorem owns_some {w : World} {base n : Nat} {e : TypeId} {size : Nat} {v : Value} {xs : List Value} (h : w.ownsRow base e size v n xs) (hn : 0 < n) : ∃ g cap, v = .slice (some ⟨g, 0, none⟩) n cap := by
  rcases h.2 with ⟨rfl, h0⟩ | ⟨g, cap, cur, rfl, _⟩
  · omega
  · exact ⟨_, _, rfl⟩
set_option maxHeartbeats 2000000 in
set_option maxRecDepth 100000 in
theorem with_at (s : St) (r : R3) (i : Nat) (p : Pg) (hi : i < s.pg.length) (hl : s.pg.length ≤ 1000) (w : World) (hr : SR w s r) : Calls Try.prog 69 #[sV s r, .int .i64 (i : Int), .agg #[.int .u64 p.key, .int .i64 p.kind, .bool p.test, .bool p.mark]] w (SPost w r { s with pg := s.pg.set i p }) := by
  obtain ⟨x, pb⟩ := FP.start hr p
  obtain ⟨w1, hw1⟩ : ∃ w1, w1 = ((w.alloc (.cells (sA s r) 31)).alloc (.cells #[.int .u64 p.key, .int .i64 p.kind, .bool p.test, .bool p.mark] 58)).alloc (.cells (sA S0 R0) 31) := ⟨_, rfl⟩
  rw [← hw1] at x pb
  have hA : ((w.alloc (.cells (sA s r) 31)).alloc (.cells #[.int .u64 p.key, .int .i64 p.kind, .bool p.test, .bool p.mark] 58)).alloc (.cells #[.int .i64 0, .int .i64 0, .int .i64 0, .int .i64 0, .int .i64 0, .slice none 0 0, .slice none 0 0, .slice none 0 0, .int .i64 0, .int .i64 0, .int .u64 0, .int .u64 0, .int .u64 0, .int .u64 0, .int .u64 0, .int .u64 0, .int .u64 0, .int .u64 0, .int .u64 0, .int .u64 0] 31) = w1 := hw1.symm
  have hs1 : w1.heap.size = w.heap.size + 3 := by rw [hw1]; simp
  obtain ⟨p0, p1, p2, p3⟩ := p
  dsimp only at hA pb ⊢
  obtain ⟨v1, w2, hrun1, o7, b1⟩ := copyP x.fr.rows.pg.row hl
  obtain ⟨g7, c7, rfl⟩ := owns_some o7 (by omega)
  have pb2 := pb.kept b1 pb.lt
  obtain ⟨c0, c1, c2, c3⟩ := pb2.at
  dsimp only at c0 c1 c2 c3
  have hg7 := o7.lt g7 rfl
  obtain ⟨a0, a1, a2, a3⟩ := pvals_at s.pg i hi
  have m0 := o7.cellAt (i * 4) (by omega)
  have m1 := o7.cellAt (i * 4 + 1) (by omega)
  have m2 := o7.cellAt (i * 4 + 2) (by omega)
  have m3 := o7.cellAt (i * 4 + 3) (by omega)
  rw [a0] at m0
  rw [a1] at m1
  rw [a2] at m2
  rw [a3] at m3
  have t0 := o7.frozenAt (i * 4)
  have t1 := o7.frozenAt (i * 4 + 1)
  have t2 := o7.frozenAt (i * 4 + 2)
  have t3 := o7.frozenAt (i * 4 + 3)
  have o8 := (((o7.stored (i * 4) (.int .u64 p0)).1.stored (i * 4 + 1) (.int .i64 p1)).1.stored (i * 4 + 2) (.bool p2)).1.stored (i * 4 + 3) (.bool p3)
  have o8 := o8.1
  rw [← pvals_set s.pg i hi ⟨p0, p1, p2, p3⟩] at o8
  have b8 := below_setCell (k := i * 4 + 3) (v := .bool p3) (below_setCell (k := i * 4 + 2) (v := .bool p2) (below_setCell (k := i * 4 + 1) (v := .int .i64 p1) (below_setCell (k := i * 4) (v := .int .u64 p0) b1 hg7.1) hg7.1) hg7.1) hg7.1
  have hne : w.heap.size ≠ g7 := by have := x.fr.box.lt; omega
  have hne1 : w.heap.size + 1 ≠ g7 := by have := x.fr.hi; omega
  obtain ⟨w3, hw3⟩ : ∃ w3, w3 = (((w2.setCell ⟨g7, i * 4, none⟩ (.int .u64 p0)).setCell ⟨g7, i * 4 + 1, none⟩ (.int .i64 p1)).setCell ⟨g7, i * 4 + 2, none⟩ (.bool p2)).setCell ⟨g7, i * 4 + 3, none⟩ (.bool p3) := ⟨_, rfl⟩
  rw [← hw3] at o8 b8
  have x2 := x.keep b1
  have f5 := x2.fr.box.free 5
  have e5 := at5 x2.fr.box
  have x3 := x.keep b8
  obtain ⟨A8, cc8, hA8, hcap8, hv8, hf8⟩ := owns_vrow o8
  injection hA8 with hA1 _ hA3
  have y3 := x3.cellset (x3.fr.setPg (l := s.pg.set i ⟨p0, p1, p2, p3⟩) (A := A8) (c := cc8) (n := s.pg.length) ⟨hv8, fun a e => (hf8 a e).2, by rw [List.length_set]; omega⟩ (fun a e => by have := (hf8 a e).1; have := x.fr.hi; omega) (by rw [List.length_set]))
  rw [← hA1, ← hA3] at y3
  have d5 := at5 (x.keep (alloc_below w1 (.cells #[] 58))).fr.box
  obtain ⟨w4, hw4⟩ : ∃ w4, w4 = w3.setCell ⟨w.heap.size, 5, none⟩ (.slice (some ⟨g7, 0, none⟩) s.pg.length c7) := ⟨_, rfl⟩
  rw [← hw4] at y3
  rw [← hA] at d5
  rw [hs1] at hrun1
  have HA := Lib.hid hA
  have HY := Lib.hid y3
  have HW4 := Lib.hid hw4
  have HW3 := Lib.hid hw3
  have R1 := Lib.hid hrun1
  have hi0 : (0 : Int) ≤ (i : Int) := by omega
  have hin : i < s.pg.length := hi
  clear x pb hw1 hA hr hrun1 o7 b1 pb2 o8 b8 x2 x3 hcap8 hv8 hf8 y3 hw4 hw3 hs1 a0 a1 a2 a3 hA1 hA3
  show Calls Try.prog 69 #[sV s r, .int .i64 (i : Int), .agg #[.int .u64 p0, .int .i64 p1, .bool p2, .bool p3]] w fun e w' => SPost w r { s with pg := s.pg.set i ⟨p0, p1, p2, p3⟩ } e w'
  go_enter Try.func69, Try.ntmps69
  go_wp2_with (first | fail | (at_builtin; (rw [HA.out]; refine append_run rfl (.tmp 8) (.tmp 10) 25 rfl rfl rfl R1.out ?_)) | (rw [← HW3.out, ← HW4.out]; refine ld31 rfl (.tmp 3) rfl _ rfl _ HY.out.fr.box ?_) | refine st31 rfl (.tmp 6) (.tmp 18) rfl _ _ _ rfl rfl _ HY.out.res ?_)
  refine bodyPost_ret (results_s rfl _ _ _ _ rfl (HY.out.res.rowSet (sA_len _ _))) rfl ?_
  exact HY.out.ret HY.out.fr.rows HY.out.fr.frm rfl
/-- a hand is set -/
theorem F2.setCo {w w1 : World} {r0 r : R3} {s : St} (x : F2 w r0 w1 s r) (a : Int) : F2 w r0 (w1.setCell ⟨w.heap.size, 8, none⟩ (.int .i64 a)) { s with co := a } r := x.cellset (x.fr.set 8 _ _ r rfl ⟨x.fr.rows.pg, x.fr.rows.qu, x.fr.rows.gh⟩ x.fr.frm)
theorem F2.setTe {w w1 : World} {r0 r : R3} {s : St} (x : F2 w r0 w1 s r) (a : Int) : F2 w r0 (w1.setCell ⟨w.heap.size, 9, none⟩ (.int .i64 a)) { s with te := a } r := x.cellset (x.fr.set 9 _ _ r rfl ⟨x.fr.rows.pg, x.fr.rows.qu, x.fr.rows.gh⟩ x.fr.frm)
set_option maxHeartbeats 2000000 in
set_option maxRecDepth 100000 in
theorem leave_at (s : St) (r : R3) (i : Nat) (hi : i < s.pg.length) (hl : s.pg.length ≤ 1000) (hc : Hd s.co s.pg.length) (ht : Hd s.te s.pg.length) (w : World) (hr : SR w s r) : Calls Try.prog 68 #[sV s r, .int .i64 (i : Int)] w (SPost w r (leave s i)) := by
  have x := F2.start hr
  obtain ⟨w1, hw1⟩ : ∃ w1, w1 = (w.alloc (.cells (sA s r) 31)).alloc (.cells (sA S0 R0) 31) := ⟨_, rfl⟩
  rw [← hw1] at x
  have hA : ((w.alloc (.cells (sA s r) 31)).alloc (.cells #[.int .i64 0, .int .i64 0, .int .i64 0, .int .i64 0, .int .i64 0, .slice none 0 0, .slice none 0 0, .slice none 0 0, .int .i64 0, .int .i64 0, .int .u64 0, .int .u64 0, .int .u64 0, .int .u64 0, .int .u64 0, .int .u64 0, .int .u64 0, .int .u64 0, .int .u64 0, .int .u64 0] 31)) = w1 := hw1.symm
  have hs1 : w1.heap.size = w.heap.size + 2 := by rw [hw1]; simp
  obtain ⟨b, off, ha, _⟩ := x.fr.rows.pg.row.at hi
  have hrow := x.fr.rows.pg.row
  have hle := x.fr.rows.pg.le
  rw [ha] at hrow
  obtain ⟨n, hn⟩ : ∃ n, n = s.pg.length := ⟨_, rfl⟩
  obtain ⟨v1, w2, hrun1, o1, b1⟩ := copyP (prow_take hrow i r.c1) (by rw [List.length_take]; omega)
  have hti : (s.pg.take i).length = i := by rw [List.length_take]; omega
  rw [hti] at hrun1 o1
  obtain ⟨v2, w3, hrun2, o2, b2⟩ := appP (m := n - (i + 1)) (A := if r.c1 = i + 1 then some ⟨b, off, none⟩ else some ⟨b, off + (i + 1) * 4, none⟩) (cap := r.c1 - (i + 1)) (r := s.pg.drop (i + 1)) o1 (prow_dropc (hrow.kept b1) (i + 1) (r.c1 - (i + 1)) hle) (by rw [List.length_drop, hn]) (by omega) b1.size
  have e1 : i + (n - (i + 1)) = n - 1 := by omega
  rw [e1] at o2
  have b12 := b1.trans (b2.mono (Nat.le_refl _))
  have x3 := x.keep b12
  obtain ⟨A8, cc8, rfl, hcap8, hv8, hf8⟩ := owns_vrow o2
  have epg : s.pg.take i ++ s.pg.drop (i + 1) = s.pg.eraseIdx i := (List.eraseIdx_eq_take_drop_succ s.pg i).symm
  have elen : (s.pg.eraseIdx i).length = n - 1 := by rw [List.length_eraseIdx_of_lt hi, hn]
  rw [epg] at hv8
  have y4 := x3.cellset (x3.fr.setPg (l := s.pg.eraseIdx i) (A := A8) (c := cc8) (n := n - 1) ⟨hv8, fun a e => (hf8 a e).2, by rw [elen]; exact hcap8⟩ (fun a e => by have := (hf8 a e).1; have := x.fr.hi; omega) elen.symm)
  obtain ⟨w4, hw4⟩ : ∃ w4, w4 = w3.setCell ⟨w.heap.size, 5, none⟩ (.slice A8 (n - 1) cc8) := ⟨_, rfl⟩
  rw [← hw4] at y4
  have y5 := y4.setCo (behind s.co i n)
  obtain ⟨w5, hw5⟩ : ∃ w5, w5 = w4.setCell ⟨w.heap.size, 8, none⟩ (.int .i64 (behind s.co i n)) := ⟨_, rfl⟩
  rw [← hw5] at y5
  have y6 := y5.setTe (behind s.te i n)
  obtain ⟨w6, hw6⟩ : ∃ w6, w6 = w5.setCell ⟨w.heap.size, 9, none⟩ (.int .i64 (behind s.te i n)) := ⟨_, rfl⟩
  rw [← hw6] at y6
  have d5 := at5 x.fr.box
  have d5b := at5 (x.keep (alloc_below w1 (.cells #[] 58))).fr.box
  have d5c := at5 (x.keep b1).fr.box
  have f5 := x3.fr.box.free 5
  have e5 := at5 x3.fr.box
  have d8 := at8 x3.fr.box
  have f8 := y4.fr.box.free 8
  have d8b := at8 y4.fr.box
  have d9 := at9 y4.fr.box
  have d9b := at9 y5.fr.box
  have f9 := y5.fr.box.free 9
  rw [← hA] at d5 d5b
  rw [← hn, ha] at d5 d5b d5c e5
  have hi' : i < n := by omega
  have hl' : n ≤ 1000 := by omega
  have hcap : n ≤ r.c1 := by omega
  have C1 := behind_at s.co i n (by unfold Hd at hc; omega) (by omega) (by omega) w4
  have C2 := behind_at s.te i n (by unfold Hd at ht; omega) (by omega) (by omega) w5
  have q1 : s.co ≤ 1000 ∧ 0 ≤ s.co := by unfold Hd at hc; omega
  have q2 : s.te ≤ 1000 ∧ 0 ≤ s.te := by unfold Hd at ht; omega
  rw [hs1] at hrun1
  have hE : leave s i = ⟨s.cf, s.tg, s.pg.eraseIdx i, s.qu, s.gh, behind s.co i n, behind s.te i n, s.ct⟩ := by rw [hn]; rfl
  have HA := Lib.hid hA
  have HY := Lib.hid y6
  have HW4 := Lib.hid hw4
  have HW5 := Lib.hid hw5
  have HW6 := Lib.hid hw6
  have R1 := Lib.hid hrun1
  have R2 := Lib.hid hrun2
  have HE := Lib.hid hE
  have HC1 := Lib.hid C1
  have HC2 := Lib.hid C2
  have g0 : ((i : Int) + 1).toNat = i + 1 := by omega
  clear x hw1 hA hr ha hrow hle hrun1 o1 b1 hti hrun2 o2 b2 e1 b12 x3 hcap8 hv8 hf8 epg elen y4 hw4 y5 hw5 y6 hw6 hE C1 C2 hs1 hc ht hi hl hn
  show Calls Try.prog 68 #[sV s r, .int .i64 (i : Int)] w fun e w' => SPost w r (leave s i) e w'
  go_enter Try.func68, Try.ntmps68
  go_wp2_with (first | fail | (at_builtin; first | (rw [HA.out]; refine append_run rfl (.tmp 10) (.tmp 14) 25 rfl rfl rfl R1.out ?_) | (refine append_run rfl (.tmp 16) (.tmp 21) 25 rfl rfl rfl R2.out ?_)))
  all_goals
    rw [← HW4.out]
    refine HC1.out.mono ?_
    rintro e w7 ⟨rfl, h7⟩
    subst h7
    clear d5 d5b d5c f5 e5 R1 R2 HW4 HC1 HA
    go_wp2_with fail
    rw [← HW5.out]
    refine HC2.out.mono ?_
    rintro e w8 ⟨rfl, h8⟩
    subst h8
    clear d8 f8 d8b HC2
    go_wp2_with (first | fail | (rw [← HW6.out]; refine ld31 rfl (.tmp 2) rfl _ rfl _ HY.out.fr.box ?_) | refine st31 rfl (.tmp 4) (.tmp 37) rfl _ _ _ rfl rfl _ HY.out.res ?_)
    refine bodyPost_ret (results_s rfl _ _ _ _ rfl (HY.out.res.rowSet (sA_len _ _))) rfl ?_
    rw [HE.out]
    exact HY.out.ret HY.out.fr.rows HY.out.fr.frm rfl
end Go.Proofs.Ytejcahkkpednfaa
namespace Go.Proofs.Ytejcahkkpednfaa
open Go.RowKit
open Go.Proofs.StackM (Pg Cf Ct St up many fnd fnd_at fnd_no)
open Go.Proofs.WheelM
set_option linter.unusedVariables false
set_option maxHeartbeats 2000000 in
set_option maxRecDepth 100000 in
theorem turn_at (s : St) (r : R3) (p : Pg) (l : List Pg) (hp : s.pg = p :: l) (hl : s.pg.length ≤ 1000) (hc : Hd s.co s.pg.length) (ht : Hd s.te s.pg.length) (w : World) (hr : SR w s r) : Calls Try.prog 86 #[sV s r] w (SPost w r (turnp s p)) := by
  have x := F2.start hr
  obtain ⟨w1, hw1⟩ : ∃ w1, w1 = (w.alloc (.cells (sA s r) 31)).alloc (.cells (sA S0 R0) 31) := ⟨_, rfl⟩
  rw [← hw1] at x
  have hA : ((w.alloc (.cells (sA s r) 31)).alloc (.cells #[.int .i64 0, .int .i64 0, .int .i64 0, .int .i64 0, .int .i64 0, .slice none 0 0, .slice none 0 0, .slice none 0 0, .int .i64 0, .int .i64 0, .int .u64 0, .int .u64 0, .int .u64 0, .int .u64 0, .int .u64 0, .int .u64 0, .int .u64 0, .int .u64 0, .int .u64 0, .int .u64 0] 31)) = w1 := hw1.symm
  have hs1 : w1.heap.size = w.heap.size + 2 := by rw [hw1]; simp
  have hi : 0 < s.pg.length := by rw [hp]; simp
  obtain ⟨b, off, ha, hcells⟩ := x.fr.rows.pg.row.at hi
  have hrow := x.fr.rows.pg.row
  have hle := x.fr.rows.pg.le
  rw [ha] at hrow
  obtain ⟨n, hn⟩ : ∃ n, n = s.pg.length := ⟨_, rfl⟩
  have l0 : (w1.alloc (.cells #[] 58)).ownsRow w1.heap.size 58 4 (.slice (some ⟨w1.heap.size, 0, none⟩) 0 0) 0 (pvals []) := World.ownsRow_lit (base := w1.heap.size) (e := 58) (size := 4) w1 #[] 0 (Nat.le_refl _) (by decide) rfl
  obtain ⟨v1, w2, hrun1, o1, b1'⟩ := appP (n := 0) (m := n - 1) (A := if r.c1 = 1 then some ⟨b, off, none⟩ else some ⟨b, off + 1 * 4, none⟩) (cap := r.c1 - 1) (r := s.pg.drop 1) l0 (prow_dropc (hrow.kept (alloc_below w1 (.cells #[] 58))) 1 (r.c1 - 1) hle) (by rw [List.length_drop, hn]) (by omega) (alloc_below w1 (.cells #[] 58)).size
  have b1 := (alloc_below w1 (.cells #[] 58)).trans b1'
  rw [Nat.zero_add, List.nil_append] at o1
  have hrow2 := hrow.kept b1
  obtain ⟨b', off', ha', hc2⟩ := PRow.at hrow2 hi
  injection ha' with ha'
  injection ha' with ha1 ha2
  subst ha1 ha2
  obtain ⟨c0, c1, c2, c3⟩ := hc2 0 hi
  rw [Nat.zero_mul, Nat.add_zero] at c0 c1 c2 c3
  have hp0 : s.pg[0] = p := by simp [hp]
  rw [hp0] at c0 c1 c2 c3
  obtain ⟨p0, p1, p2, p3⟩ := p
  dsimp only at c0 c1 c2 c3
  obtain ⟨v2, w3, hrun2, o2, b2⟩ := addP p0 p1 p2 p3 o1 (by omega) b1.size
  have e1 : n - 1 + 1 = n := by omega
  rw [e1] at o2
  have b12 := b1.trans b2
  have x3 := x.keep b12
  obtain ⟨A8, cc8, rfl, hcap8, hv8, hf8⟩ := owns_vrow o2
  have epg : s.pg.drop 1 ++ [(⟨p0, p1, p2, p3⟩ : Pg)] = s.pg.tail ++ [(⟨p0, p1, p2, p3⟩ : Pg)] := by rw [List.drop_one]
  rw [epg] at hv8
  have elen : (s.pg.tail ++ [(⟨p0, p1, p2, p3⟩ : Pg)]).length = n := by rw [hn, hp]; simp
  have y4 := x3.cellset (x3.fr.setPg (l := s.pg.tail ++ [(⟨p0, p1, p2, p3⟩ : Pg)]) (A := A8) (c := cc8) (n := n) ⟨hv8, fun a e => (hf8 a e).2, by rw [elen]; exact hcap8⟩ (fun a e => by have := (hf8 a e).1; have := x.fr.hi; omega) elen.symm)
  obtain ⟨w4, hw4⟩ : ∃ w4, w4 = w3.setCell ⟨w.heap.size, 5, none⟩ (.slice A8 n cc8) := ⟨_, rfl⟩
  rw [← hw4] at y4
  obtain ⟨co, hco⟩ : ∃ z, z = s.co := ⟨_, rfl⟩
  obtain ⟨te, hte⟩ : ∃ z, z = s.te := ⟨_, rfl⟩
  rw [← hco, ← hn] at hc
  rw [← hte, ← hn] at ht
  have y5 := y4.setCo ((co + n - 1) % n)
  obtain ⟨w5, hw5⟩ : ∃ w5, w5 = w4.setCell ⟨w.heap.size, 8, none⟩ (.int .i64 ((co + n - 1) % n)) := ⟨_, rfl⟩
  rw [← hw5] at y5
  have y6 := y5.setTe ((te + n - 1) % n)
  obtain ⟨w6, hw6⟩ : ∃ w6, w6 = w5.setCell ⟨w.heap.size, 9, none⟩ (.int .i64 ((te + n - 1) % n)) := ⟨_, rfl⟩
  rw [← hw6] at y6
  have d5 := at5 x.fr.box
  have d5b := at5 (x.keep (alloc_below w1 (.cells #[] 58))).fr.box
  have d5c := at5 (x.keep b1).fr.box
  have f5 := x3.fr.box.free 5
  have e5 := at5 x3.fr.box
  have d8 := at8 x3.fr.box
  have f8 := x3.fr.box.free 8
  have d9 := at9 x3.fr.box
  have f9 := x3.fr.box.free 9
  rw [← hco] at d8
  rw [← hte] at d9
  rw [← hA] at d5 d5b
  rw [← hn, ha] at d5 d5b d5c e5
  have hi' : 0 < n := by omega
  have z0 : (0 : Int) < (n : Int) := by omega
  have hl' : n ≤ 1000 := by omega
  have hcap : n ≤ r.c1 := by omega
  have q1 : 0 ≤ co ∧ co < n := by unfold Hd at hc; omega
  have q2 : 0 ≤ te ∧ te < n := by unfold Hd at ht; omega
  obtain ⟨q1a, q1b⟩ := q1
  obtain ⟨q2a, q2b⟩ := q2
  have g1 : 0 ≤ (co + n - 1) % n := by exact Int.emod_nonneg _ (by omega)
  have g2 : (co + n - 1) % n < n := by exact Int.emod_lt_of_pos _ z0
  have g3 : 0 ≤ (te + n - 1) % n := by exact Int.emod_nonneg _ (by omega)
  have g4 : (te + n - 1) % n < n := by exact Int.emod_lt_of_pos _ z0
  rw [hs1] at hrun1
  have hE : turnp s ⟨p0, p1, p2, p3⟩ = ⟨s.cf, s.tg, s.pg.tail ++ [⟨p0, p1, p2, p3⟩], s.qu, s.gh, (co + n - 1) % n, (te + n - 1) % n, s.ct⟩ := by
    rw [hco, hte, hn]; rfl
  have HA := Lib.hid hA
  have HY := Lib.hid y6
  have HW := Lib.hid (And.intro hw4 (And.intro hw5 hw6))
  have R1 := Lib.hid hrun1
  have R2 := Lib.hid hrun2
  have HE := Lib.hid hE
  clear x hw1 hA hr ha hrow hle hrun1 o1 b1 b1' l0 hrow2 hrun2 o2 b2 e1 b12 x3 hcap8 hv8 hf8 epg elen y4 hw4 y5 hw5 y6 hw6 hE hs1 hc ht hi hl hn hco hte hp hp0 hc2 hcells
  show Calls Try.prog 86 #[sV s r] w fun e w' => SPost w r (turnp s ⟨p0, p1, p2, p3⟩) e w'
  go_enter Try.func86, Try.ntmps86
  go_wp2_with (first | fail | (at_builtin; first | (rw [HA.out]; refine append_run rfl (.tmp 8) (.tmp 11) 25 rfl rfl rfl R1.out ?_) | (refine append_run rfl (.tmp 13) (.tmp 18) 25 rfl rfl rfl R2.out ?_)) | (rw [← HW.out.1, ← HW.out.2.1, ← HW.out.2.2]; refine ld31 rfl (.tmp 1) rfl _ rfl _ HY.out.fr.box ?_) | refine st31 rfl (.tmp 2) (.tmp 38) rfl _ _ _ rfl rfl _ HY.out.res ?_)
  all_goals
    refine bodyPost_ret (results_s rfl _ _ _ _ rfl (HY.out.res.rowSet (sA_len _ _))) rfl ?_
    rw [HE.out]
    exact HY.out.ret HY.out.fr.rows HY.out.fr.frm rfl
end Go.Proofs.Ytejcahkkpednfaa
namespace Go.Proofs.Ytejcahkkpednfaa
open Go.RowKit
open Go.Proofs.StackM (Pg Cf Ct St up many fnd fnd_at fnd_no)
open Go.Proofs.WheelM
set_option linter.unusedVariables false
/-- the frame with a page's block beside it -/
structure FQ (w : World) (r0 : R3) (w' : World) (s : St) (r : R3) (pb : Nat) (p : Pg) : Prop where
  f : F2 w r0 w' s r
  b : PB w' pb p
  up : w.heap.size + 2 ≤ pb
  n1 : ∀ a, r.a1 = some a → a.block ≠ pb
  n2 : ∀ a, r.a2 = some a → a.block ≠ pb
  n3 : ∀ a, r.a3 = some a → a.block ≠ pb
section
variable {w w1 w2 : World} {r0 r : R3} {s : St} {pb : Nat} {p : Pg}
theorem FQ.start (x : F2 w r0 w1 s r) (p : Pg) : FQ w r0 (w1.alloc (.cells #[.int .u64 p.key, .int .i64 p.kind, .bool p.test, .bool p.mark] 58)) s r w1.heap.size p :=
  ⟨x.keep (alloc_below _ _), heap_alloc_new _ _, x.fr.hi, fun a e => by have := x.fr.rows.pg.lt a e; omega, fun a e => by have := x.fr.rows.qu.lt a e; omega, fun a e => by have := x.fr.rows.gh.lt a e; omega⟩
/-- a cell of the state is set -/
theorem FQ.cell (x : FQ w r0 w1 s r pb p) (k : Nat) (v : Value) (s' : St) (he : (sA s r).setIfInBounds k v = sA s' r) (e1 : s'.pg = s.pg) (e2 : s'.qu = s.qu) (e3 : s'.gh = s.gh) : FQ w r0 (w1.setCell ⟨w.heap.size, k, none⟩ v) s' r pb p :=
  ⟨x.f.cellset (x.f.fr.set k v s' r he ⟨by rw [e1]; exact x.f.fr.rows.pg, by rw [e2]; exact x.f.fr.rows.qu, by rw [e3]; exact x.f.fr.rows.gh⟩ x.f.fr.frm), by
    unfold PB
    rw [Below.heap_setCell w1 ⟨w.heap.size, k, none⟩ v pb (by have := x.up; show pb ≠ w.heap.size; omega)]
    exact x.b, x.up, x.n1, x.n2, x.n3⟩
/-- a cell of the page is set -/
theorem FQ.page (x : FQ w r0 w1 s r pb p) (k : Nat) (v : Value) (p' : Pg) (he : (#[Value.int .u64 p.key, .int .i64 p.kind, .bool p.test, .bool p.mark]).setIfInBounds k v = #[.int .u64 p'.key, .int .i64 p'.kind, .bool p'.test, .bool p'.mark]) : FQ w r0 (w1.setCell ⟨pb, k, none⟩ v) s r pb p' := by
  have hs : (w1.setCell ⟨pb, k, none⟩ v).heap.size = w1.heap.size := by simp [World.setCell]
  have hup := x.up
  refine ⟨⟨⟨x.f.fr.box.cellOther (by show w.heap.size ≠ pb; omega), ⟨⟨vrow_set x.f.fr.rows.pg.row x.n1, fun a e => by rw [hs]; exact x.f.fr.rows.pg.lt a e, x.f.fr.rows.pg.le⟩, ⟨vrow_set x.f.fr.rows.qu.row x.n2, fun a e => by rw [hs]; exact x.f.fr.rows.qu.lt a e, x.f.fr.rows.qu.le⟩, ⟨vrow_set x.f.fr.rows.gh.row x.n3, fun a e => by rw [hs]; exact x.f.fr.rows.gh.lt a e, x.f.fr.rows.gh.le⟩⟩, x.f.fr.frm, x.f.fr.old, below_setCell x.f.fr.bel (by omega), x.f.fr.lo, x.f.fr.up, by rw [hs]; exact x.f.fr.hi⟩, x.f.res.cellOther (by show w.heap.size + 1 ≠ pb; omega)⟩, ?_, x.up, x.n1, x.n2, x.n3⟩
  have hb := x.b
  unfold PB at hb ⊢
  simp only [World.setCell, Array.getElem?_modify, ↓reduceIte, hb, Option.map_some]
  rw [← he]
  rfl
theorem FQ.keep (x : FQ w r0 w1 s r pb p) (hb : Below w1.heap.size w1 w2) : FQ w r0 w2 s r pb p := ⟨x.f.keep hb, x.b.kept hb x.b.lt, x.up, x.n1, x.n2, x.n3⟩
/-- the box is written over by what a call told -/
theorem FQ.all (x : FQ w r0 w1 s r pb p) {s' : St} {r' : R3} (hr : SR w1 s' r') (hf : Frm (w.heap.size + 2) r0 r') (hn : ∀ a, (r'.a1 = some a ∨ r'.a2 = some a ∨ r'.a3 = some a) → a.block ≠ pb) : FQ w r0 (w1.setRow w.heap.size (sA s' r')) s' r' pb p :=
  ⟨x.f.setAll hr hf, by
    have hb := x.b
    have hup := x.up
    unfold PB at hb ⊢
    simp only [World.setRow, Array.getElem?_modify]
    rw [if_neg (by omega)]
    exact hb, x.up, fun a e => hn a (.inl e), fun a e => hn a (.inr (.inl e)), fun a e => hn a (.inr (.inr e))⟩
/-- rows that a call told are none of the page's block -/
theorem FQ.new (x : FQ w r0 w1 s r pb p) {r' : R3} (h : Frm w1.heap.size r r') : ∀ a, (r'.a1 = some a ∨ r'.a2 = some a ∨ r'.a3 = some a) → a.block ≠ pb := by
  have hlt := x.b.lt
  intro a e
  obtain ⟨h1, h2, h3⟩ := h
  rcases e with e | e | e
  · rcases h1 with h1 | h1
    · exact x.n1 a (by rw [← h1]; exact e)
    · have := h1 a e; omega
  · rcases h2 with h2 | h2
    · exact x.n2 a (by rw [← h2]; exact e)
    · have := h2 a e; omega
  · rcases h3 with h3 | h3
    · exact x.n3 a (by rw [← h3]; exact e)
    · have := h3 a e; omega
end
end Go.Proofs.Ytejcahkkpednfaa
