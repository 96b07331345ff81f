/-
  The state that is worked on: a page is put at the head.
  The state that is worked on: pages are copied down by one place; the hot hand steps.
-/
import Derived.Test.YtejcahkkpednfaaG13
import Derived.Test.YtejcahkkpednfaaG11
namespace Go.Proofs.Ytejcahkkpednfaa
open Go.RowKit
open Go.Proofs.StackM (Pg Cf Ct St up many fnd fnd_at fnd_no)
open Go.Proofs.WheelM
set_option linter.unusedVariables false
theorem appP1 {w : World} {lo q : Nat} {v : Value} {l : List Pg} (p0 p1 : Int) (p2 p3 : Bool) (ho : w.ownsRow lo 58 4 v q (pvals l)) (hb : lo ≤ w.heap.size) (hq : q ≤ 90000) :
    ∃ g' cap' w2, (Builtin.append_ #[25, 25] 25 #[v, .slice (some ⟨w.heap.size, 0, none⟩) 1 1]).run Try.prog (w.alloc (.cells #[.int .u64 p0, .int .i64 p1, .bool p2, .bool p3] 58)) = .ok (.slice (some ⟨g', 0, none⟩) (q + 1) cap') w2 ∧ w2.ownsRow lo 58 4 (.slice (some ⟨g', 0, none⟩) (q + 1) cap') (q + 1) (pvals (l ++ [⟨p0, p1, p2, p3⟩])) ∧ w.grownBy w2 v.ownBlock ∧ (v.ownBlock = some g' ∨ w.heap.size ≤ g') := by
  obtain ⟨i0, hi, hz0, hz1, hz2⟩ := info_parts infoP
  have hs : (w.alloc (.cells #[.int .u64 p0, .int .i64 p1, .bool p2, .bool p3] 58)).heap.size = w.heap.size + 1 := by simp
  obtain ⟨g', cap', w2, h1, h2, h3, h4⟩ := run_append_foot (P := Try.prog) (w.alloc (.cells #[.int .u64 p0, .int .i64 p1, .bool p2, .bool p3] 58)) lo 25 25 58 i0 _ 4 _ Try.underlying25 hi hz0 hz1 hz2 rfl (by decide) v q (pvals l) (own_below ho (alloc_below w _)) ⟨w.heap.size, 0, none⟩ 1 (pvals [⟨p0, p1, p2, p3⟩]) rfl (fun j u hu => by
    have hj : j < 4 := (List.getElem?_eq_some_iff.1 hu).1
    rw [Lib.add_plain, World.cell?_alloc_new]
    match j, hj with
    | 0, _ => exact hu
    | 1, _ => exact hu
    | 2, _ => exact hu
    | 3, _ => exact hu) (pvals_one [_]) (by unfold maxLen; omega) (by omega) (by omega)
  refine ⟨g', cap', w2, h1, by rw [pvals_app]; exact h2, grown_tr (grown_any (World.grownBy_alloc w _ none) _) h3, ?_⟩
  rcases h4 with h4 | h4
  · exact .inl h4
  · exact .inr (by omega)
section
variable {lo B c : Nat} {w : World} {s : St} {r : R3} {A : Option Addr} {ev : List Int}
set_option maxHeartbeats 1000000 in
theorem phead_at (h : WK lo w B s r A c ev) (p0 p1 : Int) (p2 p3 : Bool) (hl : s.pg.length ≤ 2000) : Calls Try.prog 42 #[.pointer (some ⟨B, 0, none⟩), .agg #[.int .u64 p0, .int .i64 p1, .bool p2, .bool p3]] w fun e w' => e = .returned (.tuple #[]) ∧ WP lo w B (head s ⟨p0, p1, p2, p3⟩) ev w' := by
  obtain ⟨w1, hw1⟩ : ∃ w1, w1 = w.alloc (.cells #[.int .u64 p0, .int .i64 p1, .bool p2, .bool p3] 58) := ⟨_, rfl⟩
  have hs1 : w1.heap.size = w.heap.size + 1 := by rw [hw1]; simp
  have hb1 : Below w.heap.size w w1 := by rw [hw1]; exact alloc_below w _
  have hd : Below w.heap.size w w1.drew := below_drew hb1 1
  have hD := h.kept hd
  obtain ⟨g', cap', w2, hrun, ho2, hg2, hn2⟩ := appP1 p0 p1 p2 p3 hD.rows.pg hD.low (by omega)
  have hrun' : (Builtin.append_ #[25, 25] 25 #[.slice r.a1 s.pg.length r.c1, .slice (some ⟨w1.heap.size, 0, none⟩) 1 1]).run Try.prog ((w1.alloc (.cells #[.int .u64 p0, .int .i64 p1, .bool p2, .bool p3] 58)).drew) = .ok (.slice (some ⟨g', 0, none⟩) (s.pg.length + 1) cap') w2 := hrun
  rw [hs1] at hrun'
  have hgr : w1.drew.grownBy w2 (ob r.a1) := by rw [← ob_eq]; exact hg2
  have hlen : s.pg.length + 1 = (s.pg ++ [(⟨p0, p1, p2, p3⟩ : Pg)]).length := by simp
  have hx := hD.pgTo (l := s.pg ++ [⟨p0, p1, p2, p3⟩]) (A' := some ⟨g', 0, none⟩) (c' := cap') (n := s.pg.length + 1) hgr (by rw [← hlen]; exact ho2) hlen
  have hbx := box_grown hD.box hD.rows.pg (by decide) hgr
  have e5 : w2.cell? ⟨B, 5, none⟩ = some (.slice r.a1 s.pg.length r.c1) := by rw [cell_of_head hbx]; rfl
  have f5 : w2.frozen? ⟨B, 5, none⟩ = false := frozen_of_head hbx 5
  have hb2 : Below lo w (w2.setCell ⟨B, 5, none⟩ (.slice (some ⟨g', 0, none⟩) (s.pg.length + 1) cap')) := below_setCell ((hd.mono h.low).trans (grown_lo hD.rows.pg hgr hD.low)) h.hlo
  have HX := Lib.hid (hx.to hb2)
  have h5 := (h.kept hb1)
  have h6 := h.kept (hb1.trans ((alloc_below w1 (.cells #[.int .u64 p0, .int .i64 p1, .bool p2, .bool p3] 58)).mono hb1.size))
  have d5 := h5.at5
  have d5b := h6.at5
  have e0 : w1.cell? ⟨w.heap.size, 0, none⟩ = some (.int .u64 p0) := by rw [hw1, World.cell?_alloc_new]; rfl
  have e1 : w1.cell? ⟨w.heap.size, 1, none⟩ = some (.int .i64 p1) := by rw [hw1, World.cell?_alloc_new]; rfl
  have e2 : w1.cell? ⟨w.heap.size, 2, none⟩ = some (.bool p2) := by rw [hw1, World.cell?_alloc_new]; rfl
  have e3 : w1.cell? ⟨w.heap.size, 3, none⟩ = some (.bool p3) := by rw [hw1, World.cell?_alloc_new]; rfl
  have HR := Lib.hid hrun'
  have HW := Lib.hid hw1
  have hne : B ≠ w.heap.size + 1 := by have := h.lt; omega
  obtain ⟨n, hn⟩ : ∃ n, n = s.pg.length := ⟨_, rfl⟩
  rw [← hn] at d5 d5b e5 HR HX
  clear hn h hw1 hb1 hd hD hrun hrun' ho2 hg2 hn2 hgr hlen hx hbx hb2 h5 h6
  go_enter Try.func42, Try.ntmps42
  go_wp2_with fail
  rw [← HW.out]
  go_region_law ((refine step_append_run rfl (.tmp 9) (.tmp 11) 25 rfl rfl rfl HR.out ?_))
  all_goals (go_wp2_with fail)
  all_goals go_end0
  all_goals exact ⟨rfl, HX.out⟩
end
end Go.Proofs.Ytejcahkkpednfaa
namespace Go.Proofs.Ytejcahkkpednfaa
open Go.RowKit
open Go.Proofs.StackM (Pg Cf Ct St up many fnd fnd_at fnd_no)
open Go.Proofs.WheelM
set_option linter.unusedVariables false
theorem step_copy_run {P : Program} {w : World} {ops : Array Oper} {o : Oper} {a : Act} {K : Act → World → Prop} {Q : Exit → Act → World → Prop} {E : Prop} (hgd : o.guard = none) (s x : Operand) (t : TypeId)
    (hop : o.op = Op.call { callee := Callee.builtin Builtin.copy, args := #[s, x], argTypes := #[t, t] }) {v u v' : Value} {w' : World} (hs : a.eval s = v) (hx : a.eval x = u)
    (hrun : (Builtin.copy_ #[t, t] o.type #[v, u]).run P w = .ok v' w') (hK : K (a.put o.dst v') w') : if Region.wanted o (yielded ops a.tmps) = true then Oper.wp P o a w K Q else E := by
  have hw : Region.wanted o (yielded ops a.tmps) = true := by simp [Region.wanted, hgd]
  rw [if_pos hw]
  unfold Oper.wp
  simp [execOp, hop, resolve, invoke, builtin, hs, hx, hrun, Result.andThen]
  exact hK
theorem copy_down {w : World} {lo g m c sCap : Nat} {l : List Pg} (ty : TypeId) (ho : w.ownsRow lo 58 4 (.slice (some ⟨g, 0, none⟩) (m + 1) c) (m + 1) (pvals l)) (a : Addr) (ha : m ≠ 0 → a = ⟨g, 4, none⟩) :
    ∃ w', (Builtin.copy_ #[25, 25] ty #[.slice (some ⟨g, 0, none⟩) (m + 1) c, .slice (some a) m sCap]).run Try.prog w = .ok (goInt m) w' ∧ w'.ownsRow lo 58 4 (.slice (some ⟨g, 0, none⟩) (m + 1) c) (m + 1) (pvals (l.drop 1 ++ l.drop m)) ∧ w.grownBy w' (some g) := by
  have hol := ho.1
  have ho' := ho
  rcases ho.2 with ⟨h, _⟩ | ⟨g', cap, cur, hv, hg, hgb, hcap, hcm, hsz, hcur⟩
  · cases h
  injection hv with h1 _ h3
  injection h1 with h1
  injection h1 with h1
  subst h1
  subst h3
  have hlen : (pvals (l.drop 1)).length = m * 4 := by rw [pvals_drop, List.length_drop, hol]; omega
  have hmc : (m + 1) * 4 ≤ c * 4 := Nat.mul_le_mul_right 4 hcap
  have run := run_copy_rowK (P := Try.prog) w 25 25 ty 58 4 g 0 (m + 1) c a m sCap cur 58 (pvals (l.drop 1)) m Try.underlying25 size59 hgb (by simp) hlen (fun j v hj => by
    have hjl : j < m * 4 := by rw [← hlen]; exact (List.getElem?_eq_some_iff.1 hj).1
    have e := ha (by omega)
    subst e
    rw [pvals_drop, List.getElem?_drop] at hj
    have := ho'.cellAt (4 + j) (by omega)
    rw [Nat.one_mul] at hj
    rw [Lib.add_plain, this]
    exact hj) (by rw [hlen, hsz]; omega) (pvals_one _)
  refine ⟨_, run, ⟨?_, .inr ⟨g, c, _, rfl, hg, setRow_heap _ _ _ _ _ _ hgb, hcap, hcm, ?_, ?_⟩⟩, grown_setRow _⟩
  · rw [pvals_app, List.length_append, hlen, pvals_drop, List.length_drop, hol]; omega
  · rw [List.size_toArray, List.length_append, List.length_append, List.length_take, List.length_drop, hlen]
    have : cur.toList.length = c * 4 := by rw [Array.length_toList, hsz]
    omega
  · rw [Nat.zero_add, List.take_zero, List.nil_append, hlen, pvals_app]
    rw [List.take_append, hlen]
    rw [List.take_of_length_le (by rw [hlen]; omega)]
    refine congrArg (pvals (l.drop 1) ++ ·) ?_
    rw [pvals_drop, ← hcur, List.drop_take]
theorem copy_down2 {w : World} {lo g m c sCap : Nat} {l : List Pg} (ty : TypeId) (ho : w.ownsRow lo 58 4 (.slice (some ⟨g, 0, none⟩) (m + 1) c) (m + 1) (pvals l)) :
    ∃ w', (Builtin.copy_ #[25, 25] ty #[.slice (some ⟨g, 0, none⟩) (m + 1) c, .slice (if c = 1 then some ⟨g, 0, none⟩ else some ⟨g, 0 + 1 * 4, none⟩) m sCap]).run Try.prog w = .ok (goInt m) w' ∧ w'.ownsRow lo 58 4 (.slice (some ⟨g, 0, none⟩) (m + 1) c) (m + 1) (pvals (l.drop 1 ++ l.drop m)) ∧ w.grownBy w' (some g) := by
  have hc := owns_cap ho
  by_cases h1 : c = 1
  · rw [if_pos h1]
    exact copy_down ty ho ⟨g, 0, none⟩ (fun h => absurd h (by omega))
  · rw [if_neg h1]
    exact copy_down ty ho _ (fun h => rfl)
section
variable {lo B c : Nat} {w : World} {s : St} {r : R3} {A : Option Addr} {ev : List Int}
theorem penc_sets (x : Pg) (p0 p1 : Int) (p2 p3 : Bool) : ((((penc x).set 0 (.int .u64 p0)).set 1 (.int .i64 p1)).set 2 (.bool p2)).set 3 (.bool p3) = penc ⟨p0, p1, p2, p3⟩ := rfl
theorem owns_page {w : World} {lo g n c i : Nat} {l : List Pg} (ho : w.ownsRow lo 58 4 (.slice (some ⟨g, 0, none⟩) n c) n (pvals l)) (hi : i < l.length) (p0 p1 : Int) (p2 p3 : Bool) :
    ((((w.setCell ⟨g, i * 4, none⟩ (.int .u64 p0)).setCell ⟨g, i * 4 + 1, none⟩ (.int .i64 p1)).setCell ⟨g, i * 4 + 2, none⟩ (.bool p2)).setCell ⟨g, i * 4 + 3, none⟩ (.bool p3)).ownsRow lo 58 4 (.slice (some ⟨g, 0, none⟩) n c) n (pvals (l.set i ⟨p0, p1, p2, p3⟩)) := by
  rw [pvals_set l i hi]
  exact ((((ho.stored (i * 4) _).1.stored (i * 4 + 1) _).1.stored (i * 4 + 2) _).1.stored (i * 4 + 3) _).1
theorem grown_page (w : World) (g i : Nat) (p0 p1 : Int) (p2 p3 : Bool) :
    w.grownBy ((((w.setCell ⟨g, i * 4, none⟩ (.int .u64 p0)).setCell ⟨g, i * 4 + 1, none⟩ (.int .i64 p1)).setCell ⟨g, i * 4 + 2, none⟩ (.bool p2)).setCell ⟨g, i * 4 + 3, none⟩ (.bool p3)) (some g) :=
  grown_tr (grown_tr (grown_tr (grown_setCell w g _ _) (grown_setCell _ g _ _)) (grown_setCell _ g _ _)) (grown_setCell _ g _ _)
set_option maxHeartbeats 4000000 in
set_option maxRecDepth 100000 in
theorem stepHot_at (h : WK lo w B s r A c ev) (p : Pg) (l : List Pg) (hp : s.pg = p :: l) (hl : s.pg.length ≤ 1000) (hc : Hd s.co s.pg.length) (ht : Hd s.te s.pg.length) : Calls Try.prog 78 #[.pointer (some ⟨B, 0, none⟩)] w fun e w' => e = .returned (.tuple #[]) ∧ WP lo w B (turnp s p) ev w' := by
  obtain ⟨m, hm⟩ : ∃ m, m = l.length := ⟨_, rfl⟩
  have hlen : s.pg.length = m + 1 := by rw [hp, hm]; rfl
  obtain ⟨g, ha, hcap, q0, q1, q2, q3, fz⟩ := h.page (i := 0) (by omega)
  have hz : s.pg[0] = p := by simp [hp]
  rw [hz] at q0 q1 q2 q3
  obtain ⟨p0, p1, p2, p3⟩ := p
  dsimp only at q0 q1 q2 q3
  have hz' := fz 0
  -- the page is kept aside
  have d5c := (h.kept (alloc_below w (.cells #[.int .u64 p0, .int .i64 p1, .bool p2, .bool p3] 58))).at5
  have hb0 := alloc_below w (.cells #[.int .u64 0, .int .i64 0, .bool false, .bool false] 58)
  have h0 := h.kept hb0
  obtain ⟨g', ha', _, y0, y1, y2, y3, fz0⟩ := h0.page (i := 0) (by omega)
  obtain rfl : g = g' := by rw [ha] at ha'; injection ha' with h; injection h
  rw [hz] at y0 y1 y2 y3
  dsimp only at y0 y1 y2 y3
  have d5 := h.at5
  have d5b := h0.at5
  rw [ha, hlen] at d5 d5b d5c
  obtain ⟨w1, hw1⟩ : ∃ w1, w1 = (w.alloc (.cells #[.int .u64 p0, .int .i64 p1, .bool p2, .bool p3] 58)).drew := ⟨_, rfl⟩
  have hb1 : Below w.heap.size w w1 := by rw [hw1]; exact below_drew (alloc_below w _) 1
  have h1 := h.kept hb1
  have k0 : w1.cell? ⟨w.heap.size, 0, none⟩ = some (.int .u64 p0) := by rw [hw1]; show (w.alloc _).cell? _ = _; rw [World.cell?_alloc_new]; rfl
  have k1 : w1.cell? ⟨w.heap.size, 1, none⟩ = some (.int .i64 p1) := by rw [hw1]; show (w.alloc _).cell? _ = _; rw [World.cell?_alloc_new]; rfl
  have k2 : w1.cell? ⟨w.heap.size, 2, none⟩ = some (.bool p2) := by rw [hw1]; show (w.alloc _).cell? _ = _; rw [World.cell?_alloc_new]; rfl
  have k3 : w1.cell? ⟨w.heap.size, 3, none⟩ = some (.bool p3) := by rw [hw1]; show (w.alloc _).cell? _ = _; rw [World.cell?_alloc_new]; rfl
  have x5 := h1.at5
  rw [ha, hlen] at x5
  -- the others are copied down
  have hb2 : Below w1.heap.size w1 w1.drew := below_drew (Below.refl _ _) 1
  have h2 := h1.kept hb2
  have o2 := h2.rows.pg
  rw [ha, hlen] at o2
  obtain ⟨w3, hcp, o3, g3⟩ := copy_down2 (sCap := r.c1 - 1) 3 o2
  have gr3 : w1.drew.grownBy w3 (ob r.a1) := by rw [ha]; exact g3
  have hl3 : (s.pg.drop 1 ++ s.pg.drop m).length = m + 1 := by rw [List.length_append, List.length_drop, List.length_drop, hlen]; omega
  have h3 := h2.pgSame (l := s.pg.drop 1 ++ s.pg.drop m) gr3 (by rw [hl3, ha]; exact o3) (hl3.trans hlen.symm)
  have o3' := h3.rows.pg
  dsimp only at o3'
  rw [hl3, ha] at o3'
  have o4 := owns_page (i := m) o3' (by rw [hl3]; omega) p0 p1 p2 p3
  have g4 := grown_page w3 g m p0 p1 p2 p3
  obtain ⟨w4, hw4⟩ : ∃ w4, w4 = (((w3.setCell ⟨g, m * 4, none⟩ (.int .u64 p0)).setCell ⟨g, m * 4 + 1, none⟩ (.int .i64 p1)).setCell ⟨g, m * 4 + 2, none⟩ (.bool p2)).setCell ⟨g, m * 4 + 3, none⟩ (.bool p3) := ⟨_, rfl⟩
  rw [← hw4] at o4 g4
  have hset : (s.pg.drop 1 ++ s.pg.drop m).set m ⟨p0, p1, p2, p3⟩ = s.pg.tail ++ [⟨p0, p1, p2, p3⟩] := by
    have e1 : (s.pg.drop 1).length = m := by rw [List.length_drop, hlen]; omega
    have e2 : (s.pg.drop m).length = 1 := by rw [List.length_drop, hlen]; omega
    obtain ⟨y, hy⟩ := List.length_eq_one_iff.1 e2
    rw [hy, List.set_append_right _ _ (by omega), e1, Nat.sub_self, List.drop_one]
    rfl
  rw [hset] at o4
  have gr4 : w3.grownBy w4 (ob r.a1) := by rw [ha]; exact g4
  have hl4 : (s.pg.tail ++ [(⟨p0, p1, p2, p3⟩ : Pg)]).length = m + 1 := by rw [List.length_append, List.length_tail, hlen]; rfl
  have h4 := h3.pgSame (l := s.pg.tail ++ [⟨p0, p1, p2, p3⟩]) gr4 (by rw [hl4, ha]; exact o4) (by show _ = (s.pg.drop 1 ++ s.pg.drop m).length; rw [hl4, hl3])
  have hwg : w.heap.size ≠ g := by have := (h.rows.pg.lt g (by rw [ha]; rfl)).2; omega
  have pb1 : w1.heap[w.heap.size]? = some (.cells #[.int .u64 p0, .int .i64 p1, .bool p2, .bool p3] 58 (0, 0)) := by rw [hw1]; exact Array.getElem?_push_size
  have pb3 : w3.heap[w.heap.size]? = some (.cells #[.int .u64 p0, .int .i64 p1, .bool p2, .bool p3] 58 (0, 0)) := by rw [g3.block w.heap.size (Array.getElem?_eq_some_iff.1 pb1).1 (fun e => hwg (by injection e))]; exact pb1
  have v0 : w3.cell? ⟨w.heap.size, 0, none⟩ = some (.int .u64 p0) := by rw [cell_of_head pb3]; rfl
  have v1 : w3.cell? ⟨w.heap.size, 1, none⟩ = some (.int .i64 p1) := by rw [cell_of_head pb3]; rfl
  have v2 : w3.cell? ⟨w.heap.size, 2, none⟩ = some (.bool p2) := by rw [cell_of_head pb3]; rfl
  have v3 : w3.cell? ⟨w.heap.size, 3, none⟩ = some (.bool p3) := by rw [cell_of_head pb3]; rfl
  have fr3 : ∀ k, w3.frozen? ⟨g, k, none⟩ = false := fun k => o3.frozenAt k
  obtain ⟨t0, t1, t2, t3, u0, u1, u2, u3⟩ : ∃ t0 t1 t2 t3, w3.cell? ⟨g, m * 4, none⟩ = some t0 ∧ w3.cell? ⟨g, m * 4 + 1, none⟩ = some t1 ∧ w3.cell? ⟨g, m * 4 + 2, none⟩ = some t2 ∧ w3.cell? ⟨g, m * 4 + 3, none⟩ = some t3 := by
    obtain ⟨g9, ha9, _, u0, u1, u2, u3, _⟩ := h3.page (i := m) (by show m < (s.pg.drop 1 ++ s.pg.drop m).length; rw [hl3]; omega)
    obtain rfl : g = g9 := by rw [ha] at ha9; injection ha9 with h; injection h
    exact ⟨_, _, _, _, u0, u1, u2, u3⟩
  have x5b := h3.at5
  dsimp only at x5b
  rw [hl3, ha] at x5b
  have x8 := h4.at8
  have x85 := h4.at5
  dsimp only at x8 x85
  rw [hl4, ha] at x85
  have f8 := h4.free 8
  have h6 := h4.coTo ((s.co + (m : Int)) % ((m : Int) + 1))
  obtain ⟨w5, hw5⟩ : ∃ w5, w5 = w4.setCell ⟨B, 8, none⟩ (.int .i64 ((s.co + (m : Int)) % ((m : Int) + 1))) := ⟨_, rfl⟩
  rw [← hw5] at h6
  have x9 := h6.at9
  have x95 := h6.at5
  dsimp only at x9 x95
  rw [hl4, ha] at x95
  have f9 := h6.free 9
  have h8 := h6.teTo ((s.te + (m : Int)) % ((m : Int) + 1))
  have hb4 : Below lo w w4 := (((hb1.trans (hb2.mono hb1.size)).mono h.low).trans (grown_lo h2.rows.pg gr3 h2.low)).trans (grown_lo h3.rows.pg gr4 h3.low)
  have hb5 : Below lo w w5 := by rw [hw5]; exact below_setCell hb4 h.hlo
  have hb9 : Below lo w (w5.setCell ⟨B, 9, none⟩ (.int .i64 ((s.te + (m : Int)) % ((m : Int) + 1)))) := below_setCell hb5 h.hlo
  have c0 : 0 ≤ s.co := hc.1
  have c1 : s.co ≤ 1000 := by have := hc.2; omega
  have t0' : 0 ≤ s.te := ht.1
  have t1' : s.te ≤ 1000 := by have := ht.2; omega
  have ec : (s.co + (m : Int)) % ((m : Int) + 1) = bkw s.co s.pg.length := by
    unfold bkw; rw [hlen]; congr 1; omega
  have et : (s.te + (m : Int)) % ((m : Int) + 1) = bkw s.te s.pg.length := by
    unfold bkw; rw [hlen]; congr 1; omega
  have hE : ({ s with pg := s.pg.tail ++ [⟨p0, p1, p2, p3⟩], co := (s.co + (m : Int)) % ((m : Int) + 1), te := (s.te + (m : Int)) % ((m : Int) + 1) } : St) = turnp s ⟨p0, p1, p2, p3⟩ := by
    rw [ec, et]; rfl
  have H8 := Lib.hid (h8.to hb9)
  have HE := Lib.hid hE
  have tc1 : 0 ≤ (s.co + (m : Int)) % ((m : Int) + 1) := by exact Int.emod_nonneg _ (by omega)
  have tc2 : (s.co + (m : Int)) % ((m : Int) + 1) < (m : Int) + 1 := by exact Int.emod_lt_of_pos _ (by omega)
  have tt1 : 0 ≤ (s.te + (m : Int)) % ((m : Int) + 1) := by exact Int.emod_nonneg _ (by omega)
  have tt2 : (s.te + (m : Int)) % ((m : Int) + 1) < (m : Int) + 1 := by exact Int.emod_lt_of_pos _ (by omega)
  obtain ⟨co, hco⟩ : ∃ z, z = s.co := ⟨_, rfl⟩
  obtain ⟨te, hte⟩ : ∃ z, z = s.te := ⟨_, rfl⟩
  rw [← hco] at x8 c0 c1 tc1 tc2 hw5
  rw [← hte] at x9 t0' t1' tt1 tt2
  have HCT := Lib.hid (And.intro hco hte)
  have HW := Lib.hid (And.intro hw1 (And.intro hw4 hw5))
  have HC := Lib.hid hcp
  have HP := Lib.hid (And.intro hp (And.intro hlen ha))
  have hm1 : m + 1 ≤ 1000 := by omega
  have hcap' : m + 1 ≤ r.c1 := by omega
  have hwm : IntKind.i64.wrap (((m + 1 : Nat) : Int) - 1) = (m : Int) := by rw [IntKind.wrap_i64]; omega
  have z1 : (1 : Int) ≤ (m : Int) + 1 := by omega
  have z2 : (m : Int) + 1 ≤ (r.c1 : Int) := by omega
  have z3 : (0 : Int) ≤ (m : Int) := by omega
  have z4 : (m : Int) < (m : Int) + 1 := by omega
  have hBg : B ≠ g := fun e => box_row h.box h.rows.pg (by decide) ⟨g, 0, none⟩ ha e.symm
  have hwB : w.heap.size ≠ B := by have := h.lt; omega
  simp only [Nat.zero_mul, Nat.zero_add] at q0 q1 q2 q3 y0 y1 y2 y3
  clear hw1 hw4 hw5 hco hte ec et hE hb5 hcp hp hlen h hb0 h0 hb1 h1 hb2 h2 o2 o3 g3 gr3 hl3 h3 o3' o4 g4 hset gr4 hl4 h4 h6 h8 hb4 hb9 hm hz hz' pb1 pb3 ha ha' hc ht hl
  go_enter Try.func78, Try.ntmps78
  go_wp2_with fail
  go_region
  rw [← HW.out.1]
  go_wp2_with fail
  go_region_law ((refine step_copy_run rfl (.tmp 22) (.tmp 28) 25 rfl rfl rfl HC.out ?_))
  all_goals go_wp2_with fail
  all_goals go_region
  all_goals rw [← HW.out.2.1]
  all_goals go_wp2_with fail
  all_goals go_region
  all_goals rw [← HW.out.2.2]
  all_goals go_wp2_with fail
  all_goals go_region
  all_goals go_wp2_with fail
  all_goals go_end0
  all_goals exact ⟨rfl, by rw [← HE.out, HCT.out.2]; first | exact H8.out.drew.drew.drew | exact H8.out.drew.drew | exact H8.out.drew⟩
end
end Go.Proofs.Ytejcahkkpednfaa
