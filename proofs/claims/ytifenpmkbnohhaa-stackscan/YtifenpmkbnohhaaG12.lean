/-
  The bottom is taken; the stack is pruned.
  The stack that is worked on is pruned.
-/
import Derived.Test.YtifenpmkbnohhaaG11
namespace Go.Proofs.Ytifenpmkbnohhaa
open Go.RowKit
open Go.Proofs.StackM
set_option linter.unusedVariables false
theorem st59 {ops : Array Oper} {rest : List Oper} {o : Oper} {a : Act} {w : World} {Q : Exit → Act → World → Prop} (hgd : o.guard = none) (x y : Operand) (ho : o.op = .store 59 x y) (g : Nat) (p0 p1 : Int) (p2 p3 : Bool) (hx : a.eval x = .pointer (some ⟨g, 0, none⟩)) (hy : a.eval y = .agg #[.int .u64 p0, .int .i64 p1, .bool p2, .bool p3])
    (old : Array Value) (hold : old.size = 4) (hb : w.heap[g]? = some (.cells old 59 (0, 0)))
    (hK : wpList Try.prog ops Q rest a (w.setRow g #[.int .u64 p0, .int .i64 p1, .bool p2, .bool p3])) (hd : o.dst = none := by rfl) : wpList Try.prog ops Q (o :: rest) a w :=
  wpList_store_row hgd 59 x y ho g #[.int .u64 p0, .int .i64 p1, .bool p2, .bool p3] hx hy 59 old hb info59 (by rw [hold]; rfl) (by simp [Value.oneCell']) (by rw [hd]; exact hK)
theorem results_p {fn : Func} {p : Tmp} (h : fn.results = #[.cell p 59]) (tmps : Array Value) (w : World) (g : Nat) (cs : Array Value)
    (hp : tmps.getD p undef = .pointer (some ⟨g, 0, none⟩)) (hg : w.heap[g]? = some (.cells cs 59 (0, 0))) (hs : cs.size = 4) : (results fn tmps).run Try.prog w = .ok (.agg cs) w := by
  have hp' : tmps[p]?.getD undef = .pointer (some ⟨g, 0, none⟩) := by simpa using hp
  have hl : (loadVar 59 ⟨g, 0, none⟩).run Try.prog w = .ok (.agg cs) w := run_loadVar_row (P := Try.prog) w g 59 59 cs (0, 0) _ hg Try.underlying59 rfl (by rw [hs]; kernel_rfl)
  simp only [results, h]
  simp [hp', asAddr, hl]
section
variable {lo B c : Nat} {w w' : World} {s s' : St} {r r' : R3} {A A' : Option Addr} {ev ev' : List Int} {c' : Nat}
theorem WK.viaBox (h : WK lo w B s r A c ev) (hg : w.grownBy w' (some B)) (hb : w'.heap[B]? = some (.cells (spA s' r' A' ev'.length c') 68 (0, 0))) (hr : WR lo w s' r' A' c' ev') : WK lo w' B s' r' A' c' ev' :=
  ⟨hb, h.hlo, ⟨owns_grown hr.pg hg (fun a e e2 => box_row h.box hr.pg (by decide) a e (by injection e2)), owns_grown hr.qu hg (fun a e e2 => box_row h.box hr.qu (by decide) a e (by injection e2)), owns_grown hr.gh hg (fun a e e2 => box_row h.box hr.gh (by decide) a e (by injection e2)), owns_grown hr.ev hg (fun a e e2 => box_row h.box hr.ev (by decide) a e (by injection e2)), hr.qg, hr.qe, hr.ge⟩⟩
theorem pvals_dropLast {l : List Pg} {m : Nat} (hm : l.length = m + 1) : pvals l.dropLast = (pvals l).take (m * 4) := by
  rw [List.dropLast_eq_take, pvals_take, hm, Nat.add_sub_cancel]
theorem WR.cut (h : WR lo w s r A c ev) {m : Nat} (hm : s.pg.length = m + 1) : WR lo w { s with pg := s.pg.dropLast } r A c ev := by
  refine ⟨?_, h.qu, h.gh, h.ev, h.qg, h.qe, h.ge⟩
  have := owns_cut h.pg (m := m) (by omega)
  show w.ownsRow lo 59 4 (.slice r.a1 s.pg.dropLast.length r.c1) s.pg.dropLast.length (pvals s.pg.dropLast)
  rw [List.length_dropLast, hm, Nat.add_sub_cancel, pvals_dropLast hm]
  exact this
set_option maxHeartbeats 1000000 in
set_option maxRecDepth 100000 in
theorem bottom_take2 (h : WK lo w B s r A c ev) (p : Pg) (hp : s.pg.getLast? = some p) (hb : s.pg.length ≤ 1000000) :
    Calls Try.prog 65 #[.pointer (some ⟨B, 0, none⟩)] w fun e w' => e = .returned (.agg #[.int .u64 p.key, .int .i64 p.kind, .bool p.test, .bool p.mark]) ∧ (WK lo w' B { s with pg := s.pg.dropLast } r A c ev ∧ Below lo w w') := by
  obtain ⟨hi, hlast, hpos⟩ := last_at hp
  obtain ⟨b, off, ha, hc⟩ := h.prow.at hi
  obtain ⟨m, hm⟩ : ∃ m, s.pg.length = m + 1 := ⟨s.pg.length - 1, by omega⟩
  obtain ⟨c0, c1, c2, c3⟩ := hc _ hi
  rw [hlast] at c0 c1 c2 c3
  obtain ⟨p0, p1, p2, p3⟩ := p
  dsimp only at c0 c1 c2 c3 ⊢
  have b1 := alloc_below w (.cells #[.int .u64 0, .int .i64 0, .bool false, .bool false] 59)
  have h1 := h.kept b1
  have d5 := h1.at5
  rw [ha, hm] at d5
  have hbl : b < w.heap.size := Lib.lt_of_cell c0
  rw [hm, Nat.add_sub_cancel] at c0 c1 c2 c3
  obtain ⟨w1, hw1⟩ : ∃ w1, w1 = w.alloc (.cells #[.int .u64 0, .int .i64 0, .bool false, .bool false] 59) := ⟨_, rfl⟩
  rw [← hw1] at b1 h1 d5
  have c0' := (b1.cell (p := ⟨b, off + m * 4, none⟩) hbl).trans c0
  have c1' := (b1.cell (p := ⟨b, off + m * 4 + 1, none⟩) hbl).trans c1
  have c2' := (b1.cell (p := ⟨b, off + m * 4 + 2, none⟩) hbl).trans c2
  have c3' := (b1.cell (p := ⟨b, off + m * 4 + 3, none⟩) hbl).trans c3
  have hg0 : w1.heap[w.heap.size]? = some (.cells #[.int .u64 0, .int .i64 0, .bool false, .bool false] 59 (0, 0)) := by rw [hw1]; exact heap_alloc_new w _
  have hs1 : w1.heap.size = w.heap.size + 1 := by rw [hw1]; simp
  have b2 := alloc_below w1 (.cells #[.int .u64 p0, .int .i64 p1, .bool p2, .bool p3] 59)
  obtain ⟨w2, hw2⟩ : ∃ w2, w2 = w1.alloc (.cells #[.int .u64 p0, .int .i64 p1, .bool p2, .bool p3] 59) := ⟨_, rfl⟩
  have h2 := h1.kept b2
  rw [← hw2] at b2 h2
  have e5 := h2.at5
  rw [ha, hm] at e5
  have f5 := h2.free 5
  have hg1 : w2.heap[w1.heap.size]? = some (.cells #[.int .u64 p0, .int .i64 p1, .bool p2, .bool p3] 59 (0, 0)) := by rw [hw2]; exact heap_alloc_new w1 _
  obtain ⟨g1, hg1e⟩ : ∃ g1, g1 = w1.heap.size := ⟨_, rfl⟩
  obtain ⟨g0, hg0e⟩ : ∃ g0, g0 = w.heap.size := ⟨_, rfl⟩
  rw [← hg1e] at hg1
  rw [← hg0e] at hg0
  have i0 : w2.cell? ⟨g1, 0, none⟩ = some (.int .u64 p0) := by rw [cell_of_head hg1]; rfl
  have i1 : w2.cell? ⟨g1, 1, none⟩ = some (.int .i64 p1) := by rw [cell_of_head hg1]; rfl
  have i2 : w2.cell? ⟨g1, 2, none⟩ = some (.bool p2) := by rw [cell_of_head hg1]; rfl
  have i3 : w2.cell? ⟨g1, 3, none⟩ = some (.bool p3) := by rw [cell_of_head hg1]; rfl
  have hBg1 : B ≠ g1 := by have := h1.lt; omega
  have hBg0 : B ≠ g0 := by have := h.lt; omega
  have hg02 : w2.heap[g0]? = some (.cells #[.int .u64 0, .int .i64 0, .bool false, .bool false] 59 (0, 0)) := by rw [b2.block g0 (by omega)]; exact hg0
  have hg03 : (w2.setCell ⟨B, 5, none⟩ (.slice (some ⟨b, off, none⟩) m r.c1)).heap[g0]? = some (.cells #[.int .u64 0, .int .i64 0, .bool false, .bool false] 59 (0, 0)) := by
    rw [Below.heap_setCell w2 ⟨B, 5, none⟩ _ g0 (fun e => hBg0 e.symm)]; exact hg02
  have hgr1 : w.grownBy (w2.setCell ⟨B, 5, none⟩ (.slice (some ⟨b, off, none⟩) m r.c1)) (some B) := grown_trans (grown_any (below_grown (b1.trans (b2.mono b1.size))) _) (grown_setCell _ _ _ _)
  obtain ⟨w3, hw3⟩ : ∃ w3, w3 = w2.setCell ⟨B, 5, none⟩ (.slice (some ⟨b, off, none⟩) m r.c1) := ⟨_, rfl⟩
  have hb3 : w3.heap[B]? = some (.cells (spA { s with pg := s.pg.dropLast } r A ev.length c) 68 (0, 0)) := by
    rw [hw3, box_set h2.box]
    have : (spA s r A ev.length c).setIfInBounds 5 (.slice (some ⟨b, off, none⟩) m r.c1) = spA { s with pg := s.pg.dropLast } r A ev.length c := by
      rw [← ha]
      have e : m = s.pg.dropLast.length := by rw [List.length_dropLast, hm]; rfl
      rw [e]
      rfl
    rw [this]
  rw [← hw3] at hg03 hgr1
  have hgr : w.grownBy (w3.setRow g0 #[.int .u64 p0, .int .i64 p1, .bool p2, .bool p3]) (some B) := by
    refine ⟨hgr1.os, hgr1.tape, hgr1.output, by rw [size_setRow]; exact hgr1.size, fun k hk hne => ?_⟩
    rw [setRow_other w3 g0 k _ (by omega)]
    exact hgr1.block k hk hne
  have hb4 : (w3.setRow g0 #[.int .u64 p0, .int .i64 p1, .bool p2, .bool p3]).heap[B]? = some (.cells (spA { s with pg := s.pg.dropLast } r A ev.length c) 68 (0, 0)) := by rw [setRow_other w3 g0 B _ hBg0]; exact hb3
  have HY := Lib.hid (And.intro (And.intro (h.viaBox hgr hb4 (h.rows.cut hm)) (show Below lo w _ from by
    refine ⟨hgr.os, hgr.tape, hgr.output, hgr.size, fun k hk => ?_⟩
    have := h.hlo
    exact hgr.block k (Nat.lt_of_lt_of_le hk h.low) (by intro e; injection e; omega))) (setRow_heap w3 g0 _ #[.int .u64 p0, .int .i64 p1, .bool p2, .bool p3] 59 (0, 0) hg03))
  have HW := Lib.hid (And.intro hw1 (And.intro hw2 (And.intro hw3 (And.intro hg1e hg0e))))
  have z0 : (0 : Int) ≤ (m : Int) := by omega
  have z1 : (m : Int) < (m : Int) + 1 := by omega
  have hm1 : m ≤ 1000000 := by omega
  have hcap : (m : Int) + 1 ≤ (r.c1 : Int) := by have := owns_cap h.rows.pg; omega
  have hcap2 : (m : Int) ≤ (r.c1 : Int) := by omega
  have G3 := Lib.hid hg03
  clear hgr hgr1 hb4 hb3 hg03 hg02 hg0 hg1 hw1 hw2 hw3 hg1e hg0e h h1 h2 b1 b2 hc hi hlast hpos hp ha hm hs1 c0 c1 c2 c3 hbl hb
  go_enter Try.func65, Try.ntmps65
  go_wp2_with (first | fail | (rw [← HW.out.1, ← HW.out.2.2.2.2]) | (refine st59n rfl (.tmp 4) (.tmp 19) rfl p0 p1 p2 p3 rfl rfl _ rfl ?_; rw [← HW.out.2.1, ← HW.out.2.2.2.1]) | (rw [← HW.out.2.2.1]; refine st59 rfl (.tmp 2) (.tmp 31) rfl g0 p0 p1 p2 p3 rfl rfl _ rfl G3.out ?_))
  refine bodyPost_ret (results_p rfl _ _ g0 _ rfl HY.out.2 rfl) rfl ?_
  exact ⟨rfl, HY.out.1⟩
theorem bottom_take (h : WK lo w B s r A c ev) (p : Pg) (hp : s.pg.getLast? = some p) (hb : s.pg.length ≤ 1000000) :
    Calls Try.prog 65 #[.pointer (some ⟨B, 0, none⟩)] w fun e w' => e = .returned (.agg #[.int .u64 p.key, .int .i64 p.kind, .bool p.test, .bool p.mark]) ∧ WP lo w B { s with pg := s.pg.dropLast } ev w' :=
  (bottom_take2 h p hp hb).mono fun e w' ⟨h1, h2, h3⟩ => ⟨h1, h2.to h3⟩
end
end Go.Proofs.Ytifenpmkbnohhaa
namespace Go.Proofs.Ytifenpmkbnohhaa
open Go.RowKit
open Go.Proofs.StackM
set_option linter.unusedVariables false
theorem ls_none {l : List Int} {k : Int} (h : k ∉ l) : ls l k = l := by
  unfold ls
  rw [List.filter_eq_self]
  intro x hx
  simp
  rintro rfl
  exact h hx
/-- one page is pruned: as the document has it -/
theorem prS_eq {s : St} (hw : StackM.Wk s) {p : Pg} (hp : s.pg.getLast? = some p) : prS s p = { s with pg := s.pg.dropLast, gh := if p.kind = 3 then ls s.gh p.key else s.gh, ct := { s.ct with pr := up s.ct.pr } } := by
  unfold prS
  rw [← dropLast_wo hw.nk hp]
  by_cases h3 : p.kind = 3
  · rw [if_pos h3]
  · rw [if_neg h3, ls_none (fun hm => h3 ((hw.pk p (List.mem_of_getLast? hp)).2.2.2.2.1 hm))]
theorem bhot_some {l : List Pg} {p : Pg} (h : l.getLast? = some p) : bhot l = decide (p.kind = 1) := by rw [bhot, h]
theorem type_grown {w w' : World} {lo e sz n B t : Nat} {xs : List Value} {A0 : Option Addr} {c0 : Nat} {cs : Array Value} (hb : w.heap[B]? = some (.cells cs t (0, 0))) (h : w.ownsRow lo e sz (.slice A0 n c0) n xs) (hne : e ≠ t) (hg : w.grownBy w' (ob A0)) : w'.heap[B]? = some (.cells cs t (0, 0)) := by
  rw [hg.block B (Array.getElem?_eq_some_iff.1 hb).1 (fun e1 => ?_)]
  · exact hb
  · obtain ⟨a, rfl, e2⟩ := ob_some e1.symm
    obtain ⟨_, cur, hc⟩ := owns_type h (k := a.block) rfl
    rw [e2] at hc
    exact hne (type_eq hc hb)
section
variable {lo B c : Nat} {w : World} {s : St} {r : R3} {A : Option Addr} {ev : List Int}
set_option maxHeartbeats 2000000 in
set_option maxRecDepth 100000 in
theorem pprune_at (h : WK lo w B s r A c ev) (hw : StackM.Wk s) (hb : s.pg.length ≤ 900000) (hb3 : s.gh.length ≤ 900000) :
    Calls Try.prog 37 #[.pointer (some ⟨B, 0, none⟩)] w fun e w' => e = .returned (.tuple #[]) ∧ WP lo w B (prune s) ev w' := by
  have H0 := Lib.hid h
  have HP0 := Lib.hid (And.intro hw (And.intro hb hb3))
  clear h hw hb hb3
  go_enter Try.func37, Try.ntmps37
  go_wp2_with fail
  go_loopw [2] (fun _ wr => ∃ (cur : St) (rr : R3) (AA : Option Addr) (cc : Nat), Hid (WK lo wr B cur rr AA cc ev ∧ Below lo w wr) ∧ Hid (StackM.Wk cur ∧ cur.pg.length ≤ 900000 ∧ cur.gh.length ≤ 900000 ∧ prune cur = prune s)) (fun _ wr => lenAt wr B 5)
  case atStart => exact ⟨s, r, A, c, Lib.hid ⟨H0.out, Below.refl _ _⟩, Lib.hid ⟨HP0.out.1, HP0.out.2.1, HP0.out.2.2, rfl⟩⟩
  case round =>
    obtain ⟨cur, rr, AA, cc, HF, HC⟩ := hrel
    have d5 := HF.out.1.at5
    have HM := Lib.hid (lenAt_of d5)
    have C50 := Lib.hid (bottom_at cur.pg rr.a1 cur.pg.length rr.c1 rfl (by have := HC.out.2.1; omega) wr HF.out.1.prow)
    cases hp : cur.pg.getLast? with
    | none =>
      have hb0 : bhot cur.pg = true := by rw [bhot, hp]
      have HE : Hid (prune s = cur) := Lib.hid (by rw [← HC.out.2.2.2, prune_none (List.getLast?_eq_none_iff.1 hp)])
      rw [hb0] at C50
      clear hp hb0
      go_wp2_with fail
      refine C50.out.mono ?_
      rintro e w1 ⟨rfl, rfl⟩
      go_wp2_with fail
      go_end0
      exact ⟨rfl, by rw [HE.out]; exact HF.out.1.to HF.out.2⟩
    | some p =>
      have hb0 := bhot_some hp
      by_cases hk : p.kind = 1
      · rw [decide_eq_true hk] at hb0
        have HE : Hid (prune s = cur) := Lib.hid (by rw [← HC.out.2.2.2, prune_hot hp hk])
        rw [hb0] at C50
        clear hp hb0 hk
        go_wp2_with fail
        refine C50.out.mono ?_
        rintro e w1 ⟨rfl, rfl⟩
        go_wp2_with fail
        go_end0
        exact ⟨rfl, by rw [HE.out]; exact HF.out.1.to HF.out.2⟩
      · rw [decide_eq_false hk] at hb0
        rw [hb0] at C50
        have HE : Hid (prune (prS cur p) = prune s ∧ prS cur p = { cur with pg := cur.pg.dropLast, gh := if p.kind = 3 then ls cur.gh p.key else cur.gh, ct := { cur.ct with pr := up cur.ct.pr } }) := Lib.hid ⟨by rw [← HC.out.2.2.2, prune_step hp hk], prS_eq HC.out.1 hp⟩
        have C65 := Lib.hid (bottom_take HF.out.1 p hp (by have := HC.out.2.1; omega))
        have HP := Lib.hid hp
        clear hp hb0 hk
        go_wp2_with fail
        refine C50.out.mono ?_
        rintro e w1 ⟨rfl, rfl⟩
        go_wp2_with fail
        refine C65.out.mono ?_
        rintro e w1 ⟨rfl, r1, A1, c1, h1, hb1⟩
        have b2 := alloc_below w1 (.cells #[.int .u64 p.key, .int .i64 p.kind, .bool p.test, .bool p.mark] 59)
        have h2 := h1.kept b2
        have hg1 : (w1.alloc (.cells #[.int .u64 p.key, .int .i64 p.kind, .bool p.test, .bool p.mark] 59)).heap[w1.heap.size]? = some (.cells #[.int .u64 p.key, .int .i64 p.kind, .bool p.test, .bool p.mark] 59 (0, 0)) := heap_alloc_new w1 _
        obtain ⟨w2, hw2⟩ : ∃ w2, w2 = w1.alloc (.cells #[.int .u64 p.key, .int .i64 p.kind, .bool p.test, .bool p.mark] 59) := ⟨_, rfl⟩
        rw [← hw2] at b2 h2 hg1
        obtain ⟨g1, hg1e⟩ : ∃ g1, g1 = w1.heap.size := ⟨_, rfl⟩
        rw [← hg1e] at hg1
        obtain ⟨p0, hp0⟩ : ∃ z, z = p.key := ⟨_, rfl⟩
        obtain ⟨p1, hp1⟩ : ∃ z, z = p.kind := ⟨_, rfl⟩
        have i0 : w2.cell? ⟨g1, 0, none⟩ = some (.int .u64 p0) := by rw [cell_of_head hg1, hp0]; rfl
        have i1 : w2.cell? ⟨g1, 1, none⟩ = some (.int .i64 p1) := by rw [cell_of_head hg1, hp1]; rfl
        have hgl : g1 < w2.heap.size := (Array.getElem?_eq_some_iff.1 hg1).1
        have hBg : B ≠ g1 := by have := h1.lt; omega
        have HH := Lib.hid (And.intro h2 (And.intro (HF.out.2.trans (hb1.trans (b2.mono h1.low))) (And.intro hgl (And.intro hBg hg1))))
        have HW := Lib.hid (And.intro hw2 hg1e)
        have HPP := Lib.hid (And.intro hp0 hp1)
        have e7 := h2.at7
        have e14 := h2.at14
        have f14 := h2.free 14
        have hup := wrap_up cur.ct.pr
        rw [← hp1] at HE
        rw [← hp0] at HE
        clear h1 hb1 b2 h2 hg1 hw2 hg1e hp0 hp1 hgl hBg C65 C50 d5
        by_cases h3 : p1 = 3
        · subst h3
          go_wp2_with (first | fail | (refine st59n rfl (.tmp 2) (.tmp 11) rfl _ _ _ _ rfl rfl _ rfl ?_; rw [← HW.out.1, ← HW.out.2]))
          refine wp_region_held_drew (S := fun W' => W'.cell? ⟨g1, 0, none⟩ = some (.int .u64 p0)) (by kernel_rfl) i0 (fun hHeld => ?_)
          have hbd : Below w2.heap.size w2 w2.drew := below_drew (Below.refl _ _) 1
          have H3 := Lib.hid (And.intro (HH.out.1.kept hbd) (And.intro (HH.out.2.1.trans (hbd.mono HH.out.1.low)) (And.intro (Nat.lt_of_lt_of_le HH.out.2.2.1 hbd.size) ((hbd.block g1 HH.out.2.2.1).trans HH.out.2.2.2.2))))
          clear hbd
          generalize World.drew w2 = w3 at hHeld H3 ⊢
          clear i1 e14 f14 e7 i0
          refine wpAnyH_take (i := 0) (v := ?tval1) rfl (by kernel_rfl) (by kernel_rfl) (by kernel_rfl) (fun _ _ _ h => h) (Or.inl ⟨by rfl, ?teq1⟩) (by assumption) ?trest1
          case teq1 => (intro w0 q2; go_simp; with_reducible rfl)
          try simp only [put_laws]
          refine wpAnyH_take (i := 1) (v := ?tval2) rfl (by kernel_rfl) (by kernel_rfl) (by kernel_rfl) (fun _ _ _ h => h) (Or.inl ⟨by rfl, ?teq2⟩) (by assumption) ?trest2
          case teq2 => (intro w0 q2; go_simp; with_reducible rfl)
          try simp only [put_laws]
          refine wpAnyH_take (i := 2) (v := ?tval3) rfl (by kernel_rfl) (by kernel_rfl) (by kernel_rfl) (fun _ _ _ h => h) (Or.inl ⟨by rfl, ?teq3⟩) (by assumption) ?trest3
          case teq3 => (intro w0 q2; go_simp; with_reducible rfl)
          try simp only [put_laws]
          refine wpAnyH_take (i := 3) (v := ?tval4) rfl (by kernel_rfl) (by kernel_rfl) (by kernel_rfl) (fun _ _ _ h => h) (Or.inl ⟨by rfl, ?teq4⟩) (by assumption) ?trest4
          case teq4 => (intro w0 q2; go_simp; with_reducible rfl)
          try simp only [put_laws]
          refine wpAnyH_take (i := 4) (v := ?tval5) rfl (by kernel_rfl) (by kernel_rfl) (by kernel_rfl) (fun _ _ _ h => h) (Or.inl ⟨by rfl, ?teq5⟩) (by assumption) ?trest5
          case teq5 => (intro w0 q2; go_simp; with_reducible rfl)
          try simp only [put_laws]
          refine wpAnyH_take (i := 6) (v := ?tval7) rfl (by kernel_rfl) (by kernel_rfl) (by kernel_rfl) (fun _ _ _ h => h) (Or.inl ⟨by rfl, ?teq7⟩) (by assumption) ?trest7
          case teq7 => (intro w0 q2; go_simp; with_reducible rfl)
          try simp only [put_laws]
          refine wpAnyH_take (i := 7) (v := ?tval8) rfl (by kernel_rfl) (by kernel_rfl) (by kernel_rfl) (fun _ _ _ h => h) (Or.inl ⟨by rfl, ?teq8⟩) (by assumption) ?trest8
          case teq8 => (intro w0 q2; go_simp; with_reducible rfl)
          try simp only [put_laws]
          have e7 := H3.out.1.at7
          dsimp only at e7
          refine wpAnyH_ready (rs := [5]) (by kernel_rfl) (by simp) ?_
          refine AllReadyH.cons rfl (fun K hK => ?_) AllReadyH.nil
          go_simp
          refine hK.out _ _ hHeld (fun hHeld => ?_)
          clear hK K e7
          try simp only [put_laws]
          refine wpAnyH_ready (rs := [8]) (by kernel_rfl) (by simp) ?_
          refine AllReadyH.cons rfl (fun K hK => ?_) AllReadyH.nil
          go_simp
          refine (pwithout_at cur.gh p0 r1.a3 r1.c3 lo (by have := HC.out.2.2.1; omega) w3 H3.out.1.rows.gh).mono ?_
          rintro e w4 ⟨rfl, hg, hgr⟩
          rw [ob_eq] at hgr
          have hy := H3.out.1.ghTo hgr hg (Fr2.same _ _) rfl
          have hz := hy.ct14 (up cur.ct.pr)
          have hbx := box_grown H3.out.1.box H3.out.1.rows.gh (by decide) hgr
          have e7 : w4.cell? ⟨B, 7, none⟩ = some (.slice r1.a3 cur.gh.length r1.c3) := by rw [cell_of_head hbx]; rfl
          have f7 : w4.frozen? ⟨B, 7, none⟩ = false := frozen_of_head hbx 7
          have e14 : w4.cell? ⟨B, 14, none⟩ = some (.int .u64 cur.ct.pr) := by rw [cell_of_head hbx]; rfl
          have f14 : w4.frozen? ⟨B, 14, none⟩ = false := frozen_of_head hbx 14
          have HZ := Lib.hid (And.intro hz (below_setCell (k := 14) (v := .int .u64 (up cur.ct.pr)) (below_setCell (k := 7) (v := .slice r1.a3 (ls cur.gh p0).length r1.c3) (H3.out.2.1.trans (grown_lo H3.out.1.rows.gh hgr H3.out.1.low)) H3.out.1.hlo) H3.out.1.hlo))
          have i0 : w4.cell? ⟨g1, 0, none⟩ = some (.int .u64 p0) := by
            rw [cell_of_head (type_grown H3.out.2.2.2 H3.out.1.rows.gh (by decide) hgr), ← HPP.out.1]; rfl
          have hBg1 := HH.out.2.2.2.1
          clear hg hgr hy hz hbx H3 HH
          go_wp2_with fail
          refine hK.out _ _ i0 (fun hHeld => ?_)
          clear hK K
          try simp only [put_laws]
          refine wpAnyH_take (i := 9) (v := ?tval9) rfl (by kernel_rfl) (by kernel_rfl) (by kernel_rfl) (fun _ _ _ h => h) (Or.inl ⟨by rfl, ?teq9⟩) (by assumption) ?trest9
          case teq9 => (intro w0 q2; go_simp; with_reducible rfl)
          try simp only [put_laws]
          refine wpAnyH_take (i := 10) (v := ?tval10) rfl (by kernel_rfl) (by kernel_rfl) (by kernel_rfl) (fun _ _ _ h => h) (Or.inl ⟨by rfl, ?teq10⟩) (by assumption) ?trest10
          case teq10 => (intro w0 q2; go_simp; with_reducible rfl)
          try simp only [put_laws]
          refine wpAnyH_take (i := 11) (v := ?tval11) rfl (by kernel_rfl) (by kernel_rfl) (by kernel_rfl) (fun _ _ _ h => h) (Or.inl ⟨by rfl, ?teq11⟩) (by assumption) ?trest11
          case teq11 => (intro w0 q2; go_simp; with_reducible rfl)
          try simp only [put_laws]
          refine wpAnyH_ready (rs := [12]) (by kernel_rfl) (by simp) ?_
          refine AllReadyH.cons rfl (fun K hK => ?_) AllReadyH.nil
          go_simp
          refine hK.out _ _ (by rw [World.cell?_of_block (a := ⟨g1, 0, none⟩) (Below.heap_setCell w4 ⟨B, 7, none⟩ _ g1 (fun e => hBg1 e.symm))]; exact i0) (fun hHeld => ?_)
          clear hK K hHeld
          refine wpAnyH_done (by kernel_rfl) ?_ _
          go_wp2_with fail
          go_round
          case rel => exact ⟨prS cur p, _, _, _, Lib.hid (by rw [HE.out.2, if_true]; exact HZ.out), Lib.hid ⟨HC.out.1.prS p, Nat.le_trans (wo_len _ _) HC.out.2.1, Nat.le_trans (ls_le _ _) HC.out.2.2.1, HE.out.1⟩⟩
          case measure =>
            rw [HM.out, lenAt_of HZ.out.1.at5]
            have := (last_at HP.out).2.2
            show cur.pg.dropLast.length < _
            rw [List.length_dropLast]
            omega
        · have HZ := Lib.hid (And.intro (HH.out.1.ct14 (up cur.ct.pr)) (below_setCell (k := 14) (v := .int .u64 (up cur.ct.pr)) HH.out.2.1 HH.out.1.hlo))
          have h3' : (p1 == 3) = false := by simpa using h3
          have HN3 := Lib.hid h3
          clear h3 i0
          go_wp2_with (first | fail | (refine st59n rfl (.tmp 2) (.tmp 11) rfl _ _ _ _ rfl rfl _ rfl ?_; rw [← HW.out.1, ← HW.out.2]))
          go_round
          case rel => exact ⟨prS cur p, _, _, _, Lib.hid (by rw [HE.out.2, if_neg HN3.out]; exact HZ.out), Lib.hid ⟨HC.out.1.prS p, Nat.le_trans (wo_len _ _) HC.out.2.1, Nat.le_trans (ls_le _ _) HC.out.2.2.1, HE.out.1⟩⟩
          case measure =>
            rw [HM.out, lenAt_of HZ.out.1.at5]
            have := (last_at HP.out).2.2
            show cur.pg.dropLast.length < _
            rw [List.length_dropLast]
            omega
end
end Go.Proofs.Ytifenpmkbnohhaa
