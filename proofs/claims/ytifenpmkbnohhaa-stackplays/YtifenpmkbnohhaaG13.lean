/-
  The stack that is worked on is lowered; a key is raised.
-/
import Derived.Test.YtifenpmkbnohhaaG12
namespace Go.Proofs.Ytifenpmkbnohhaa
open Go.RowKit
open Go.Proofs.StackM
set_option linter.unusedVariables false
theorem fld59 (p0 p1 : Int) (p2 p3 : Bool) (w : World) : (Instr.field 59 (.agg #[.int .u64 p0, .int .i64 p1, .bool p2, .bool p3]) 0).run Try.prog w = .ok (.int .u64 p0) w := by
  kernel_rfl
theorem rm_cl {c : Cf} (h : Cl c) : rm c.p c.c c.q c.g = c.c - c.q := by rw [rm, if_pos (cl_mb h)]
theorem wo_wo (l : List Pg) (k : Int) : wo (wo l k) k = wo l k := by unfold wo; rw [List.filter_filter]; simp
theorem last_some {l : List Pg} (h : 0 < l.length) : ∃ p, l.getLast? = some p := by
  cases e : l.getLast? with
  | none => rw [List.getLast?_eq_none_iff.1 e] at h; simp at h
  | some p => exact ⟨p, rfl⟩
section
variable {lo B c : Nat} {w : World} {s : St} {r : R3} {A : Option Addr} {ev : List Int}
set_option maxHeartbeats 4000000 in
set_option maxRecDepth 100000 in
theorem plower_at (h : WK lo w B s r A c ev) (hw : StackM.Wk s) (hbt : Bt s) (hc : Cl s.cf) (hl : Lsm s) :
    Calls Try.prog 42 #[.pointer (some ⟨B, 0, none⟩)] w fun e w' => e = .returned (.tuple #[]) ∧ WP lo w B (lower s) ev w' := by
  have H0 := Lib.hid h
  have HP0 := Lib.hid (And.intro hw (And.intro hbt (And.intro hc hl)))
  clear h hw hbt hc hl
  go_enter Try.func42, Try.ntmps42
  go_wp2_with fail
  go_loopw [] (fun wr => ∃ (cur : St) (rr : R3) (AA : Option Addr) (cc : Nat), Hid (WK lo wr B cur rr AA cc ev ∧ Below lo w wr) ∧ Hid ((StackM.Wk cur ∧ Bt cur) ∧ Cl cur.cf ∧ Lsm cur ∧ lower cur = lower s)) (fun wr => lenAt wr B 5)
  case atStart => exact ⟨s, r, A, c, Lib.hid ⟨H0.out, Below.refl _ _⟩, Lib.hid ⟨⟨HP0.out.1, HP0.out.2.1⟩, HP0.out.2.2.1, HP0.out.2.2.2, rfl⟩⟩
  case round =>
    obtain ⟨cur, rr, AA, cc, HF, HC⟩ := hrel
    have HM := Lib.hid (lenAt_of HF.out.1.at5)
    have hb : cur.pg.length ≤ 1000000 := by have := HC.out.2.2.1.1; omega
    have C62 := Lib.hid (grown_call (w := wr) (f := 62) (args := #[.slice rr.a1 cur.pg.length rr.c1, .int .i64 1]) (fun V hV => count_at cur.pg 1 rr.a1 cur.pg.length rr.c1 rfl hb V (PRow.kept HF.out.1.prow hV)))
    have C63 := Lib.hid (grown_call (w := wr) (f := 63) (args := #[.agg #[.int .i64 cur.cf.p, .int .i64 cur.cf.c, .int .i64 cur.cf.q, .int .i64 cur.cf.g]]) (fun V hV => croom_at cur.cf.p cur.cf.c cur.cf.q cur.cf.g V))
    have hk : ∀ V, Below wr.heap.size wr V → WK lo V B cur rr AA cc ev := fun V hV => HF.out.1.kept hV
    have d0 : ∀ p : GrB wr, p.v.cell? ⟨B, 0, none⟩ = some (.int .i64 cur.cf.p) := fun p => (hk _ p.h).at0
    have d1 : ∀ p : GrB wr, p.v.cell? ⟨B, 1, none⟩ = some (.int .i64 cur.cf.c) := fun p => (hk _ p.h).at1
    have d2 : ∀ p : GrB wr, p.v.cell? ⟨B, 2, none⟩ = some (.int .i64 cur.cf.q) := fun p => (hk _ p.h).at2
    have d3 : ∀ p : GrB wr, p.v.cell? ⟨B, 3, none⟩ = some (.int .i64 cur.cf.g) := fun p => (hk _ p.h).at3
    have d5 : ∀ p : GrB wr, p.v.cell? ⟨B, 5, none⟩ = some (.slice rr.a1 cur.pg.length rr.c1) := fun p => (hk _ p.h).at5
    obtain ⟨mm, hmm⟩ : ∃ z, z = (many cur.pg 1 : Int) := ⟨_, rfl⟩
    obtain ⟨rm', hrm⟩ : ∃ z, z = rm cur.cf.p cur.cf.c cur.cf.q cur.cf.g := ⟨_, rfl⟩
    have hcond : (rm' < mm) ↔ (many cur.pg 1 : Int) > cur.cf.c - cur.cf.q := by rw [hmm, hrm, rm_cl HC.out.2.1]
    rw [← hmm] at C62
    rw [← hrm] at C63
    have HCD := Lib.hid hcond
    clear hmm hrm hcond hk hb
    by_cases hgt : rm' < mm
    · have hgt2 := HCD.out.1 hgt
      have hpos : 0 < cur.pg.length := by
        have h1 := many_le cur.pg 1
        have h2 := HC.out.2.1.2.2.1.2
        omega
      obtain ⟨p, hp⟩ := last_some hpos
      have hp1 := HC.out.1.2 p hp
      have HE := Lib.hid (lower_step hgt2 hp)
      have HP := Lib.hid (And.intro hp hp1)
      clear hgt2 hpos hp hp1
      go_wp2_with fail
      refine region_grown (by kernel_rfl) (by kernel_rfl) ?_
      repeat (go_big_quiet_step (first | (go_at_call 62; exact C62.out _) | (go_at_call 63; exact C63.out _)))
      refine wpQuiet_nil ?_
      rintro w1 ⟨p9, hp9⟩
      have hb1 : Below wr.heap.size wr w1 := hp9 ▸ p9.h
      clear hp9 p9
      have h1 := HF.out.1.kept hb1
      have H1 := Lib.hid (And.intro h1 (HF.out.2.trans (hb1.mono HF.out.1.low)))
      clear d0 d1 d2 d3 d5 hb1 h1 C62 C63
      go_wp2_with fail
      have hbd : Below w1.heap.size w1 w1.drew := below_drew (Below.refl _ _) 1
      have h2 := H1.out.1.kept hbd
      have e6 := h2.at6
      have H2 := Lib.hid (And.intro h2 (H1.out.2.trans (hbd.mono H1.out.1.low)))
      refine wp_region_held_drew (S := fun _ => True) (by kernel_rfl) trivial (fun hHeld => ?_)
      clear h2 e6 H1 hbd
      generalize World.drew w1 = w2 at hHeld H2 ⊢
      refine wpAnyH_take (i := 0) (v := ?tval1) rfl (by kernel_rfl) (by kernel_rfl) (by kernel_rfl) (fun _ _ _ h => h) (Or.inl ⟨by rfl, ?teq1⟩) (by assumption) ?trest1
      case teq1 => (intro w0 _; go_simp; with_reducible rfl)
      try simp only [put_laws]
      refine wpAnyH_take (i := 1) (v := ?tval2) rfl (by kernel_rfl) (by kernel_rfl) (by kernel_rfl) (fun _ _ _ h => h) (Or.inl ⟨by rfl, ?teq2⟩) (by assumption) ?trest2
      case teq2 => (intro w0 _; go_simp; with_reducible rfl)
      try simp only [put_laws]
      refine wpAnyH_take (i := 2) (v := ?tval3) rfl (by kernel_rfl) (by kernel_rfl) (by kernel_rfl) (fun _ _ _ h => h) (Or.inl ⟨by rfl, ?teq3⟩) (by assumption) ?trest3
      case teq3 => (intro w0 _; go_simp; with_reducible rfl)
      try simp only [put_laws]
      refine wpAnyH_take (i := 3) (v := ?tval4) rfl (by kernel_rfl) (by kernel_rfl) (by kernel_rfl) (fun _ _ _ h => h) (Or.inl ⟨by rfl, ?teq4⟩) (by assumption) ?trest4
      case teq4 => (intro w0 _; go_simp; with_reducible rfl)
      try simp only [put_laws]
      refine wpAnyH_take (i := 4) (v := ?tval5) rfl (by kernel_rfl) (by kernel_rfl) (by kernel_rfl) (fun _ _ _ h => h) (Or.inl ⟨by rfl, ?teq5⟩) (by assumption) ?trest5
      case teq5 => (intro w0 _; go_simp; with_reducible rfl)
      try simp only [put_laws]
      refine wpAnyH_take (i := 6) (v := ?tval6) rfl (by kernel_rfl) (by kernel_rfl) (by kernel_rfl) (fun _ _ _ h => h) (Or.inl ⟨by rfl, ?teq6⟩) (by assumption) ?trest6
      case teq6 => (intro w0 _; go_simp; with_reducible rfl)
      try simp only [put_laws]
      have e6 := H2.out.1.at6
      refine wpAnyH_ready (rs := [5, 7]) (by kernel_rfl) (by simp) ?_
      refine AllReadyH.cons rfl (fun K hK => ?_) (AllReadyH.cons rfl (fun K hK => ?_) AllReadyH.nil)
      · go_simp
        refine hK.out _ _ trivial (fun hHeld => ?_)
        clear hK K
        try simp only [put_laws]
        refine wpAnyH_ready (rs := [7]) (by kernel_rfl) (by simp) ?_
        refine AllReadyH.cons rfl (fun K hK => ?_) AllReadyH.nil
        go_simp
        refine (bottom_take2 H2.out.1 p HP.out.1 (by have := HC.out.2.2.1.1; omega)).mono ?_
        rintro e w3 ⟨rfl, h3, hb3⟩
        have e6 := h3.at6
        dsimp only at e6
        have H3 := Lib.hid (And.intro h3 (H2.out.2.trans hb3))
        clear h3 hb3
        go_wp2_with fail
        refine hK.out _ _ trivial (fun hHeld => ?_)
        clear hK K e6
        try simp only [put_laws]
        refine wpAnyH_take (i := 8) (v := ?tval7) rfl (by kernel_rfl) (by kernel_rfl) (by kernel_rfl) (fun _ _ _ h => h) (Or.inl ⟨by rfl, ?teq7⟩) (by assumption) ?trest7
        case teq7 => (intro w0 _; go_simp; rw [fld59]; rfl)
        try simp only [put_laws]
        refine wpAnyH_ready (rs := [9]) (by kernel_rfl) (by simp) ?_
        refine AllReadyH.cons rfl (fun K hK => ?_) AllReadyH.nil
        go_simp
        have hb4 := alloc_below w3 (.cells #[.int .u64 p.key] 27)
        have h4 := H3.out.1.kept hb4
        obtain ⟨g', cap', w5, hrun, ho5, hg5, hf5⟩ := appU1 p.key H3.out.1.rows.qu H3.out.1.low (by have := HC.out.2.2.1.1; show cur.qu.length ≤ _; omega)
        have ho5' : w5.ownsRow lo 27 1 (.slice (some ⟨g', 0, none⟩) (cur.qu ++ [p.key]).length cap') (cur.qu ++ [p.key]).length (uvals (cur.qu ++ [p.key])) := by simpa using ho5
        have hgr : w3.grownBy w5 (ob rr.a2) := by rw [ob_eq] at hg5; exact hg5
        have hfr : Fr2 w3 rr.a2 (some ⟨g', 0, none⟩) := fun a e => by
          injection e with e
          subst e
          rcases hf5 with h | h
          · obtain ⟨a0, e0, e1⟩ := ob_some h
            exact .inl ⟨a0, e0, e1⟩
          · exact .inr h
        have hy := H3.out.1.quTo (n := cur.qu.length + 1) hgr ho5' hfr (by simp)
        have hbx := box_grown H3.out.1.box H3.out.1.rows.qu (by decide) hgr
        have i6 : w5.cell? ⟨B, 6, none⟩ = some (.slice rr.a2 cur.qu.length rr.c2) := by rw [cell_of_head hbx]; rfl
        have f6 : w5.frozen? ⟨B, 6, none⟩ = false := frozen_of_head hbx 6
        have hz := hy.ct13 (up cur.ct.lo)
        have HZ := Lib.hid (And.intro hz (below_setCell (k := 13) (v := .int .u64 (up cur.ct.lo)) (below_setCell (k := 6) (v := .slice (some ⟨g', 0, none⟩) (cur.qu.length + 1) cap') (H3.out.2.trans (grown_lo H3.out.1.rows.qu hgr H3.out.1.low)) H3.out.1.hlo) H3.out.1.hlo))
        have e13 : w5.cell? ⟨B, 13, none⟩ = some (.int .u64 cur.ct.lo) := by rw [cell_of_head hbx]; rfl
        have f13 : w5.frozen? ⟨B, 13, none⟩ = false := frozen_of_head hbx 13
        have hup := wrap_up cur.ct.lo
        have HR := Lib.hid hrun
        clear hb4 h4 hrun ho5 hg5 hf5 ho5' hgr hfr hy hbx hz
        refine hK.out _ _ trivial (fun hHeld => ?_)
        clear hK K
        try simp only [put_laws]
        refine wpAnyH_ready (rs := [10]) (by kernel_rfl) (by simp) ?_
        refine AllReadyH.cons rfl (fun K hK => ?_) AllReadyH.nil
        refine step_append_run rfl (.tmp 20) (.tmp 24) 26 rfl rfl rfl HR.out ?_
        refine hK.out _ _ trivial (fun hHeld => ?_)
        clear hK K
        try dsimp only [Act.put]
        refine wpAnyH_take (i := 11) (v := ?tval8) rfl (by kernel_rfl) (by kernel_rfl) (by kernel_rfl) (fun _ _ _ h => h) (Or.inl ⟨by rfl, ?teq8⟩) (by assumption) ?trest8
        case teq8 => (intro w0 _; go_simp; with_reducible rfl)
        try simp only [put_laws]
        refine wpAnyH_take (i := 12) (v := ?tval9) rfl (by kernel_rfl) (by kernel_rfl) (by kernel_rfl) (fun _ _ _ h => h) (Or.inl ⟨by rfl, ?teq9⟩) (by assumption) ?trest9
        case teq9 => (intro w0 _; go_simp; with_reducible rfl)
        try simp only [put_laws]
        refine wpAnyH_take (i := 13) (v := ?tval10) rfl (by kernel_rfl) (by kernel_rfl) (by kernel_rfl) (fun _ _ _ h => h) (Or.inl ⟨by rfl, ?teq10⟩) (by assumption) ?trest10
        case teq10 => (intro w0 _; go_simp; with_reducible rfl)
        try simp only [put_laws]
        refine wpAnyH_ready (rs := [14]) (by kernel_rfl) (by simp) ?_
        refine AllReadyH.cons rfl (fun K hK => ?_) AllReadyH.nil
        go_simp
        refine hK.out _ _ trivial (fun hHeld => ?_)
        clear hK K hHeld
        refine wpAnyH_done (by kernel_rfl) ?_ _
        go_wp2_with fail
        obtain ⟨w6, hw6⟩ : ∃ w6, w6 = (w5.setCell ⟨B, 6, none⟩ (.slice (some ⟨g', 0, none⟩) (cur.qu.length + 1) cap')).setCell ⟨B, 13, none⟩ (.int .u64 (up cur.ct.lo)) := ⟨_, rfl⟩
        rw [← hw6] at HZ ⊢
        clear hw6 i6 f6 e13 f13
        have hlo : StackM.Wk { cur with pg := cur.pg.dropLast, qu := cur.qu ++ [p.key], ct := { cur.ct with lo := up cur.ct.lo } } := by
          rw [dropLast_wo HC.out.1.1.nk HP.out.1]
          exact HC.out.1.1.lo0 (List.mem_of_getLast? HP.out.1) HP.out.2 _
        have hlE : prune { cur with pg := cur.pg.dropLast, qu := cur.qu ++ [p.key], ct := { cur.ct with lo := up cur.ct.lo } } = loS cur p := by
          rw [dropLast_wo HC.out.1.1.nk HP.out.1]
          rfl
        have C37 := pprune_at HZ.out.1 hlo (by have := HC.out.2.2.1.1; show cur.pg.dropLast.length ≤ _; rw [List.length_dropLast]; omega) (by have := HC.out.2.2.1.2; show cur.gh.length ≤ _; omega)
        rw [hlE] at C37
        clear hlo hlE
        refine C37.mono ?_
        rintro e w7 ⟨rfl, r7, A7, c7, h7, hb7⟩
        have H7 := Lib.hid (And.intro h7 (HZ.out.2.trans hb7))
        clear h7 hb7 HZ C37
        go_wp2_with fail
        go_round
        case rel => exact ⟨loS cur p, r7, A7, c7, H7, Lib.hid ⟨⟨(HC.out.1.1.lo0 (List.mem_of_getLast? HP.out.1) HP.out.2 _).prune, prune_bt _⟩, by rw [loS_cf]; exact HC.out.2.1, loS_lsm HP.out.1 HC.out.2.2.1, by rw [← HC.out.2.2.2, HE.out]⟩⟩
        case measure =>
          rw [HM.out, lenAt_of H7.out.1.at5]
          exact Nat.lt_of_le_of_lt (prune_len _) (wo_lt (List.mem_of_getLast? HP.out.1))
      · go_simp
        refine (bottom_take2 H2.out.1 p HP.out.1 (by have := HC.out.2.2.1.1; omega)).mono ?_
        rintro e w3 ⟨rfl, h3, hb3⟩
        have e6 := h3.at6
        dsimp only at e6
        have H3 := Lib.hid (And.intro h3 (H2.out.2.trans hb3))
        clear h3 hb3
        go_wp2_with fail
        refine hK.out _ _ trivial (fun hHeld => ?_)
        clear hK K
        try simp only [put_laws]
        refine wpAnyH_take (i := 8) (v := ?tval11) rfl (by kernel_rfl) (by kernel_rfl) (by kernel_rfl) (fun _ _ _ h => h) (Or.inl ⟨by rfl, ?teq11⟩) (by assumption) ?trest11
        case teq11 => (intro w0 _; go_simp; rw [fld59]; rfl)
        try simp only [put_laws]
        refine wpAnyH_ready (rs := [5, 9]) (by kernel_rfl) (by simp) ?_
        refine AllReadyH.cons rfl (fun K hK => ?_) (AllReadyH.cons rfl (fun K hK => ?_) AllReadyH.nil)
        · go_simp
          refine hK.out _ _ trivial (fun hHeld => ?_)
          clear hK K e6
          try simp only [put_laws]
          refine wpAnyH_ready (rs := [9]) (by kernel_rfl) (by simp) ?_
          refine AllReadyH.cons rfl (fun K hK => ?_) AllReadyH.nil
          go_simp
          have hb4 := alloc_below w3 (.cells #[.int .u64 p.key] 27)
          have h4 := H3.out.1.kept hb4
          obtain ⟨g', cap', w5, hrun, ho5, hg5, hf5⟩ := appU1 p.key H3.out.1.rows.qu H3.out.1.low (by have := HC.out.2.2.1.1; show cur.qu.length ≤ _; omega)
          have ho5' : w5.ownsRow lo 27 1 (.slice (some ⟨g', 0, none⟩) (cur.qu ++ [p.key]).length cap') (cur.qu ++ [p.key]).length (uvals (cur.qu ++ [p.key])) := by simpa using ho5
          have hgr : w3.grownBy w5 (ob rr.a2) := by rw [ob_eq] at hg5; exact hg5
          have hfr : Fr2 w3 rr.a2 (some ⟨g', 0, none⟩) := fun a e => by
            injection e with e
            subst e
            rcases hf5 with h | h
            · obtain ⟨a0, e0, e1⟩ := ob_some h
              exact .inl ⟨a0, e0, e1⟩
            · exact .inr h
          have hy := H3.out.1.quTo (n := cur.qu.length + 1) hgr ho5' hfr (by simp)
          have hbx := box_grown H3.out.1.box H3.out.1.rows.qu (by decide) hgr
          have i6 : w5.cell? ⟨B, 6, none⟩ = some (.slice rr.a2 cur.qu.length rr.c2) := by rw [cell_of_head hbx]; rfl
          have f6 : w5.frozen? ⟨B, 6, none⟩ = false := frozen_of_head hbx 6
          have hz := hy.ct13 (up cur.ct.lo)
          have HZ := Lib.hid (And.intro hz (below_setCell (k := 13) (v := .int .u64 (up cur.ct.lo)) (below_setCell (k := 6) (v := .slice (some ⟨g', 0, none⟩) (cur.qu.length + 1) cap') (H3.out.2.trans (grown_lo H3.out.1.rows.qu hgr H3.out.1.low)) H3.out.1.hlo) H3.out.1.hlo))
          have e13 : w5.cell? ⟨B, 13, none⟩ = some (.int .u64 cur.ct.lo) := by rw [cell_of_head hbx]; rfl
          have f13 : w5.frozen? ⟨B, 13, none⟩ = false := frozen_of_head hbx 13
          have hup := wrap_up cur.ct.lo
          have HR := Lib.hid hrun
          clear hb4 h4 hrun ho5 hg5 hf5 ho5' hgr hfr hy hbx hz
          refine hK.out _ _ trivial (fun hHeld => ?_)
          clear hK K
          try simp only [put_laws]
          refine wpAnyH_ready (rs := [10]) (by kernel_rfl) (by simp) ?_
          refine AllReadyH.cons rfl (fun K hK => ?_) AllReadyH.nil
          refine step_append_run rfl (.tmp 20) (.tmp 24) 26 rfl rfl rfl HR.out ?_
          refine hK.out _ _ trivial (fun hHeld => ?_)
          clear hK K
          try dsimp only [Act.put]
          refine wpAnyH_take (i := 11) (v := ?tval12) rfl (by kernel_rfl) (by kernel_rfl) (by kernel_rfl) (fun _ _ _ h => h) (Or.inl ⟨by rfl, ?teq12⟩) (by assumption) ?trest12
          case teq12 => (intro w0 _; go_simp; with_reducible rfl)
          try simp only [put_laws]
          refine wpAnyH_take (i := 12) (v := ?tval13) rfl (by kernel_rfl) (by kernel_rfl) (by kernel_rfl) (fun _ _ _ h => h) (Or.inl ⟨by rfl, ?teq13⟩) (by assumption) ?trest13
          case teq13 => (intro w0 _; go_simp; with_reducible rfl)
          try simp only [put_laws]
          refine wpAnyH_take (i := 13) (v := ?tval14) rfl (by kernel_rfl) (by kernel_rfl) (by kernel_rfl) (fun _ _ _ h => h) (Or.inl ⟨by rfl, ?teq14⟩) (by assumption) ?trest14
          case teq14 => (intro w0 _; go_simp; with_reducible rfl)
          try simp only [put_laws]
          refine wpAnyH_ready (rs := [14]) (by kernel_rfl) (by simp) ?_
          refine AllReadyH.cons rfl (fun K hK => ?_) AllReadyH.nil
          go_simp
          refine hK.out _ _ trivial (fun hHeld => ?_)
          clear hK K hHeld
          refine wpAnyH_done (by kernel_rfl) ?_ _
          go_wp2_with fail
          obtain ⟨w6, hw6⟩ : ∃ w6, w6 = (w5.setCell ⟨B, 6, none⟩ (.slice (some ⟨g', 0, none⟩) (cur.qu.length + 1) cap')).setCell ⟨B, 13, none⟩ (.int .u64 (up cur.ct.lo)) := ⟨_, rfl⟩
          rw [← hw6] at HZ ⊢
          clear hw6 i6 f6 e13 f13
          have hlo : StackM.Wk { cur with pg := cur.pg.dropLast, qu := cur.qu ++ [p.key], ct := { cur.ct with lo := up cur.ct.lo } } := by
            rw [dropLast_wo HC.out.1.1.nk HP.out.1]
            exact HC.out.1.1.lo0 (List.mem_of_getLast? HP.out.1) HP.out.2 _
          have hlE : prune { cur with pg := cur.pg.dropLast, qu := cur.qu ++ [p.key], ct := { cur.ct with lo := up cur.ct.lo } } = loS cur p := by
            rw [dropLast_wo HC.out.1.1.nk HP.out.1]
            rfl
          have C37 := pprune_at HZ.out.1 hlo (by have := HC.out.2.2.1.1; show cur.pg.dropLast.length ≤ _; rw [List.length_dropLast]; omega) (by have := HC.out.2.2.1.2; show cur.gh.length ≤ _; omega)
          rw [hlE] at C37
          clear hlo hlE
          refine C37.mono ?_
          rintro e w7 ⟨rfl, r7, A7, c7, h7, hb7⟩
          have H7 := Lib.hid (And.intro h7 (HZ.out.2.trans hb7))
          clear h7 hb7 HZ C37
          go_wp2_with fail
          go_round
          case rel => exact ⟨loS cur p, r7, A7, c7, H7, Lib.hid ⟨⟨(HC.out.1.1.lo0 (List.mem_of_getLast? HP.out.1) HP.out.2 _).prune, prune_bt _⟩, by rw [loS_cf]; exact HC.out.2.1, loS_lsm HP.out.1 HC.out.2.2.1, by rw [← HC.out.2.2.2, HE.out]⟩⟩
          case measure =>
            rw [HM.out, lenAt_of H7.out.1.at5]
            exact Nat.lt_of_le_of_lt (prune_len _) (wo_lt (List.mem_of_getLast? HP.out.1))
        · go_simp
          have i6b := (H3.out.1.kept (alloc_below w3 (.cells #[.int .u64 p.key] 27))).at6
          dsimp only at i6b
          have hb4 := alloc_below w3 (.cells #[.int .u64 p.key] 27)
          have h4 := H3.out.1.kept hb4
          obtain ⟨g', cap', w5, hrun, ho5, hg5, hf5⟩ := appU1 p.key H3.out.1.rows.qu H3.out.1.low (by have := HC.out.2.2.1.1; show cur.qu.length ≤ _; omega)
          have ho5' : w5.ownsRow lo 27 1 (.slice (some ⟨g', 0, none⟩) (cur.qu ++ [p.key]).length cap') (cur.qu ++ [p.key]).length (uvals (cur.qu ++ [p.key])) := by simpa using ho5
          have hgr : w3.grownBy w5 (ob rr.a2) := by rw [ob_eq] at hg5; exact hg5
          have hfr : Fr2 w3 rr.a2 (some ⟨g', 0, none⟩) := fun a e => by
            injection e with e
            subst e
            rcases hf5 with h | h
            · obtain ⟨a0, e0, e1⟩ := ob_some h
              exact .inl ⟨a0, e0, e1⟩
            · exact .inr h
          have hy := H3.out.1.quTo (n := cur.qu.length + 1) hgr ho5' hfr (by simp)
          have hbx := box_grown H3.out.1.box H3.out.1.rows.qu (by decide) hgr
          have i6 : w5.cell? ⟨B, 6, none⟩ = some (.slice rr.a2 cur.qu.length rr.c2) := by rw [cell_of_head hbx]; rfl
          have f6 : w5.frozen? ⟨B, 6, none⟩ = false := frozen_of_head hbx 6
          have hz := hy.ct13 (up cur.ct.lo)
          have HZ := Lib.hid (And.intro hz (below_setCell (k := 13) (v := .int .u64 (up cur.ct.lo)) (below_setCell (k := 6) (v := .slice (some ⟨g', 0, none⟩) (cur.qu.length + 1) cap') (H3.out.2.trans (grown_lo H3.out.1.rows.qu hgr H3.out.1.low)) H3.out.1.hlo) H3.out.1.hlo))
          have e13 : w5.cell? ⟨B, 13, none⟩ = some (.int .u64 cur.ct.lo) := by rw [cell_of_head hbx]; rfl
          have f13 : w5.frozen? ⟨B, 13, none⟩ = false := frozen_of_head hbx 13
          have hup := wrap_up cur.ct.lo
          have HR := Lib.hid hrun
          clear hb4 h4 hrun ho5 hg5 hf5 ho5' hgr hfr hy hbx hz
          refine hK.out _ _ trivial (fun hHeld => ?_)
          clear hK K
          try simp only [put_laws]
          refine wpAnyH_ready (rs := [5]) (by kernel_rfl) (by simp) ?_
          refine AllReadyH.cons rfl (fun K hK => ?_) AllReadyH.nil
          go_simp
          refine hK.out _ _ trivial (fun hHeld => ?_)
          clear hK K i6b
          try simp only [put_laws]
          refine wpAnyH_ready (rs := [10]) (by kernel_rfl) (by simp) ?_
          refine AllReadyH.cons rfl (fun K hK => ?_) AllReadyH.nil
          refine step_append_run rfl (.tmp 20) (.tmp 24) 26 rfl rfl rfl HR.out ?_
          refine hK.out _ _ trivial (fun hHeld => ?_)
          clear hK K
          try dsimp only [Act.put]
          refine wpAnyH_take (i := 11) (v := ?tval15) rfl (by kernel_rfl) (by kernel_rfl) (by kernel_rfl) (fun _ _ _ h => h) (Or.inl ⟨by rfl, ?teq15⟩) (by assumption) ?trest15
          case teq15 => (intro w0 _; go_simp; with_reducible rfl)
          try simp only [put_laws]
          refine wpAnyH_take (i := 12) (v := ?tval16) rfl (by kernel_rfl) (by kernel_rfl) (by kernel_rfl) (fun _ _ _ h => h) (Or.inl ⟨by rfl, ?teq16⟩) (by assumption) ?trest16
          case teq16 => (intro w0 _; go_simp; with_reducible rfl)
          try simp only [put_laws]
          refine wpAnyH_take (i := 13) (v := ?tval17) rfl (by kernel_rfl) (by kernel_rfl) (by kernel_rfl) (fun _ _ _ h => h) (Or.inl ⟨by rfl, ?teq17⟩) (by assumption) ?trest17
          case teq17 => (intro w0 _; go_simp; with_reducible rfl)
          try simp only [put_laws]
          refine wpAnyH_ready (rs := [14]) (by kernel_rfl) (by simp) ?_
          refine AllReadyH.cons rfl (fun K hK => ?_) AllReadyH.nil
          go_simp
          refine hK.out _ _ trivial (fun hHeld => ?_)
          clear hK K hHeld
          refine wpAnyH_done (by kernel_rfl) ?_ _
          go_wp2_with fail
          obtain ⟨w6, hw6⟩ : ∃ w6, w6 = (w5.setCell ⟨B, 6, none⟩ (.slice (some ⟨g', 0, none⟩) (cur.qu.length + 1) cap')).setCell ⟨B, 13, none⟩ (.int .u64 (up cur.ct.lo)) := ⟨_, rfl⟩
          rw [← hw6] at HZ ⊢
          clear hw6 i6 f6 e13 f13
          have hlo : StackM.Wk { cur with pg := cur.pg.dropLast, qu := cur.qu ++ [p.key], ct := { cur.ct with lo := up cur.ct.lo } } := by
            rw [dropLast_wo HC.out.1.1.nk HP.out.1]
            exact HC.out.1.1.lo0 (List.mem_of_getLast? HP.out.1) HP.out.2 _
          have hlE : prune { cur with pg := cur.pg.dropLast, qu := cur.qu ++ [p.key], ct := { cur.ct with lo := up cur.ct.lo } } = loS cur p := by
            rw [dropLast_wo HC.out.1.1.nk HP.out.1]
            rfl
          have C37 := pprune_at HZ.out.1 hlo (by have := HC.out.2.2.1.1; show cur.pg.dropLast.length ≤ _; rw [List.length_dropLast]; omega) (by have := HC.out.2.2.1.2; show cur.gh.length ≤ _; omega)
          rw [hlE] at C37
          clear hlo hlE
          refine C37.mono ?_
          rintro e w7 ⟨rfl, r7, A7, c7, h7, hb7⟩
          have H7 := Lib.hid (And.intro h7 (HZ.out.2.trans hb7))
          clear h7 hb7 HZ C37
          go_wp2_with fail
          go_round
          case rel => exact ⟨loS cur p, r7, A7, c7, H7, Lib.hid ⟨⟨(HC.out.1.1.lo0 (List.mem_of_getLast? HP.out.1) HP.out.2 _).prune, prune_bt _⟩, by rw [loS_cf]; exact HC.out.2.1, loS_lsm HP.out.1 HC.out.2.2.1, by rw [← HC.out.2.2.2, HE.out]⟩⟩
          case measure =>
            rw [HM.out, lenAt_of H7.out.1.at5]
            exact Nat.lt_of_le_of_lt (prune_len _) (wo_lt (List.mem_of_getLast? HP.out.1))
    · have HE := Lib.hid (lower_done (fun hx => hgt (HCD.out.2 hx)))
      go_wp2_with fail
      refine region_grown (by kernel_rfl) (by kernel_rfl) ?_
      repeat (go_big_quiet_step (first | (go_at_call 62; exact C62.out _) | (go_at_call 63; exact C63.out _)))
      refine wpQuiet_nil ?_
      rintro w1 ⟨p9, hp9⟩
      have hb1 : Below wr.heap.size wr w1 := hp9 ▸ p9.h
      clear hp9 p9
      have h1 := HF.out.1.kept hb1
      have H1 := Lib.hid (And.intro h1 (HF.out.2.trans (hb1.mono HF.out.1.low)))
      clear d0 d1 d2 d3 d5 hb1 h1 C62 C63
      go_wp2_with fail
      go_end0
      refine ⟨rfl, ?_⟩
      rw [← HC.out.2.2.2, HE.out]
      exact H1.out.1.to H1.out.2
end
end Go.Proofs.Ytifenpmkbnohhaa
