/-
  A key is raised; a page goes; the queue is spilled; the ghosts are trimmed.
-/
import Derived.Test.YtifenpmkbnohhaaG13
namespace Go.Proofs.Ytifenpmkbnohhaa
open Go.RowKit
open Go.Proofs.StackM
set_option linter.unusedVariables false
section
variable {lo B c : Nat} {w : World} {s : St} {r : R3} {A : Option Addr} {ev : List Int}
theorem wo_len2 (l : List Pg) (k : Int) : (wo l k).length ≤ l.length := wo_len l k
set_option maxHeartbeats 1000000 in
set_option maxRecDepth 100000 in
theorem praise_at (h : WK lo w B s r A c ev) (k : Int) (hw : StackM.Wk s) (hbt : Bt (gone s k)) (hc : Cl s.cf) (hl : s.pg.length + s.qu.length ≤ 19000 ∧ s.gh.length ≤ 10000) :
    Calls Try.prog 35 #[.pointer (some ⟨B, 0, none⟩), .int .u64 k] w fun e w' => e = .returned (.tuple #[]) ∧ WP lo w B (raise s k) ev w' := by
  have C38 := Lib.hid (leave_at h k (by omega) (by omega) (by omega))
  have HP := Lib.hid (And.intro hw (And.intro hbt (And.intro hc hl)))
  clear h hw hbt hc hl
  go_enter Try.func35, Try.ntmps35
  go_wp2_with fail
  refine C38.out.mono ?_
  rintro e w1 ⟨rfl, r1, A1, c1, h1, hb1⟩
  have H1 := Lib.hid (And.intro h1 hb1)
  clear h1 hb1 C38
  go_wp2_with fail
  have C33 := stand_at H1.out.1 k 1 (by have := HP.out.2.2.2.1; have := wo_len s.pg k; show (wo s.pg k).length ≤ _; omega)
  have e0 : wo (gone s k).pg k = (gone s k).pg := wo_wo s.pg k
  rw [e0] at C33
  have HC33 := Lib.hid C33
  clear C33 e0
  refine HC33.out.mono ?_
  rintro e w2 ⟨rfl, r2, A2, c2, h2, hb2⟩
  have d12 := h2.at12
  have f12 := h2.free 12
  have hup := wrap_up s.ct.ra
  dsimp only [gone] at d12
  have H2 := Lib.hid (And.intro (h2.ct12 (up s.ct.ra)) (below_setCell (k := 12) (v := .int .u64 (up s.ct.ra)) (H1.out.2.trans hb2) h2.hlo))
  clear h2 hb2 H1 HC33
  go_wp2_with fail
  obtain ⟨w3, hw3⟩ : ∃ w3, w3 = w2.setCell ⟨B, 12, none⟩ (.int .u64 (up s.ct.ra)) := ⟨_, rfl⟩
  rw [← hw3] at H2 ⊢
  clear hw3 d12 f12 hup
  obtain ⟨ga, gb, gc⟩ := gone_key s k
  have hwt : StackM.Wk { top (gone s k) k 1 with ct := { s.ct with ra := up s.ct.ra } } := ((HP.out.1.gone k).hot ga gb gc).ct _
  have C42 := plower_at H2.out.1 hwt (bt_top HP.out.2.1 k) HP.out.2.2.1 (by
    have h1 := HP.out.2.2.2
    have h2 := wo_len s.pg k
    have h3 := ls_le s.qu k
    have h4 := ls_le s.gh k
    refine ⟨?_, ?_⟩
    · show (⟨k, 1, false, false⟩ :: wo s.pg k : List Pg).length + (ls s.qu k).length ≤ 20000
      rw [List.length_cons]; omega
    · show (ls s.gh k).length ≤ 10000
      omega)
  refine Calls.mono C42 ?_
  rintro e w4 ⟨rfl, h4⟩
  have H4 := Lib.hid (WP.trans H2.out.2 h4)
  clear h4 C42 hwt ga gb gc
  go_wp2_with fail
  go_end0
  exact ⟨rfl, H4.out⟩
theorem pvals_kind (l : List Pg) (i : Nat) (hi : i < l.length) (d : Int) : (pvals l).set (i * 4 + 1) (.int .i64 d) = pvals (l.set i { l[i] with kind := d }) := by
  induction l generalizing i with
  | nil => cases hi
  | cons a l ih =>
    cases i with
    | zero => rfl
    | succ i =>
      have e : ∀ q : List Pg, ∀ b : Pg, pvals (b :: q) = .int .u64 b.key :: .int .i64 b.kind :: .bool b.test :: .bool b.mark :: pvals q := fun _ _ => rfl
      have h0 : (i + 1) * 4 + 1 = i * 4 + 1 + 1 + 1 + 1 + 1 := by omega
      rw [List.set_cons_succ, e, e, h0]
      simp only [List.set_cons_succ, List.getElem_cons_succ]
      rw [ih i (by simpa using hi)]
theorem WK.pgSame {w' : World} (h : WK lo w B s r A c ev) (hg : w.grownBy w' (ob r.a1)) {l : List Pg} (ho : w'.ownsRow lo 59 4 (.slice r.a1 l.length r.c1) l.length (pvals l)) (hl : l.length = s.pg.length) : WK lo w' B { s with pg := l } r A c ev := by
  have hb := box_grown h.box h.rows.pg (by decide) hg
  refine ⟨?_, h.hlo, h.rows.pgTo hg ho⟩
  rw [hb]
  unfold spA sA
  rw [hl]
/-- a page of a key is gone -/
def mg (s : St) (k : Int) : St :=
  match fnd s.pg k with
  | some i => { s with pg := s.pg.set i ⟨k, 3, false, false⟩, gh := s.gh ++ [k] }
  | none => s
/-- how far it has come: m pages are looked at -/
def mgTo (s : St) (k : Int) (m : Nat) : St :=
  match fnd s.pg k with
  | some i => if i < m then { s with pg := s.pg.set i ⟨k, 3, false, false⟩, gh := s.gh ++ [k] } else s
  | none => s
theorem mgTo_zero (s : St) (k : Int) : mgTo s k 0 = s := by unfold mgTo; split <;> simp
theorem mgTo_all (s : St) (k : Int) : mgTo s k s.pg.length = mg s k := by
  unfold mgTo mg
  split
  · rename_i i hi
    rw [if_pos (fnd_at hi).1]
  · rfl
theorem mgTo_len (s : St) (k : Int) (m : Nat) : (mgTo s k m).pg.length = s.pg.length := by
  unfold mgTo; split
  · split <;> simp
  · rfl
theorem mgTo_other {s : St} {k : Int} {m : Nat} (hm : m < s.pg.length) (h : s.pg[m].key ≠ k) : mgTo s k (m + 1) = mgTo s k m := by
  unfold mgTo; split
  · rename_i i hi
    obtain ⟨h1, h2⟩ := fnd_at hi
    have hne : i ≠ m := fun e => by subst e; exact h h2
    by_cases hlt : i < m
    · rw [if_pos hlt, if_pos (by omega)]
    · rw [if_neg hlt, if_neg (by omega)]
  · rfl
theorem mgTo_key (s : St) (k : Int) (m : Nat) (hm : m < s.pg.length) (h2 : m < (mgTo s k m).pg.length) : (mgTo s k m).pg[m] = s.pg[m] := by
  have : ∀ t : St, t = mgTo s k m → ∀ h2 : m < t.pg.length, t.pg[m] = s.pg[m] := by
    intro t ht h2
    unfold mgTo at ht
    split at ht
    · rename_i i hi
      split at ht
      · rename_i hlt
        subst ht
        show (s.pg.set i _)[m]'_ = _
        rw [List.getElem_set]
        rw [if_neg (by omega)]
      · subst ht; rfl
    · subst ht; rfl
  exact this _ rfl h2
theorem mgTo_hit {s : St} (hw : (s.pg.map Pg.key).Nodup) {k : Int} {m : Nat} (hm : m < s.pg.length) (h : s.pg[m].key = k) : mgTo s k m = s ∧ mgTo s k (m + 1) = { s with pg := s.pg.set m ⟨k, 3, false, false⟩, gh := s.gh ++ [k] } := by
  have hf : fnd s.pg k = some m := fnd_some hm h (fun j h1 h2 e => by have := key_inj hw h2 hm (by rw [e, h]); omega)
  unfold mgTo
  rw [hf]
  exact ⟨by simp, by simp⟩
set_option maxHeartbeats 2000000 in
set_option maxRecDepth 100000 in
theorem makeGone_at (h : WK lo w B s r A c ev) (k : Int) (hw : (s.pg.map Pg.key).Nodup ∧ ∀ p ∈ s.pg, p.test = false ∧ p.mark = false) (hb : s.pg.length ≤ 900000) (hb3 : s.gh.length ≤ 900000) :
    Calls Try.prog 67 #[.pointer (some ⟨B, 0, none⟩), .int .u64 k] w fun e w' => e = .returned (.tuple #[]) ∧ WP lo w B (mg s k) ev w' := by
  obtain ⟨n, hn⟩ : ∃ n, n = s.pg.length := ⟨_, rfl⟩
  obtain ⟨A1, hA1⟩ : ∃ A1, A1 = r.a1 := ⟨_, rfl⟩
  obtain ⟨c1, hc1⟩ : ∃ c1, c1 = r.c1 := ⟨_, rfl⟩
  have d5 := h.at5
  rw [← hn, ← hA1, ← hc1] at d5
  have H0 := Lib.hid (And.intro h (And.intro hA1.symm hc1.symm))
  have HP := Lib.hid (And.intro hw (And.intro hn hb3))
  have hnb : n ≤ 900000 := by omega
  clear h hw hn hA1 hc1 hb hb3
  go_enter Try.func67, Try.ntmps67
  go_wp2_with fail
  go_loopw [4, 5, 12] (fun _ _ i wr => ∃ (m : Nat) (rr : R3) (AA : Option Addr) (cc : Nat), m ≤ n ∧ i = .int .i64 (m : Int) ∧ Hid ((WK lo wr B (mgTo s k m) rr AA cc ev ∧ Below lo w wr) ∧ rr.a1 = A1 ∧ rr.c1 = c1)) (fun _ _ i _ => n - (intOf i).toNat)
  case atStart => exact ⟨0, r, A, c, by omega, by go_num, Lib.hid ⟨⟨by rw [mgTo_zero]; exact H0.out.1, Below.refl _ _⟩, H0.out.2.1, H0.out.2.2⟩⟩
  case round =>
    obtain ⟨m, rr, AA, cc, hm, rfl, HF⟩ := hrel
    by_cases hlt : m < n
    · have hml : m < s.pg.length := by have := HP.out.2.1; omega
      have hml2 : m < (mgTo s k m).pg.length := by rw [mgTo_len]; exact hml
      obtain ⟨b, off, ha, hc⟩ := HF.out.1.1.prow.at hml2
      obtain ⟨x0, x1, x2, x3⟩ := hc m hml2
      rw [mgTo_key s k m hml hml2] at x0 x1 x2 x3
      obtain ⟨p, hp⟩ : ∃ p, p = s.pg[m] := ⟨_, rfl⟩
      rw [← hp] at x0 x1 x2 x3
      rw [HF.out.2.1] at ha
      subst ha
      have HY := Lib.hid hp
      obtain ⟨y, hy⟩ : ∃ y, y = p.key := ⟨_, rfl⟩
      rw [← hy] at x0
      have HY2 := Lib.hid hy
      have b2 := alloc_below wr (.cells #[.int .u64 y, .int .i64 p.kind, .bool p.test, .bool p.mark] 59)
      have h2 := HF.out.1.1.kept b2
      obtain ⟨w2, hw2⟩ : ∃ w2, w2 = wr.alloc (.cells #[.int .u64 y, .int .i64 p.kind, .bool p.test, .bool p.mark] 59) := ⟨_, rfl⟩
      have i0 : w2.cell? ⟨wr.heap.size, 0, none⟩ = some (.int .u64 y) := by rw [hw2, World.cell?_alloc_new]; rfl
      rw [← hw2] at b2 h2
      have H2 := Lib.hid (And.intro h2 (HF.out.1.2.trans (b2.mono HF.out.1.1.low)))
      have HW := Lib.hid hw2
      clear hp hy hc b2 h2 hw2 hml2 d5
      by_cases hxy : y = k
      · subst hxy
        obtain ⟨e1, e2⟩ := mgTo_hit (k := y) HP.out.1.1 hml (by rw [← HY.out]; exact HY2.out.symm)
        have h2 := H2.out.1
        rw [e1] at h2
        have HE := Lib.hid e2
        have e5 := h2.at5
        rw [HF.out.2.1, HF.out.2.2, ← HP.out.2.1] at e5
        have hpg := h2.rows.pg
        rw [HF.out.2.1, HF.out.2.2, ← HP.out.2.1] at hpg
        obtain ⟨g, cap, eg⟩ := owns_some hpg (by omega)
        injection eg with eg1 eg2 eg3
        injection eg1 with eg1
        injection eg1 with eg1 eg4
        subst eg1 eg4 eg3
        simp only [Nat.zero_add] at x0 x1 x2 x3
        obtain ⟨q0, q1, q2, q3⟩ := pvals_at s.pg m hml
        have a1 := hpg.cellAt (m * 4 + 1) (by omega)
        rw [q1] at a1
        have f1 := hpg.frozenAt (m * 4 + 1)
        have o3 := (hpg.stored (m * 4 + 1) (.int .i64 3)).1
        rw [pvals_kind s.pg m hml 3] at o3
        have hpe : ({ s.pg[m] with kind := 3 } : Pg) = ⟨y, 3, false, false⟩ := by
          have := HP.out.1.2 s.pg[m] (List.getElem_mem hml)
          show (⟨s.pg[m].key, 3, s.pg[m].test, s.pg[m].mark⟩ : Pg) = _
          rw [this.1, this.2, ← HY.out, ← HY2.out]
        rw [hpe] at o3
        have hgr := grown_setCell w2 b (m * 4 + 1) (.int .i64 3)
        have h3 := h2.pgSame (l := s.pg.set m ⟨y, 3, false, false⟩) (w' := w2.setCell ⟨b, m * 4 + 1, none⟩ (.int .i64 3)) (by rw [HF.out.2.1]; exact hgr) (by rw [HF.out.2.1, HF.out.2.2, List.length_set, ← HP.out.2.1]; exact o3) (by rw [List.length_set])
        have hbB : B ≠ b := by
          have := box_row h2.box h2.rows.pg (by decide) ⟨b, 0, none⟩ HF.out.2.1
          exact fun e => this e.symm
        have hlo := (h2.rows.pg.lt b (by rw [HF.out.2.1]; rfl)).1
        have e7 := h2.at7
        have k7 := h3.at7
        have H3 := Lib.hid (And.intro h3 (below_setCell (k := m * 4 + 1) (v := .int .i64 3) H2.out.2 hlo))
        obtain ⟨g', cap', w5, hrun, ho5, hg5, hf5⟩ := appU1 y H3.out.1.rows.gh H3.out.1.low (by have := HP.out.2.2; show s.gh.length ≤ _; omega)
        have ho5' : w5.ownsRow lo 27 1 (.slice (some ⟨g', 0, none⟩) (s.gh ++ [y]).length cap') (s.gh ++ [y]).length (uvals (s.gh ++ [y])) := by simpa using ho5
        have hgr5 : (w2.setCell ⟨b, m * 4 + 1, none⟩ (.int .i64 3)).grownBy w5 (ob rr.a3) := by rw [ob_eq] at hg5; exact hg5
        have hfr : Fr2 (w2.setCell ⟨b, m * 4 + 1, none⟩ (.int .i64 3)) rr.a3 (some ⟨g', 0, none⟩) := fun a e => by
          injection e with e
          subst e
          rcases hf5 with h | h
          · obtain ⟨a0, e0, e1⟩ := ob_some h
            exact .inl ⟨a0, e0, e1⟩
          · exact .inr h
        have hy := H3.out.1.ghTo (n := s.gh.length + 1) hgr5 ho5' hfr (by simp)
        have hbx := box_grown H3.out.1.box H3.out.1.rows.gh (by decide) hgr5
        have i7 : w5.cell? ⟨B, 7, none⟩ = some (.slice rr.a3 s.gh.length rr.c3) := by rw [cell_of_head hbx]; rfl
        have f7 : w5.frozen? ⟨B, 7, none⟩ = false := frozen_of_head hbx 7
        have HZ := Lib.hid (And.intro hy (below_setCell (k := 7) (v := .slice (some ⟨g', 0, none⟩) (s.gh.length + 1) cap') (H3.out.2.trans (grown_lo H3.out.1.rows.gh hgr5 H3.out.1.low)) H3.out.1.hlo))
        have hs3 : (w2.setCell ⟨b, m * 4 + 1, none⟩ (.int .i64 3)).heap.size = w2.heap.size := by simp [World.setCell]
        rw [hs3] at hrun
        have HR := Lib.hid hrun
        clear hrun ho5 hg5 hf5 ho5' hgr5 hfr hy hbx o3 hpe hgr h3 q0 q1 q2 q3 h2 e1 e2 hpg k7 hs3
        go_wp2_with (first | (at_builtin; refine append_run rfl (.tmp 34) (.tmp 36) 26 rfl rfl rfl HR.out ?_) | (refine st59n rfl (.tmp 5) (.tmp 16) rfl _ _ _ _ rfl rfl _ rfl ?_; rw [← HW.out]))
        go_round
        case rel => exact ⟨m + 1, { rr with a3 := some ⟨g', 0, none⟩, c3 := cap' }, AA, cc, by omega, by go_num, Lib.hid ⟨by rw [HE.out]; exact HZ.out, HF.out.2⟩⟩
        case measure => simp only [intOf]; omega
      · have HE := Lib.hid (mgTo_other hml (by rw [← HY.out, ← HY2.out]; exact hxy))
        have hxy2 : (y == k) = false := by simpa using hxy
        go_wp2_with (first | fail | (refine st59n rfl (.tmp 5) (.tmp 16) rfl _ _ _ _ rfl rfl _ rfl ?_; rw [← HW.out]))
        go_round
        case rel => exact ⟨m + 1, rr, AA, cc, by omega, by go_num, Lib.hid ⟨by rw [HE.out]; exact H2.out, HF.out.2⟩⟩
        case measure => simp only [intOf]; omega
    · obtain rfl : m = n := by omega
      have hfin : mgTo s k m = mg s k := by rw [HP.out.2.1, mgTo_all]
      have HZ : Hid (WP lo w B (mg s k) ev wr) := Lib.hid (by rw [← hfin]; exact HF.out.1.1.to HF.out.1.2)
      clear hfin d5
      go_wp2_with fail
      go_end0
      exact ⟨rfl, HZ.out⟩
/-- one key is spilled: as the document has it -/
theorem ls_head {l : List Int} {k : Int} {t : List Int} (hn : l.Nodup) (h : l = k :: t) : ls l k = t := by
  subst h
  rw [List.nodup_cons] at hn
  unfold ls
  rw [List.filter_cons_of_neg (by simp), List.filter_eq_self]
  intro x hx
  simp
  rintro rfl
  exact hn.1 hx
theorem spS_eq {s : St} (hw : StackM.Wk s) {k : Int} {t : List Int} (h : s.qu = k :: t) : mg { s with qu := t, ct := { s.ct with ev := up s.ct.ev } } k = spS s k := by
  have e := ls_head hw.nq h
  unfold mg spS
  rw [e]
  dsimp only
  cases fnd s.pg k <;> rfl
theorem delete_first {l : List Int} {k : Int} {t : List Int} {A0 : Option Addr} {c0 n : Nat} (hl : l = k :: t) (ho : GRu w lo (.slice A0 l.length c0) l) (hb : l.length ≤ 1000000) (hn : n = l.length) :
    Calls Try.prog 66 #[.slice A0 n c0, .int .i64 0, .int .i64 1] w fun e w' => e = .returned (.slice A0 t.length c0) ∧ GRu w' lo (.slice A0 t.length c0) t ∧ w.grownBy w' (ob A0) := by
  subst hn
  obtain ⟨g, cap, e⟩ := owns_some ho (by rw [hl]; simp)
  injection e with e1 e2 e3
  subst e1
  have C := delete_at ho 0 (by rw [hl]; simp) hb
  have e0 : (((0 : Nat) : Int)) = 0 := rfl
  rw [e0] at C
  have e4 : l.eraseIdx 0 = t := by rw [hl]; rfl
  have e5 : l.length - 1 = t.length := by rw [hl]; rfl
  rw [e4, e5] at C
  exact C.mono fun e w' h => h
set_option maxHeartbeats 4000000 in
set_option maxRecDepth 100000 in
theorem pspill_at (h : WK lo w B s r A c ev) (most : Int) (hm0 : (many s.pg 1 : Int) ≤ most) (hw : StackM.Wk s) (hbt : Bt s) (hl : s.pg.length ≤ 60000 ∧ s.qu.length + s.gh.length ≤ 60000 ∧ s.qu.length + ev.length ≤ 60000) :
    Calls Try.prog 39 #[.pointer (some ⟨B, 0, none⟩), .int .i64 most] w fun e w' => e = .returned (.tuple #[]) ∧ WP lo w B (spill most s).1 (ev ++ (spill most s).2) w' := by
  have H0 := Lib.hid h
  have HP := Lib.hid (And.intro hm0 (And.intro (And.intro hw hbt) hl))
  clear h hm0 hw hbt hl
  go_enter Try.func39, Try.ntmps39
  go_wp2_with fail
  go_loopw [4] (fun _ wr => ∃ (cur : St) (out : List Int) (rr : R3) (AA : Option Addr) (cc : Nat), Hid (WK lo wr B cur rr AA cc out ∧ Below lo w wr) ∧ Hid ((many cur.pg 1 : Int) ≤ most ∧ (StackM.Wk cur ∧ Bt cur) ∧ (cur.pg.length ≤ 60000 ∧ cur.qu.length + cur.gh.length ≤ 60000 ∧ cur.qu.length + out.length ≤ 60000) ∧ (spill most s).1 = (spill most cur).1 ∧ ev ++ (spill most s).2 = out ++ (spill most cur).2)) (fun _ wr => lenAt wr B 6)
  case atStart => exact ⟨s, ev, r, A, c, Lib.hid ⟨H0.out, Below.refl _ _⟩, Lib.hid ⟨HP.out.1, HP.out.2.1, HP.out.2.2, rfl, rfl⟩⟩
  case round =>
    obtain ⟨cur, out, rr, AA, cc, HF, HC⟩ := hrel
    have HM := Lib.hid (lenAt_of HF.out.1.at6)
    have hb : cur.pg.length ≤ 1000000 := by have := HC.out.2.2.1.1; omega
    have C62 := Lib.hid (grown_call (w := wr) (f := 62) (args := #[.slice rr.a1 cur.pg.length rr.c1, .int .i64 1]) (fun V hV => count_at cur.pg 1 rr.a1 cur.pg.length rr.c1 rfl hb V (PRow.kept HF.out.1.prow hV)))
    have hk : ∀ V, Below wr.heap.size wr V → WK lo V B cur rr AA cc out := fun V hV => HF.out.1.kept hV
    have d5 : ∀ p : GrB wr, p.v.cell? ⟨B, 5, none⟩ = some (.slice rr.a1 cur.pg.length rr.c1) := fun p => (hk _ p.h).at5
    have d6 : ∀ p : GrB wr, p.v.cell? ⟨B, 6, none⟩ = some (.slice rr.a2 cur.qu.length rr.c2) := fun p => (hk _ p.h).at6
    obtain ⟨mm, hmm⟩ : ∃ z, z = many cur.pg 1 := ⟨_, rfl⟩
    obtain ⟨qn, hqn⟩ : ∃ z, z = cur.qu.length := ⟨_, rfl⟩
    rw [← hmm] at C62
    rw [← hqn] at d6
    have hmb : mm ≤ 60000 := by have := many_le cur.pg 1; have := HC.out.2.2.1.1; omega
    have hqb : qn ≤ 60000 := by have := HC.out.2.2.1.2.1; omega
    have HQ := Lib.hid (And.intro hmm hqn)
    clear hk hb hmm hqn
    have hwr : IntKind.i64.wrap ((mm : Int) + (qn : Int)) = (mm : Int) + (qn : Int) := by rw [IntKind.wrap_i64]; omega
    by_cases hgt : most < (mm : Int) + (qn : Int)
    · have hgt2 : (many cur.pg 1 : Int) + cur.qu.length > most := by rw [← HQ.out.1, ← HQ.out.2]; exact hgt
      have hq0 : 0 < cur.qu.length := by have := HC.out.1; omega
      obtain ⟨k, t, hq⟩ : ∃ k t, cur.qu = k :: t := by
        cases e : cur.qu with
        | nil => rw [e] at hq0; simp at hq0
        | cons k t => exact ⟨k, t, rfl⟩
      have HE := Lib.hid (spill_step hgt2 hq)
      have HK := Lib.hid hq
      have hqn0 : 0 < qn := by rw [HQ.out.2]; exact hq0
      clear hgt2 hq0 hq
      go_wp2_with fail
      refine region_grown (by kernel_rfl) (by kernel_rfl) ?_
      repeat (go_big_quiet_step (first | (go_at_call 62; exact C62.out _)))
      refine wpQuiet_nil ?_
      rintro w1 ⟨p9, hp9⟩
      have hb1 : Below wr.heap.size wr w1 := hp9 ▸ p9.h
      clear hp9 p9
      have h1 := HF.out.1.kept hb1
      have e6 := h1.at6
      rw [← HQ.out.2] at e6
      have hq0' : 0 < cur.qu.length := by rw [HK.out]; simp
      obtain ⟨b, off, ha, hcq⟩ := h1.qrow.at hq0'
      have x0 := hcq 0 hq0'
      have hk0 : cur.qu[0] = k := by
        have : ∀ l : List Int, l = k :: t → ∀ h : 0 < l.length, l[0] = k := by rintro l rfl h; rfl
        exact this _ HK.out hq0'
      rw [hk0, Nat.add_zero] at x0
      have H1 := Lib.hid (And.intro h1 (And.intro (HF.out.2.trans (hb1.mono HF.out.1.low)) ha))
      rw [ha] at e6
      clear d5 d6 hb1 h1 C62 hcq hk0 hq0' ha
      go_wp2_with fail
      have C66 := delete_first HK.out H1.out.1.rows.qu (by have := HC.out.2.2.1.2.1; omega) HQ.out.2
      rw [H1.out.2.2] at C66
      refine C66.mono ?_
      rintro e w2 ⟨rfl, hg, hgr⟩
      rw [← H1.out.2.2] at hgr hg
      have hy := H1.out.1.quTo hgr hg (Fr2.same _ _) rfl
      have hbx := box_grown H1.out.1.box H1.out.1.rows.qu (by decide) hgr
      have i6 : w2.cell? ⟨B, 6, none⟩ = some (.slice rr.a2 cur.qu.length rr.c2) := by rw [cell_of_head hbx]; rfl
      have f6 : w2.frozen? ⟨B, 6, none⟩ = false := frozen_of_head hbx 6
      have i20 : w2.cell? ⟨B, 20, none⟩ = some (.slice AA out.length cc) := by rw [cell_of_head hbx]; rfl
      have hbel := below_setCell (k := 6) (v := .slice rr.a2 t.length rr.c2) (H1.out.2.1.trans (grown_lo H1.out.1.rows.qu hgr H1.out.1.low)) H1.out.1.hlo
      rw [H1.out.2.2] at hy hbel
      have H3 := Lib.hid (And.intro hy hbel)
      obtain ⟨g', cap', w5, hrun, ho5, hg5, hf5⟩ := appU1 k H3.out.1.rows.ev H3.out.1.low (by have := HC.out.2.2.1.2.2; omega)
      have ho5' : w5.ownsRow lo 27 1 (.slice (some ⟨g', 0, none⟩) (out ++ [k]).length cap') (out ++ [k]).length (uvals (out ++ [k])) := by simpa using ho5
      have hgr5 : (w2.setCell ⟨B, 6, none⟩ (.slice (some ⟨b, off, none⟩) t.length rr.c2)).grownBy w5 (ob AA) := by rw [ob_eq] at hg5; exact hg5
      have hfr : Fr2 (w2.setCell ⟨B, 6, none⟩ (.slice (some ⟨b, off, none⟩) t.length rr.c2)) AA (some ⟨g', 0, none⟩) := fun a e => by
        injection e with e
        subst e
        rcases hf5 with h | h
        · obtain ⟨a0, e0, e1⟩ := ob_some h
          exact .inl ⟨a0, e0, e1⟩
        · exact .inr h
      have hy5 := H3.out.1.evTo (n := out.length + 1) hgr5 ho5' hfr (by simp)
      have hbx5 := box_grown H3.out.1.box H3.out.1.rows.ev (by decide) hgr5
      have j20 : w5.cell? ⟨B, 20, none⟩ = some (.slice AA out.length cc) := by rw [cell_of_head hbx5]; rfl
      have f20 : w5.frozen? ⟨B, 20, none⟩ = false := frozen_of_head hbx5 20
      have j15 : w5.cell? ⟨B, 15, none⟩ = some (.int .u64 cur.ct.ev) := by rw [cell_of_head hbx5]; rfl
      have f15 : w5.frozen? ⟨B, 15, none⟩ = false := frozen_of_head hbx5 15
      have hup := wrap_up cur.ct.ev
      have HZ := Lib.hid (And.intro (hy5.ct15 (up cur.ct.ev)) (below_setCell (k := 15) (v := .int .u64 (up cur.ct.ev)) (below_setCell (k := 20) (v := .slice (some ⟨g', 0, none⟩) (out.length + 1) cap') (H3.out.2.trans (grown_lo H3.out.1.rows.ev hgr5 H3.out.1.low)) H3.out.1.hlo) H3.out.1.hlo))
      have hs3 : (w2.setCell ⟨B, 6, none⟩ (.slice (some ⟨b, off, none⟩) t.length rr.c2)).heap.size = w2.heap.size := by simp [World.setCell]
      rw [hs3] at hrun
      have HR := Lib.hid hrun
      rw [H1.out.2.2] at i6
      clear hrun ho5 hg5 hf5 ho5' hgr5 hfr hy5 hbx5 hs3 hg hgr hy hbx hbel C66 x0 e6
      go_wp2_with (first | (at_builtin; refine append_run rfl (.tmp 41) (.tmp 43) 26 rfl rfl rfl HR.out ?_))
      obtain ⟨w6, hw6⟩ : ∃ w6, w6 = (w5.setCell ⟨B, 20, none⟩ (.slice (some ⟨g', 0, none⟩) (out.length + 1) cap')).setCell ⟨B, 15, none⟩ (.int .u64 (up cur.ct.ev)) := ⟨_, rfl⟩
      rw [← hw6] at HZ ⊢
      clear hw6 j20 f20 j15 f15 i6 f6 i20 hup
      have hkq : k ∈ cur.qu := by rw [HK.out]; simp
      have hsp := spS_eq HC.out.2.1.1 HK.out
      have C67 := makeGone_at HZ.out.1 k ⟨HC.out.2.1.1.nk, fun p hp => ⟨(HC.out.2.1.1.pk p hp).1, (HC.out.2.1.1.pk p hp).2.1⟩⟩ (by have := HC.out.2.2.1.1; show cur.pg.length ≤ _; omega) (by have := HC.out.2.2.1.2.1; show cur.gh.length ≤ _; omega)
      have hsp2 : mg { cur with qu := t, ct := { cur.ct with ev := up cur.ct.ev } } k = spS cur k := hsp
      rw [hsp2] at C67
      clear hsp hsp2
      refine Calls.mono C67 ?_
      rintro e w7 ⟨rfl, r7, A7, c7, h7, hb7⟩
      have H7 := Lib.hid (And.intro h7 (HZ.out.2.trans hb7))
      have HKQ := Lib.hid hkq
      clear h7 hb7 HZ C67 hkq
      go_wp2_with fail
      go_round
      case rel => exact ⟨spS cur k, out ++ [k], r7, A7, c7, H7, Lib.hid ⟨by have := spS_many cur k; have := HC.out.1; omega, ⟨HC.out.2.1.1.spS HKQ.out, bt_spS HC.out.2.1.1 HC.out.2.1.2 HKQ.out⟩, ⟨by
          have h1 : (spS cur k).pg.length = cur.pg.length := by unfold spS; split <;> simp
          rw [h1]; exact HC.out.2.2.1.1, by
          have h1 : (spS cur k).gh.length ≤ cur.gh.length + 1 := by unfold spS; split <;> simp
          have h2 := ls_lt HKQ.out
          rw [spS_qu]
          have := HC.out.2.2.1.2.1
          omega, by
          have h2 := ls_lt HKQ.out
          rw [spS_qu, List.length_append, List.length_singleton]
          have := HC.out.2.2.1.2.2
          omega⟩, by rw [HC.out.2.2.2.1, HE.out], by rw [HC.out.2.2.2.2, HE.out]; simp⟩⟩
      case measure =>
        rw [HM.out, lenAt_of H7.out.1.at6, spS_qu]
        exact ls_lt HKQ.out
    · have HE := Lib.hid (spill_done (most := most) (s := cur) (by rw [← HQ.out.1, ← HQ.out.2]; exact hgt))
      go_wp2_with fail
      refine region_grown (by kernel_rfl) (by kernel_rfl) ?_
      repeat (go_big_quiet_step (first | (go_at_call 62; exact C62.out _)))
      refine wpQuiet_nil ?_
      rintro w1 ⟨p9, hp9⟩
      have hb1 : Below wr.heap.size wr w1 := hp9 ▸ p9.h
      clear hp9 p9
      have h1 := HF.out.1.kept hb1
      have H1 := Lib.hid (And.intro h1 (HF.out.2.trans (hb1.mono HF.out.1.low)))
      clear d5 d6 hb1 h1 C62
      go_wp2_with fail
      go_end0
      refine ⟨rfl, ?_⟩
      rw [HC.out.2.2.2.1, HC.out.2.2.2.2, HE.out, List.append_nil]
      exact H1.out.1.to H1.out.2
set_option maxHeartbeats 4000000 in
set_option maxRecDepth 100000 in
theorem ptrim_at (h : WK lo w B s r A c ev) (hg0 : 0 ≤ s.cf.g) (hw : StackM.Wk s) (hl : s.pg.length ≤ 60000 ∧ s.gh.length ≤ 60000) :
    Calls Try.prog 40 #[.pointer (some ⟨B, 0, none⟩)] w fun e w' => e = .returned (.tuple #[]) ∧ WP lo w B (trim s) ev w' := by
  have H0 := Lib.hid h
  have HP := Lib.hid (And.intro hg0 (And.intro hw hl))
  clear h hg0 hw hl
  go_enter Try.func40, Try.ntmps40
  go_wp2_with fail
  go_loopw [] (fun wr => ∃ (cur : St) (rr : R3) (AA : Option Addr) (cc : Nat), Hid (WK lo wr B cur rr AA cc ev ∧ Below lo w wr) ∧ Hid (cur.cf = s.cf ∧ StackM.Wk cur ∧ (cur.pg.length ≤ 60000 ∧ cur.gh.length ≤ 60000) ∧ trim cur = trim s)) (fun wr => lenAt wr B 7)
  case atStart => exact ⟨s, r, A, c, Lib.hid ⟨H0.out, Below.refl _ _⟩, Lib.hid ⟨rfl, HP.out.2.1, HP.out.2.2, rfl⟩⟩
  case round =>
    obtain ⟨cur, rr, AA, cc, HF, HC⟩ := hrel
    have HM := Lib.hid (lenAt_of HF.out.1.at7)
    have hk : ∀ V, Below wr.heap.size wr V → WK lo V B cur rr AA cc ev := fun V hV => HF.out.1.kept hV
    have d3 : ∀ p : GrB wr, p.v.cell? ⟨B, 3, none⟩ = some (.int .i64 cur.cf.g) := fun p => (hk _ p.h).at3
    have d7 : ∀ p : GrB wr, p.v.cell? ⟨B, 7, none⟩ = some (.slice rr.a3 cur.gh.length rr.c3) := fun p => (hk _ p.h).at7
    obtain ⟨gn, hgn⟩ : ∃ z, z = cur.gh.length := ⟨_, rfl⟩
    obtain ⟨cg, hcg⟩ : ∃ z, z = cur.cf.g := ⟨_, rfl⟩
    rw [← hgn] at d7
    rw [← hcg] at d3
    have HQ := Lib.hid (And.intro hgn hcg)
    clear hk hgn hcg
    by_cases hgt : cg < (gn : Int)
    · have hgt2 : (cur.gh.length : Int) > cur.cf.g := by rw [← HQ.out.1, ← HQ.out.2]; exact hgt
      have hq0 : 0 < cur.gh.length := by have := HP.out.1; rw [HC.out.1] at hgt2; omega
      obtain ⟨k, t, hq⟩ : ∃ k t, cur.gh = k :: t := by
        cases e : cur.gh with
        | nil => rw [e] at hq0; simp at hq0
        | cons k t => exact ⟨k, t, rfl⟩
      have HE := Lib.hid (trim_step hgt2 hq)
      have HK := Lib.hid hq
      have hqn0 : 0 < gn := by rw [HQ.out.1]; exact hq0
      clear hgt2 hq0 hq
      go_wp2_with fail
      refine region_grown (by kernel_rfl) (by kernel_rfl) ?_
      repeat (go_big_quiet_step (fail))
      refine wpQuiet_nil ?_
      rintro w1 ⟨p9, hp9⟩
      have hb1 : Below wr.heap.size wr w1 := hp9 ▸ p9.h
      clear hp9 p9
      have h1 := HF.out.1.kept hb1
      have e7 := h1.at7
      rw [← HQ.out.1] at e7
      have hq0' : 0 < cur.gh.length := by rw [HK.out]; simp
      obtain ⟨b, off, ha, hcq⟩ := h1.grow.at hq0'
      have x0 := hcq 0 hq0'
      have hk0 : cur.gh[0] = k := by
        have : ∀ l : List Int, l = k :: t → ∀ h : 0 < l.length, l[0] = k := by rintro l rfl h; rfl
        exact this _ HK.out hq0'
      rw [hk0, Nat.add_zero] at x0
      have H1 := Lib.hid (And.intro h1 (HF.out.2.trans (hb1.mono HF.out.1.low)))
      rw [ha] at e7
      clear d3 d7 hb1 h1 hcq hk0 hq0' ha
      go_wp2_with fail
      have C60 := leaveStack_at H1.out.1 k (by have := HC.out.2.2.1.1; omega)
      refine Calls.mono C60 ?_
      rintro e w2 ⟨rfl, r2, A2, c2, h2, hb2⟩
      have i7 := h2.at7
      dsimp only at i7
      rw [← HQ.out.1] at i7
      have H2 := Lib.hid (And.intro h2 (H1.out.2.trans hb2))
      clear h2 hb2 C60 H1 e7 x0
      go_wp2_with fail
      refine Calls.mono (delete_first (l := cur.gh) HK.out H2.out.1.rows.gh (by have := HC.out.2.2.1.2; omega) HQ.out.1) ?_
      rintro e w3 ⟨rfl, hg, hgr⟩
      have hy := H2.out.1.ghTo hgr hg (Fr2.same _ _) rfl
      have hbx := box_grown H2.out.1.box H2.out.1.rows.gh (by decide) hgr
      have j7 : w3.cell? ⟨B, 7, none⟩ = some (.slice r2.a3 cur.gh.length r2.c3) := by rw [cell_of_head hbx]; rfl
      have f7 : w3.frozen? ⟨B, 7, none⟩ = false := frozen_of_head hbx 7
      have j16 : w3.cell? ⟨B, 16, none⟩ = some (.int .u64 cur.ct.fo) := by rw [cell_of_head hbx]; rfl
      have f16 : w3.frozen? ⟨B, 16, none⟩ = false := frozen_of_head hbx 16
      have hup := wrap_up cur.ct.fo
      have HZ := Lib.hid (And.intro (hy.ct16 (up cur.ct.fo)) (below_setCell (k := 16) (v := .int .u64 (up cur.ct.fo)) (below_setCell (k := 7) (v := .slice r2.a3 t.length r2.c3) (H2.out.2.trans (grown_lo H2.out.1.rows.gh hgr H2.out.1.low)) H2.out.1.hlo) H2.out.1.hlo))
      have hkg : k ∈ cur.gh := by rw [HK.out]; simp
      have HTR : Hid (trS cur k = { cur with pg := wo cur.pg k, gh := t, ct := { cur.ct with fo := up cur.ct.fo } }) := Lib.hid (by unfold trS; rw [ls_head HC.out.2.1.ng HK.out])
      have HWK : Hid (StackM.Wk (trS cur k)) := Lib.hid (by
        have hw := HC.out.2.1
        refine ⟨nodup_wo _ hw.nk, hw.nq, nodup_ls _ hw.ng, fun q hq => ?_, fun x hx => ?_⟩
        · obtain ⟨hq1, hq2⟩ := wo_mem.1 hq
          obtain ⟨a, b, c, d, e⟩ := hw.pk q hq1
          exact ⟨a, b, c, d, ⟨fun m => e.1 (ls_mem.1 m).1, fun m => ls_mem.2 ⟨e.2 m, hq2⟩⟩⟩
        · obtain ⟨hx1, hx2⟩ := ls_mem.1 hx
          obtain ⟨q, hq, hqk⟩ := hw.gg x hx1
          exact ⟨q, wo_mem.2 ⟨hq, by rw [hqk]; exact hx2⟩, hqk⟩)
      have HKG := Lib.hid hkg
      clear hg hgr hy hbx H2 i7 hkg
      go_wp2_with fail
      go_round
      case rel => exact ⟨trS cur k, _, _, _, Lib.hid (by rw [HTR.out]; exact HZ.out), Lib.hid ⟨HC.out.1, HWK.out, ⟨Nat.le_trans (wo_len _ _) HC.out.2.2.1.1, Nat.le_trans (ls_le _ _) HC.out.2.2.1.2⟩, by rw [← HC.out.2.2.2, HE.out]⟩⟩
      case measure =>
        rw [HM.out, lenAt_of HZ.out.1.at7]
        show t.length < _
        rw [HK.out]
        simp
    · have HE := Lib.hid (trim_done (s := cur) (by rw [← HQ.out.1, ← HQ.out.2]; exact hgt))
      go_wp2_with fail
      refine region_grown (by kernel_rfl) (by kernel_rfl) ?_
      repeat (go_big_quiet_step (fail))
      refine wpQuiet_nil ?_
      rintro w1 ⟨p9, hp9⟩
      have hb1 : Below wr.heap.size wr w1 := hp9 ▸ p9.h
      clear hp9 p9
      have h1 := HF.out.1.kept hb1
      have H1 := Lib.hid (And.intro h1 (HF.out.2.trans (hb1.mono HF.out.1.low)))
      clear d3 d7 hb1 h1
      go_wp2_with fail
      go_end0
      refine ⟨rfl, ?_⟩
      rw [← HC.out.2.2.2, HE.out]
      exact H1.out.1.to H1.out.2
end
end Go.Proofs.Ytifenpmkbnohhaa
