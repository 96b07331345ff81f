/-
  What the program asks of a state is what the document asks: plain.
  Is a state right, as the program asks it.
  What the program tells: Drop, Touch, Kept.
-/
import Derived.Test.YtifenpmkbnohhaaG16
namespace Go.Proofs.Ytifenpmkbnohhaa
open Go.RowKit
open Go.Proofs.StackM
set_option linter.unusedVariables false
theorem okp_iff (p : Pg) : okp p = true ↔ (1 ≤ p.kind ∧ p.kind ≤ 3 ∧ p.test = false ∧ p.mark = false) := by unfold okp; exact decide_eq_true_iff
theorem pkind_page {l : List Pg} (hn : (l.map Pg.key).Nodup) {p : Pg} (hp : p ∈ l) : pkind l p.key = p.kind := by
  obtain ⟨m, hm, rfl⟩ := List.getElem_of_mem hp
  exact pkind_hit hm rfl (fun j h1 h2 e => by have := key_inj hn h2 hm e; omega)
theorem pkind_some {l : List Pg} {k : Int} (h : pkind l k ≠ 0) : ∃ p ∈ l, p.key = k ∧ pkind l k = p.kind := by
  unfold pkind at h ⊢
  cases e : l.find? (fun p => decide (p.key = k)) with
  | none => rw [e] at h; exact absurd rfl h
  | some p =>
    have h1 := List.find?_some e
    exact ⟨p, List.mem_of_find?_eq_some e, by simpa using h1, rfl⟩
theorem bhot_iff (s : St) : bhot s.pg = true ↔ Bt s := by
  unfold bhot Bt
  cases e : s.pg.getLast? with
  | none => simp
  | some p => simp
/-- what the program asks, in its order -/
def Pr (s : St) : Prop := Cl s.cf ∧ s.tg = 0 ∧ s.co = 0 ∧ s.te = 0 ∧ fts s = true ∧ s.pg.all okp = true ∧ bhot s.pg = true ∧ (s.pg.map Pg.key).Nodup ∧ s.qu.Nodup ∧ s.gh.Nodup ∧ Ag s
theorem colds_len (pg : List Pg) (l : List Int) : colds pg l = (l.filter fun k => decide (pkind pg k = 2)).length := by unfold colds; rw [List.countP_eq_length_filter]
theorem pr_rg (s : St) : Pr s ↔ Rg s := by
  constructor
  · rintro ⟨hc, ht, hco, hte, hf, hpl, hbh, nk, nq, ng, ⟨a1, a2, a3, a4⟩⟩
    have hpl' : ∀ p ∈ s.pg, 1 ≤ p.kind ∧ p.kind ≤ 3 ∧ p.test = false ∧ p.mark = false := fun p hp => (okp_iff p).1 (List.all_eq_true.1 hpl p hp)
    have hf' := hf
    unfold fts at hf'
    rw [rm_cl hc] at hf'
    simp only [Bool.and_eq_true, decide_eq_true_eq] at hf'
    obtain ⟨⟨f1, f2⟩, f3⟩ := hf'
    have hq2 : ∀ x ∈ kk s.pg 2, x ∈ s.qu.filter (fun k => decide (pkind s.pg k = 2)) := by
      refine sub_back (a := s.qu.filter (fun k => decide (pkind s.pg k = 2))) (b := kk s.pg 2) (nq.sublist List.filter_sublist) (fun x hx => ?_) (by rw [kk_len, ← colds_len, a3]; exact Nat.le_refl _)
      have hx2 : pkind s.pg x = 2 := by simpa using (List.mem_filter.1 hx).2
      obtain ⟨p, hp, e1, e2⟩ := pkind_some (l := s.pg) (k := x) (by rw [hx2]; decide)
      exact kk_mem.2 ⟨p, hp, by rw [← e2]; exact hx2, e1⟩
    have hg3 : ∀ x ∈ kk s.pg 3, x ∈ s.gh := by
      refine sub_back (a := s.gh) (b := kk s.pg 3) ng (fun x hx => ?_) (by rw [kk_len, a4]; exact Nat.le_refl _)
      have hx2 := a2 x hx
      obtain ⟨p, hp, e1, e2⟩ := pkind_some (l := s.pg) (k := x) (by rw [hx2]; decide)
      exact kk_mem.2 ⟨p, hp, by rw [← e2]; exact hx2, e1⟩
    refine ⟨hc, ht, hco, hte, ⟨nk, nq, ng, fun p hp => ?_, fun k hk => ?_⟩, (bhot_iff s).1 hbh, f1, f2, f3⟩
    · obtain ⟨k1, k2, k3, k4⟩ := hpl' p hp
      have hpk := pkind_page nk hp
      refine ⟨k3, k4, by omega, ⟨fun hm => ?_, fun h2 => ?_⟩, ⟨fun hm => ?_, fun h3 => ?_⟩⟩
      · have := a1 p.key hm
        unfold badq at this
        rw [hpk] at this
        omega
      · exact (List.mem_filter.1 (hq2 p.key (kk_mem.2 ⟨p, hp, h2, rfl⟩))).1
      · rw [← hpk]; exact a2 _ hm
      · exact hg3 p.key (kk_mem.2 ⟨p, hp, h3, rfl⟩)
    · obtain ⟨p, hp, e1, _⟩ := pkind_some (l := s.pg) (k := k) (by rw [a2 k hk]; decide)
      exact ⟨p, hp, e1⟩
  · intro h
    have hpk := fun p (hp : p ∈ s.pg) => h.wk.pk p hp
    refine ⟨h.cl, h.tg, h.co, h.te, ?_, ?_, (bhot_iff s).2 h.bt, h.wk.nk, h.wk.nq, h.wk.ng, ⟨fun k hk hb => ?_, fun k hk => ?_, ?_, ?_⟩⟩
    · unfold fts
      rw [rm_cl h.cl]
      simp only [Bool.and_eq_true, decide_eq_true_eq]
      exact ⟨⟨h.b1, h.b2⟩, h.b3⟩
    · rw [List.all_eq_true]
      intro p hp
      obtain ⟨k1, k2, k3, _⟩ := hpk p hp
      exact (okp_iff p).2 ⟨by omega, by omega, k1, k2⟩
    · have hne : pkind s.pg k ≠ 0 := by rcases hb with e | e <;> rw [e] <;> decide
      obtain ⟨p, hp, e1, e2⟩ := pkind_some hne
      have := (hpk p hp).2.2.2.1.1 (by rw [e1]; exact hk)
      unfold badq at hb
      rw [e2, this] at hb
      omega
    · obtain ⟨p, hp, e⟩ := h.wk.gg k hk
      rw [← e, pkind_page h.wk.nk hp]
      exact (hpk p hp).2.2.2.2.1 (by rw [e]; exact hk)
    · rw [colds_len]
      have l1 := sub_len (kk_nodup 2 h.wk.nk) (b := s.qu.filter (fun k => decide (pkind s.pg k = 2))) (fun x hx => by
        obtain ⟨p, hp, e1, e2⟩ := kk_mem.1 hx
        rw [← e2]
        exact List.mem_filter.2 ⟨(hpk p hp).2.2.2.1.2 e1, by rw [pkind_page h.wk.nk hp]; simpa using e1⟩)
      have l2 := sub_len (a := s.qu.filter (fun k => decide (pkind s.pg k = 2))) (b := kk s.pg 2) (h.wk.nq.sublist List.filter_sublist) (fun x hx => by
        have hx2 : pkind s.pg x = 2 := by simpa using (List.mem_filter.1 hx).2
        obtain ⟨p, hp, e1, e2⟩ := pkind_some (l := s.pg) (k := x) (by rw [hx2]; decide)
        exact kk_mem.2 ⟨p, hp, by rw [← e2]; exact hx2, e1⟩)
      rw [kk_len] at l1 l2
      omega
    · have l1 := sub_len (kk_nodup 3 h.wk.nk) (b := s.gh) (fun x hx => by
        obtain ⟨p, hp, e1, e2⟩ := kk_mem.1 hx
        rw [← e2]
        exact (hpk p hp).2.2.2.2.2 e1)
      have l2 := sub_len (a := s.gh) (b := kk s.pg 3) h.wk.ng (fun x hx => by
        obtain ⟨p, hp, e⟩ := h.wk.gg x hx
        exact kk_mem.2 ⟨p, hp, (hpk p hp).2.2.2.2.1 (by rw [e]; exact hx), e⟩)
      rw [kk_len] at l1 l2
      omega
end Go.Proofs.Ytifenpmkbnohhaa
namespace Go.Proofs.Ytifenpmkbnohhaa
open Go.RowKit
open Go.Proofs.StackM
set_option linter.unusedVariables false
/-- all keys are numbers of sixty-four bits -/
def Kw (s : St) : Prop := (∀ p ∈ s.pg, K64 p.key) ∧ (∀ k ∈ s.qu, K64 k) ∧ (∀ k ∈ s.gh, K64 k)
theorem bottom_atB (l : List Pg) (A : Option Addr) (n cap : Nat) (hn : n = l.length) (hb : n ≤ 1000000) (w : World) (hr : PRow w A cap l) :
    Calls Try.prog 50 #[.slice A n cap] w fun e w' => e = .returned (.bool (bhot l)) ∧ Below w.heap.size w w' :=
  (bottom_at l A n cap hn hb w hr).mono fun e w' ⟨h1, h2⟩ => ⟨h1, by rw [h2]; exact Below.refl _ _⟩
set_option maxHeartbeats 4000000 in
set_option maxRecDepth 100000 in
theorem right_any (s : St) (r : R3) (hl : Lim s 100000) (hk : Kw s) (w : World) (hr : SR w s r) : Calls Try.prog 22 #[sV s r] w fun e w' => (∃ b, e = .returned (.bool b) ∧ (b = true ↔ Rg s)) ∧ Below w.heap.size w w' := by
  have x := Fr.start1 hr
  obtain ⟨w1, hw1⟩ : ∃ w1, w1 = w.alloc (.cells (sA s r) 31) := ⟨_, rfl⟩
  rw [← hw1] at x
  obtain ⟨g, hg⟩ : ∃ g, g = w.heap.size := ⟨_, rfl⟩
  have HW := Lib.hid (And.intro hw1 hg)
  have KB : Hid (∀ V, Below w1.heap.size w1 V → Box V g (sA s r) ∧ SR V s r ∧ Below w.heap.size w V) := Lib.hid (fun V hV => ⟨by rw [hg]; exact (x.keep hV).box, (x.keep hV).rows, (x.keep hV).bel⟩)
  have HR : Hid (Rg s ↔ Pr s) := Lib.hid (pr_rg s).symm
  have HL := Lib.hid (And.intro hl hk)
  obtain ⟨b0, hb0⟩ : ∃ b, b = decide (Cl s.cf) := ⟨_, rfl⟩
  obtain ⟨b4, hb4⟩ : ∃ b, b = fts s := ⟨_, rfl⟩
  obtain ⟨b5, hb5⟩ : ∃ b, b = s.pg.all okp := ⟨_, rfl⟩
  obtain ⟨b6, hb6⟩ : ∃ b, b = bhot s.pg := ⟨_, rfl⟩
  obtain ⟨b7, hb7⟩ : ∃ b, b = decide (s.pg.map Pg.key).Nodup := ⟨_, rfl⟩
  obtain ⟨b8, hb8⟩ : ∃ b, b = decide s.qu.Nodup := ⟨_, rfl⟩
  obtain ⟨b9, hb9⟩ : ∃ b, b = decide s.gh.Nodup := ⟨_, rfl⟩
  have HB := Lib.hid (And.intro hb0 (And.intro hb4 (And.intro hb5 (And.intro hb6 (And.intro hb7 (And.intro hb8 hb9))))))
  have H1 : Hid (Below w1.heap.size w1 w1) := Lib.hid (Below.refl _ _)
  have d0 := at0 (KB.out w1 H1.out).1
  have d1 := at1 (KB.out w1 H1.out).1
  have d2 := at2 (KB.out w1 H1.out).1
  have d3 := at3 (KB.out w1 H1.out).1
  clear hw1 hg x hb0 hb4 hb5 hb6 hb7 hb8 hb9 hr hl hk
  go_enter Try.func22, Try.ntmps22
  go_wp2_with (first | fail | rw [← HW.out.1, ← HW.out.2])
  refine Calls.mono (lirs_at s.cf.p s.cf.c s.cf.q s.cf.g w1) ?_
  rintro e w2 ⟨rfl, hb⟩
  have H2 := Lib.hid (H1.out.trans (hb.mono H1.out.size))
  have e4 := at4 (KB.out w2 H2.out).1
  have e8 := at8 (KB.out w2 H2.out).1
  have e9 := at9 (KB.out w2 H2.out).1
  clear hb d0 d1 d2 d3
  have hc0 : decide (Cl ⟨s.cf.p, s.cf.c, s.cf.q, s.cf.g⟩) = b0 := HB.out.1.symm
  rw [hc0]
  clear hc0
  cases b0
  · go_wp2_with fail
    go_ret
    exact ⟨⟨false, rfl, by rw [HR.out]; exact ⟨fun h => (by cases h), fun h => (by have := HB.out.1; rw [decide_eq_true h.1] at this; cases this)⟩⟩, (KB.out w2 H2.out).2.2⟩
  · obtain ⟨t4, ht4⟩ : ∃ t, t = s.tg := ⟨_, rfl⟩
    rw [← ht4] at e4
    have HT4 := Lib.hid ht4
    clear ht4
    by_cases hz4 : ¬ t4 = 0
    · have hq4 : (t4 == 0) = false := by simpa using hz4
      go_wp2_with fail
      go_ret
      exact ⟨⟨false, rfl, by rw [HR.out]; exact ⟨fun h => (by cases h), fun h => (hz4 (by rw [HT4.out]; exact h.2.1)).elim⟩⟩, (KB.out w2 H2.out).2.2⟩
    · have hz4' : t4 = 0 := by omega
      subst hz4'
      clear hz4
      obtain ⟨t8, ht8⟩ : ∃ t, t = s.co := ⟨_, rfl⟩
      rw [← ht8] at e8
      have HT8 := Lib.hid ht8
      clear ht8
      by_cases hz8 : ¬ t8 = 0
      · have hq8 : (t8 == 0) = false := by simpa using hz8
        go_wp2_with fail
        go_ret
        exact ⟨⟨false, rfl, by rw [HR.out]; exact ⟨fun h => (by cases h), fun h => (hz8 (by rw [HT8.out]; exact h.2.2.1)).elim⟩⟩, (KB.out w2 H2.out).2.2⟩
      · have hz8' : t8 = 0 := by omega
        subst hz8'
        clear hz8
        obtain ⟨t9, ht9⟩ : ∃ t, t = s.te := ⟨_, rfl⟩
        rw [← ht9] at e9
        have HT9 := Lib.hid ht9
        clear ht9
        by_cases hz9 : ¬ t9 = 0
        · have hq9 : (t9 == 0) = false := by simpa using hz9
          go_wp2_with fail
          go_ret
          exact ⟨⟨false, rfl, by rw [HR.out]; exact ⟨fun h => (by cases h), fun h => (hz9 (by rw [HT9.out]; exact h.2.2.2.1)).elim⟩⟩, (KB.out w2 H2.out).2.2⟩
        · have hz9' : t9 = 0 := by omega
          subst hz9'
          clear hz9
          go_wp2_with (first | fail | refine ld31g rfl (.tmp 1) rfl _ rfl _ (KB.out w2 H2.out).1 ?_)
          refine Calls.mono (fits_at s r HL.out.1 w2 (KB.out w2 H2.out).2.1) ?_
          rintro e w3 ⟨rfl, hb⟩
          have H3 := Lib.hid (H2.out.trans (hb.mono H2.out.size))
          have e5 := at5 (KB.out w3 H3.out).1
          clear hb e4 e8 e9
          rw [← HB.out.2.1]
          cases b4
          · go_wp2_with fail
            go_ret
            exact ⟨⟨false, rfl, by rw [HR.out]; exact ⟨fun h => (by cases h), fun h => (by have := HB.out.2.1; rw [h.2.2.2.2.1] at this; cases this)⟩⟩, (KB.out w3 H3.out).2.2⟩
          · go_wp2_with fail
            refine Calls.mono (plain_at s.pg r.a1 s.pg.length r.c1 rfl (by have := HL.out.1.1; omega) w3 (KB.out w3 H3.out).2.1.pg.row) ?_
            rintro e w4 ⟨rfl, hb⟩
            have H4 := Lib.hid (H3.out.trans (hb.mono H3.out.size))
            have f5 := at5 (KB.out w4 H4.out).1
            clear hb e5
            rw [← HB.out.2.2.1]
            cases b5
            · go_wp2_with fail
              go_ret
              exact ⟨⟨false, rfl, by rw [HR.out]; exact ⟨fun h => (by cases h), fun h => (by have := HB.out.2.2.1; rw [h.2.2.2.2.2.1] at this; cases this)⟩⟩, (KB.out w4 H4.out).2.2⟩
            · go_wp2_with fail
              refine Calls.mono (bottom_atB s.pg r.a1 s.pg.length r.c1 rfl (by have := HL.out.1.1; omega) w4 (KB.out w4 H4.out).2.1.pg.row) ?_
              rintro e w5 ⟨rfl, hb⟩
              have H5 := Lib.hid (H4.out.trans (hb.mono H4.out.size))
              have g5 := at5 (KB.out w5 H5.out).1
              clear hb f5
              rw [← HB.out.2.2.2.1]
              cases b6
              · go_wp2_with fail
                go_ret
                exact ⟨⟨false, rfl, by rw [HR.out]; exact ⟨fun h => (by cases h), fun h => (by have := HB.out.2.2.2.1; rw [h.2.2.2.2.2.2.1] at this; cases this)⟩⟩, (KB.out w5 H5.out).2.2⟩
              · go_wp2_with fail
                refine Calls.mono (keysOf_at s.pg r.a1 s.pg.length r.c1 rfl (by have := HL.out.1.1; omega) w5 (KB.out w5 H5.out).2.1.pg.row) ?_
                rintro e w6 ⟨KA, kn, kc, rfl, hkn, hku, hb⟩
                have H6 := Lib.hid (H5.out.trans (hb.mono H5.out.size))
                have HKU := Lib.hid (And.intro hkn hku)
                clear hb hkn hku g5
                go_wp2_with fail
                refine Calls.mono (unlike_at (s.pg.map Pg.key) KA kn kc HKU.out.1 (by have := HL.out.1.1; rw [HKU.out.1, List.length_map]; omega) (fun k hk => by obtain ⟨p, hp, rfl⟩ := List.mem_map.1 hk; exact HL.out.2.1 p hp) w6 HKU.out.2) ?_
                rintro e w7 ⟨rfl, hb⟩
                have H7 := Lib.hid (H6.out.trans (hb.mono H6.out.size))
                have h6 := at6 (KB.out w7 H7.out).1
                clear hb 
                rw [← HB.out.2.2.2.2.1]
                cases b7
                · go_wp2_with fail
                  go_ret
                  exact ⟨⟨false, rfl, by rw [HR.out]; exact ⟨fun h => (by cases h), fun h => (by have := HB.out.2.2.2.2.1; rw [decide_eq_true h.2.2.2.2.2.2.2.1] at this; cases this)⟩⟩, (KB.out w7 H7.out).2.2⟩
                · go_wp2_with fail
                  refine Calls.mono (unlike_at s.qu r.a2 s.qu.length r.c2 rfl (by have := HL.out.1.2.1; omega) HL.out.2.2.1 w7 (KB.out w7 H7.out).2.1.qu.row) ?_
                  rintro e w8 ⟨rfl, hb⟩
                  have H8 := Lib.hid (H7.out.trans (hb.mono H7.out.size))
                  have i7 := at7 (KB.out w8 H8.out).1
                  clear hb h6
                  rw [← HB.out.2.2.2.2.2.1]
                  cases b8
                  · go_wp2_with fail
                    go_ret
                    exact ⟨⟨false, rfl, by rw [HR.out]; exact ⟨fun h => (by cases h), fun h => (by have := HB.out.2.2.2.2.2.1; rw [decide_eq_true h.2.2.2.2.2.2.2.2.1] at this; cases this)⟩⟩, (KB.out w8 H8.out).2.2⟩
                  · go_wp2_with fail
                    refine Calls.mono (unlike_at s.gh r.a3 s.gh.length r.c3 rfl (by have := HL.out.1.2.2; omega) HL.out.2.2.2 w8 (KB.out w8 H8.out).2.1.gh.row) ?_
                    rintro e w9 ⟨rfl, hb⟩
                    have H9 := Lib.hid (H8.out.trans (hb.mono H8.out.size))
                    clear hb i7
                    rw [← HB.out.2.2.2.2.2.2]
                    cases b9
                    · go_wp2_with fail
                      go_ret
                      exact ⟨⟨false, rfl, by rw [HR.out]; exact ⟨fun h => (by cases h), fun h => (by have := HB.out.2.2.2.2.2.2; rw [decide_eq_true h.2.2.2.2.2.2.2.2.2.1] at this; cases this)⟩⟩, (KB.out w9 H9.out).2.2⟩
                    · go_wp2_with (first | fail | refine ld31g rfl (.tmp 1) rfl _ rfl _ (KB.out w9 H9.out).1 ?_)
                      have hnd : (s.pg.map Pg.key).Nodup := of_decide_eq_true HB.out.2.2.2.2.1.symm
                      have hok : ∀ p ∈ s.pg, 1 ≤ p.kind ∧ p.kind ≤ 3 := fun p hp => by
                        have := (okp_iff p).1 (List.all_eq_true.1 HB.out.2.2.1.symm p hp)
                        exact ⟨this.1, this.2.1⟩
                      refine Calls.mono (agree_at s r HL.out.1 hnd hok HL.out.2.1 HL.out.2.2.1 HL.out.2.2.2 w9 (KB.out w9 H9.out).2.1) ?_
                      rintro e w10 ⟨rfl, hb⟩
                      have H10 := Lib.hid (H9.out.trans (hb.mono H9.out.size))
                      obtain ⟨b10, hb10⟩ : ∃ b, b = decide (Ag s) := ⟨_, rfl⟩
                      rw [← hb10]
                      have HB10 := Lib.hid hb10
                      clear hb hb10 hnd hok
                      go_wp2_with fail
                      go_ret
                      refine ⟨⟨b10, rfl, ?_⟩, (KB.out w10 H10.out).2.2⟩
                      rw [HR.out, HB10.out]
                      constructor
                      · exact fun h => ⟨of_decide_eq_true HB.out.1.symm, HT4.out.symm, HT8.out.symm, HT9.out.symm, HB.out.2.1.symm, HB.out.2.2.1.symm, HB.out.2.2.2.1.symm, of_decide_eq_true HB.out.2.2.2.2.1.symm, of_decide_eq_true HB.out.2.2.2.2.2.1.symm, of_decide_eq_true HB.out.2.2.2.2.2.2.symm, of_decide_eq_true h⟩
                      · exact fun h => decide_eq_true h.2.2.2.2.2.2.2.2.2.2
/-- of a right state -/
theorem right_yes (s : St) (r : R3) (h : Rg s) (hl : Lim s 100000) (hk : Kw s) (w : World) (hr : SR w s r) : Calls Try.prog 22 #[sV s r] w fun e w' => e = .returned (.bool true) ∧ Below w.heap.size w w' :=
  (right_any s r hl hk w hr).mono fun e w' ⟨⟨b, h1, h2⟩, h3⟩ => ⟨by rw [h1, h2.2 h], h3⟩
/-- of one that is not right -/
theorem right_no (s : St) (r : R3) (h : ¬ Rg s) (hl : Lim s 100000) (hk : Kw s) (w : World) (hr : SR w s r) : Calls Try.prog 22 #[sV s r] w fun e w' => e = .returned (.bool false) ∧ Below w.heap.size w w' :=
  (right_any s r hl hk w hr).mono fun e w' ⟨⟨b, h1, h2⟩, h3⟩ => ⟨by
    cases b with
    | true => exact absurd (h2.1 rfl) h
    | false => exact h1, h3⟩
end Go.Proofs.Ytifenpmkbnohhaa
namespace Go.Proofs.Ytifenpmkbnohhaa
open Go.RowKit
open Go.Proofs.StackM
set_option linter.unusedVariables false
section
variable {lo B c : Nat} {w w1 w2 : World} {s s0 : St} {r r0 : R3} {A : Option Addr} {ev : List Int}
theorem ldW {ops : Array Oper} {rest : List Oper} {o : Oper} {a : Act} {Q : Exit → Act → World → Prop} (hgd : o.guard = none) (x : Operand) (ho : o.op = .load 31 x) (hx : a.eval x = .pointer (some ⟨B, 0, none⟩)) (h : WK lo w B s r A c ev)
    (hK : wpList Try.prog ops Q rest (a.put o.dst (sV s r)) w) : wpList Try.prog ops Q (o :: rest) a w :=
  wpList_load_mid hgd 31 x ho B 0 hx (sA s r).toList _ (fun j v hv => by
    rw [cell_of_row (w := w) B (0 + j) _ 68 (0, 0) h.box, Nat.zero_add, spA]
    have hj : j < (sA s r).size := by
      have := (List.getElem?_eq_some_iff.1 hv).1
      simpa using this
    rw [Array.getElem?_push_lt hj]
    have hv' : (sA s r)[j]? = some v := by simpa using hv
    rw [← hv', Array.getElem?_eq_getElem hj]) Try.underlying31 rfl (by rw [info31]; rfl) hK
theorem WK.sr (h : WK lo w B s r A c ev) : SR w s r :=
  ⟨⟨h.prow, fun a e => (h.rows.pg.lt a.block (by rw [e]; rfl)).2, owns_cap h.rows.pg⟩, ⟨h.qrow, fun a e => (h.rows.qu.lt a.block (by rw [e]; rfl)).2, owns_cap h.rows.qu⟩, ⟨h.grow, fun a e => (h.rows.gh.lt a.block (by rw [e]; rfl)).2, owns_cap h.rows.gh⟩⟩
theorem WK.up (h : WK lo w B s r A c ev) : (∀ a, r.a1 = some a → lo ≤ a.block) ∧ (∀ a, r.a2 = some a → lo ≤ a.block) ∧ (∀ a, r.a3 = some a → lo ≤ a.block) :=
  ⟨fun a e => (h.rows.pg.lt a.block (by rw [e]; rfl)).1, fun a e => (h.rows.qu.lt a.block (by rw [e]; rfl)).1, fun a e => (h.rows.gh.lt a.block (by rw [e]; rfl)).1⟩
theorem WK.frm (h : WK lo w B s r A c ev) (t : Nat) (ht : t ≤ lo) (r0 : R3) : Frm t r0 r :=
  ⟨.inr fun a e => Nat.le_trans ht (h.up.1 a e), .inr fun a e => Nat.le_trans ht (h.up.2.1 a e), .inr fun a e => Nat.le_trans ht (h.up.2.2 a e)⟩
/-- the frame of a function that works on a state: the result's box, all below a mark stays -/
structure TF (w : World) (lo : Nat) (w1 : World) : Prop where
  res : Box w1 (w.heap.size + 1) (sA S0 R0)
  bel : Below w.heap.size w w1
  lo : w.heap.size + 2 ≤ lo
theorem TF.keep (x : TF w lo w1) (hb : Below lo w1 w2) : TF w lo w2 := ⟨x.res.kept hb (by have := x.lo; omega), x.bel.trans (hb.mono (by have := x.lo; omega)), x.lo⟩
theorem sr_row3 {w : World} {s : St} {r : R3} {t b : Nat} (hr : SR w s r) (hu : (∀ a, r.a1 = some a → t ≤ a.block) ∧ (∀ a, r.a2 = some a → t ≤ a.block) ∧ (∀ a, r.a3 = some a → t ≤ a.block)) (hb : b < t) (cs : Array Value) : SR (w.setRow b cs) s r := by
  refine ⟨⟨vrow_row hr.pg.row (fun a e => by have := hu.1 a e; omega), fun a e => by rw [size_setRow]; exact hr.pg.lt a e, hr.pg.le⟩, ⟨vrow_row hr.qu.row (fun a e => by have := hu.2.1 a e; omega), fun a e => by rw [size_setRow]; exact hr.qu.lt a e, hr.qu.le⟩, ⟨vrow_row hr.gh.row (fun a e => by have := hu.2.2 a e; omega), fun a e => by rw [size_setRow]; exact hr.gh.lt a e, hr.gh.le⟩⟩
theorem TF.ret2 (x : TF w lo w1) (h : WK lo w1 B s r A c ev) (r0 : R3) (b : Bool) : S2Post w r0 s b (.returned (.tuple #[sV s r, .bool b])) (w1.setRow (w.heap.size + 1) (sA s r)) :=
  ⟨r, rfl, sr_row3 h.sr h.up (by have := x.lo; omega) _, h.frm _ (by have := x.lo; omega) r0, below_setRow x.bel (Nat.le_succ _)⟩
theorem sr_zero (w : World) : SR w S0 R0 := ⟨⟨.inl ⟨rfl, rfl, rfl⟩, fun a e => (by cases e), Nat.le_refl _⟩, ⟨.inl ⟨rfl, rfl, rfl⟩, fun a e => (by cases e), Nat.le_refl _⟩, ⟨.inl ⟨rfl, rfl, rfl⟩, fun a e => (by cases e), Nat.le_refl _⟩⟩
theorem frm_zero (t : Nat) (r : R3) : Frm t r R0 := ⟨.inr fun a e => (by cases e), .inr fun a e => (by cases e), .inr fun a e => (by cases e)⟩
end
theorem rg_lim {s : St} (h : Rg s) : Lim s 768 := by
  obtain ⟨⟨_, _, _, _, _, h6⟩, _, _⟩ := (rt_rg s).2 h
  exact h6
theorem bld31z (w : World) : (Instr.build 31 #[]).run Try.prog w = .ok (sV S0 R0) w := by
  kernel_rfl
theorem bld31zL {ops : Array Oper} {rest : List Oper} {o : Oper} {a : Act} {w : World} {Q : Exit → Act → World → Prop} (hg : o.guard = none) (ho : o.op = .build 31 #[])
    (hK : wpList Try.prog ops Q rest (a.put o.dst (sV S0 R0)) w) : wpList Try.prog ops Q (o :: rest) a w := by
  refine wpList_plain hg fun K k => ?_
  unfold Oper.wp
  have := bld31z w
  simp [execOp, ho, this]
  exact k _ _ hK
set_option maxHeartbeats 2000000 in
set_option maxRecDepth 100000 in
theorem pdrop_bad (s : St) (r : R3) (k : Int) (h : ¬ Rg s) (hl : Lim s 10000) (hk : Kw s) (w : World) (hr : SR w s r) : Calls Try.prog 13 #[sV s r, .int .u64 k] w (S2Post w r S0 false) := by
  have x := F2.start hr
  obtain ⟨w1, hw1⟩ : ∃ w1, w1 = (w.alloc (.cells (sA s r) 31)).alloc (.cells (sA S0 R0) 31) := ⟨_, rfl⟩
  rw [← hw1] at x
  have hA : (w.alloc (.cells (sA s r) 31)).alloc (.cells #[.int .i64 0, .int .i64 0, .int .i64 0, .int .i64 0, .int .i64 0, .slice none 0 0, .slice none 0 0, .slice none 0 0, .int .i64 0, .int .i64 0, .int .u64 0, .int .u64 0, .int .u64 0, .int .u64 0, .int .u64 0, .int .u64 0, .int .u64 0, .int .u64 0, .int .u64 0, .int .u64 0] 31) = w1 := hw1.symm
  have HA := Lib.hid hA
  have HX := Lib.hid x
  have HL := Lib.hid (And.intro h (And.intro hl hk))
  clear x hw1 hA hl hr h hk
  show Calls Try.prog 13 #[sV s r, .int .u64 k] w fun e w' => S2Post w r S0 false e w'
  go_enter Try.func13, Try.ntmps13
  go_wp2_with (first | fail | (rw [HA.out]; refine ld31 rfl (.tmp 2) rfl _ rfl _ HX.out.fr.box ?_))
  refine (right_no s r HL.out.1 (HL.out.2.1.up (by omega)) HL.out.2.2 w1 HX.out.fr.rows).mono ?_
  rintro e w2 ⟨rfl, hb2⟩
  have H2 := Lib.hid (HX.out.keep hb2)
  clear hb2 HX HA
  go_wp2_with (first | fail | refine bld31zL rfl rfl ?_ | refine st31 rfl (.tmp 4) (.tmp 11) rfl _ S0 R0 rfl rfl _ H2.out.res ?_)
  refine bodyPost_ret (results_s2 rfl _ _ _ _ rfl (H2.out.res.rowSet (sA_len _ _))) rfl ?_
  exact ⟨R0, rfl, sr_zero _, frm_zero _ _, below_setRow H2.out.fr.bel (Nat.le_succ _)⟩
set_option maxHeartbeats 2000000 in
set_option maxRecDepth 100000 in
theorem ptouch_bad (s : St) (r : R3) (k : Int) (h : ¬ Rg s) (hl : Lim s 10000) (hk : Kw s) (w : World) (hr : SR w s r) : Calls Try.prog 11 #[sV s r, .int .u64 k] w (S2Post w r S0 false) := by
  have x := F2.start hr
  obtain ⟨w1, hw1⟩ : ∃ w1, w1 = (w.alloc (.cells (sA s r) 31)).alloc (.cells (sA S0 R0) 31) := ⟨_, rfl⟩
  rw [← hw1] at x
  have hA : (w.alloc (.cells (sA s r) 31)).alloc (.cells #[.int .i64 0, .int .i64 0, .int .i64 0, .int .i64 0, .int .i64 0, .slice none 0 0, .slice none 0 0, .slice none 0 0, .int .i64 0, .int .i64 0, .int .u64 0, .int .u64 0, .int .u64 0, .int .u64 0, .int .u64 0, .int .u64 0, .int .u64 0, .int .u64 0, .int .u64 0, .int .u64 0] 31) = w1 := hw1.symm
  have HA := Lib.hid hA
  have HX := Lib.hid x
  have HL := Lib.hid (And.intro h (And.intro hl hk))
  clear x hw1 hA hl hr h hk
  show Calls Try.prog 11 #[sV s r, .int .u64 k] w fun e w' => S2Post w r S0 false e w'
  go_enter Try.func11, Try.ntmps11
  go_wp2_with (first | fail | (rw [HA.out]; refine ld31 rfl (.tmp 2) rfl _ rfl _ HX.out.fr.box ?_))
  refine (right_no s r HL.out.1 (HL.out.2.1.up (by omega)) HL.out.2.2 w1 HX.out.fr.rows).mono ?_
  rintro e w2 ⟨rfl, hb2⟩
  have H2 := Lib.hid (HX.out.keep hb2)
  clear hb2 HX HA
  go_wp2_with (first | fail | refine bld31zL rfl rfl ?_ | refine st31 rfl (.tmp 4) (.tmp 11) rfl _ S0 R0 rfl rfl _ H2.out.res ?_)
  refine bodyPost_ret (results_s2 rfl _ _ _ _ rfl (H2.out.res.rowSet (sA_len _ _))) rfl ?_
  exact ⟨R0, rfl, sr_zero _, frm_zero _ _, below_setRow H2.out.fr.bel (Nat.le_succ _)⟩
set_option maxHeartbeats 2000000 in
set_option maxRecDepth 100000 in
theorem pdrop_at (s : St) (r : R3) (k : Int) (h : Rg s) (hl : Lim s 10000) (hk : Kw s) (w : World) (hr : SR w s r) : Calls Try.prog 13 #[sV s r, .int .u64 k] w (S2Post w r (drop s k) (decide (Kpt s k))) := by
  have x := F2.start hr
  obtain ⟨w1, hw1⟩ : ∃ w1, w1 = (w.alloc (.cells (sA s r) 31)).alloc (.cells (sA S0 R0) 31) := ⟨_, rfl⟩
  rw [← hw1] at x
  have hA : (w.alloc (.cells (sA s r) 31)).alloc (.cells #[.int .i64 0, .int .i64 0, .int .i64 0, .int .i64 0, .int .i64 0, .slice none 0 0, .slice none 0 0, .slice none 0 0, .int .i64 0, .int .i64 0, .int .u64 0, .int .u64 0, .int .u64 0, .int .u64 0, .int .u64 0, .int .u64 0, .int .u64 0, .int .u64 0, .int .u64 0, .int .u64 0] 31) = w1 := hw1.symm
  have HA := Lib.hid hA
  have HX := Lib.hid x
  have HL := Lib.hid (And.intro h (And.intro hl hk))
  clear x hw1 hA hl hr h hk
  show Calls Try.prog 13 #[sV s r, .int .u64 k] w fun e w' => S2Post w r (drop s k) (decide (Kpt s k)) e w'
  go_enter Try.func13, Try.ntmps13
  go_wp2_with (first | fail | (rw [HA.out]; refine ld31 rfl (.tmp 2) rfl _ rfl _ HX.out.fr.box ?_))
  refine (right_yes s r HL.out.1 (HL.out.2.1.up (by omega)) HL.out.2.2 w1 HX.out.fr.rows).mono ?_
  rintro e w2 ⟨rfl, hb2⟩
  have H2 := Lib.hid (HX.out.keep hb2)
  clear hb2 HX HA
  go_wp2_with (first | fail | refine ld31 rfl (.tmp 2) rfl _ rfl _ H2.out.fr.box ?_)
  refine (begin_at s r (HL.out.2.1.up (by omega)) w2 H2.out.fr.rows).mono ?_
  rintro e w3 ⟨B, r3, A3, c3, rfl, hwk, hb3⟩
  have x3 := H2.out.keep hb3
  obtain ⟨lo, hlo⟩ : ∃ lo, lo = w2.heap.size := ⟨_, rfl⟩
  rw [← hlo] at hwk hb3
  have H3 : Hid (WK lo w3 B s r3 A3 c3 [] ∧ TF w lo w3) := Lib.hid ⟨hwk, x3.res, x3.fr.bel, by rw [hlo]; exact H2.out.fr.hi⟩
  clear hwk hb3 x3 hlo H2
  go_wp2_with (first | fail | refine ldW rfl (.tmp 16) rfl rfl H3.out.1 ?_)
  refine (keeps_at s r3 k (HL.out.2.1.up (by omega)) w3 H3.out.1.sr).mono ?_
  rintro e w4 ⟨rfl, hb4⟩
  rw [pk_kpt HL.out.1.wk]
  have H4 : Hid (WK lo w4 B s r3 A3 c3 [] ∧ TF w lo w4) := Lib.hid ⟨H3.out.1.kept hb4, H3.out.2.keep (hb4.mono H3.out.1.low)⟩
  clear hb4 H3
  obtain ⟨b, hb⟩ : ∃ b, b = decide (Kpt s k) := ⟨_, rfl⟩
  rw [← hb]
  have HBB := Lib.hid hb
  clear hb
  go_wp2_with fail
  have hlim := rg_lim HL.out.1
  refine Calls.mono (leave_at H4.out.1 k (by have := hlim.1; omega) (by have := hlim.2.1; omega) (by have := hlim.2.2; omega)) ?_
  rintro e w5 ⟨rfl, r5, A5, c5, h5, hb5⟩
  have H5 : Hid (WK lo w5 B (gone s k) r5 A5 c5 [] ∧ TF w lo w5) := Lib.hid ⟨h5, H4.out.2.keep hb5⟩
  clear h5 hb5 H4
  go_wp2_with fail
  refine Calls.mono (pprune_at H5.out.1 (HL.out.1.wk.gone k) (by have := hlim.1; have := wo_len s.pg k; show (wo s.pg k).length ≤ _; omega) (by have := hlim.2.2; have := ls_le s.gh k; show (ls s.gh k).length ≤ _; omega)) ?_
  rintro e w6 ⟨rfl, r6, A6, c6, h6, hb6⟩
  have H6 : Hid (WK lo w6 B (drop s k) r6 A6 c6 [] ∧ TF w lo w6) := Lib.hid ⟨h6, H5.out.2.keep hb6⟩
  clear h6 hb6 H5 hlim
  go_wp2_with (first | fail | refine ldW rfl (.tmp 27) rfl rfl H6.out.1 ?_ | refine st31 rfl (.tmp 4) (.tmp 28) rfl _ (drop s k) r6 rfl rfl _ H6.out.2.res ?_)
  refine bodyPost_ret (results_s2 rfl _ _ _ _ rfl (H6.out.2.res.rowSet (sA_len _ _))) rfl ?_
  show S2Post w r (drop s k) (decide (Kpt s k)) _ _
  rw [← HBB.out]
  exact H6.out.2.ret2 H6.out.1 r b
theorem kpt_pk {s : St} {k : Int} (h : Kpt s k) : (pkind s.pg k = 1 ∧ kOf s k = 1) ∨ (pkind s.pg k = 2 ∧ kOf s k = 2 ∧ Hs s k) ∨ (pkind s.pg k = 0 ∧ kOf s k = 2 ∧ ¬ Hs s k) := by
  unfold Kpt at h
  unfold kOf pkind at *
  cases e : s.pg.find? (fun p => decide (p.key = k)) with
  | some p =>
    rw [e] at h
    dsimp only at h ⊢
    have hs : Hs s k := ⟨p, List.mem_of_find?_eq_some e, by simpa using List.find?_some e⟩
    rcases h with h | h
    · exact .inl ⟨h, h⟩
    · exact .inr (.inl ⟨h, h, hs⟩)
  | none =>
    rw [e] at h
    dsimp only at h ⊢
    have hn : ¬ Hs s k := fun ⟨p, hp, hk⟩ => by
      rw [List.find?_eq_none] at e
      exact e p hp (by simpa using hk)
    refine .inr (.inr ⟨rfl, ?_, hn⟩)
    rcases h with h | h
    · split at h <;> cases h
    · exact h
theorem not_gone {s : St} (hw : StackM.Wk s) {k : Int} (h : kOf s k = 2) : k ∉ s.gh := by
  intro hg
  obtain ⟨p, hp, e⟩ := hw.gg k hg
  have := (hw.pk p hp).2.2.2.2.1 (by rw [e]; exact hg)
  have h2 := kOf_page hw hp e
  rw [h, this] at h2
  cases h2
theorem not_hot_page {s : St} (hw : StackM.Wk s) {k : Int} (h : kOf s k ≠ 1) : ∀ p ∈ s.pg, p.key = k → p.kind ≠ 1 := fun p hp e h1 => h (by rw [kOf_page hw hp e]; exact h1)
theorem hroom_rm {s : St} (h : Cl s.cf) : hroom s = decide (Rm s) := by unfold hroom Rm; rw [rm_cl h]
theorem hot_state {s : St} (hw : StackM.Wk s) {k : Int} (h : kOf s k = 1) : StackM.Wk { s with pg := ⟨k, 1, false, false⟩ :: wo s.pg k } := by
  have hq : k ∉ s.qu := fun hm => by have := kOf_queue hw hm; rw [h] at this; cases this
  have hg : k ∉ s.gh := fun hm => by
    obtain ⟨p, hp, e⟩ := hw.gg k hm
    have h3 := (hw.pk p hp).2.2.2.2.1 (by rw [e]; exact hm)
    have h2 := kOf_page hw hp e
    rw [h, h3] at h2
    cases h2
  have e : gone s k = { s with pg := wo s.pg k } := by unfold gone; rw [ls_none hq, ls_none hg]
  obtain ⟨a, b, c⟩ := gone_key s k
  have := (hw.gone k).hot a b c
  rw [e] at this
  exact this
theorem lims {s : St} (h : Rg s) : s.pg.length ≤ 768 ∧ s.qu.length ≤ 768 ∧ s.gh.length ≤ 768 := rg_lim h
theorem raise_len {s : St} {k : Int} (h1 : s.pg.length + s.qu.length ≤ 9000) (h2 : s.gh.length ≤ 9000) : (raise s k).pg.length ≤ 20000 ∧ (raise s k).gh.length ≤ 10000 := by
  have h3 := wo_len s.pg k
  have h4 := ls_le s.qu k
  have h5 := ls_le s.gh k
  have h0 : Lsm { top (gone s k) k 1 with ct := { s.ct with ra := up s.ct.ra } } := by
    refine ⟨?_, ?_⟩
    · show (⟨k, 1, false, false⟩ :: wo s.pg k : List Pg).length + (ls s.qu k).length ≤ 20000
      rw [List.length_cons]; omega
    · show (ls s.gh k).length ≤ 10000
      omega
  have := lower_ind (P := Lsm) (fun t p _ hp ht => loS_lsm hp ht) _ h0
  exact ⟨by have := this.1; show (lower _).pg.length ≤ _; omega, this.2⟩
set_option maxHeartbeats 2000000 in
set_option maxRecDepth 100000 in
theorem ptouch_no (s : St) (r : R3) (k : Int) (h : Rg s) (hl : Lim s 10000) (hk : Kw s) (w : World) (hr : SR w s r) (hkp : ¬ Kpt s k) : Calls Try.prog 11 #[sV s r, .int .u64 k] w (S2Post w r s false) := by
  have HKP := Lib.hid hkp
  clear hkp
  have x := F2.start hr
  obtain ⟨w1, hw1⟩ : ∃ w1, w1 = (w.alloc (.cells (sA s r) 31)).alloc (.cells (sA S0 R0) 31) := ⟨_, rfl⟩
  rw [← hw1] at x
  have hA : (w.alloc (.cells (sA s r) 31)).alloc (.cells #[.int .i64 0, .int .i64 0, .int .i64 0, .int .i64 0, .int .i64 0, .slice none 0 0, .slice none 0 0, .slice none 0 0, .int .i64 0, .int .i64 0, .int .u64 0, .int .u64 0, .int .u64 0, .int .u64 0, .int .u64 0, .int .u64 0, .int .u64 0, .int .u64 0, .int .u64 0, .int .u64 0] 31) = w1 := hw1.symm
  have HA := Lib.hid hA
  have HX := Lib.hid x
  have HL := Lib.hid (And.intro h (And.intro hl hk))
  clear x hw1 hA hl hr h hk
  show Calls Try.prog 11 #[sV s r, .int .u64 k] w fun e w' => S2Post w r s false e w'
  go_enter Try.func11, Try.ntmps11
  go_wp2_with (first | fail | (rw [HA.out]; refine ld31 rfl (.tmp 2) rfl _ rfl _ HX.out.fr.box ?_))
  refine (right_yes s r HL.out.1 (HL.out.2.1.up (by omega)) HL.out.2.2 w1 HX.out.fr.rows).mono ?_
  rintro e w2 ⟨rfl, hb2⟩
  have H2 := Lib.hid (HX.out.keep hb2)
  clear hb2 HX HA
  go_wp2_with (first | fail | refine ld31 rfl (.tmp 2) rfl _ rfl _ H2.out.fr.box ?_)
  refine (begin_at s r (HL.out.2.1.up (by omega)) w2 H2.out.fr.rows).mono ?_
  rintro e w3 ⟨B, r3, A3, c3, rfl, hwk, hb3⟩
  have x3 := H2.out.keep hb3
  obtain ⟨lo, hlo⟩ : ∃ lo, lo = w2.heap.size := ⟨_, rfl⟩
  rw [← hlo] at hwk hb3
  have H3 : Hid (WK lo w3 B s r3 A3 c3 [] ∧ TF w lo w3) := Lib.hid ⟨hwk, x3.res, x3.fr.bel, by rw [hlo]; exact H2.out.fr.hi⟩
  clear hwk hb3 x3 hlo H2
  go_wp2_with (first | fail | refine ldW rfl (.tmp 16) rfl rfl H3.out.1 ?_)
  refine (keeps_at s r3 k (HL.out.2.1.up (by omega)) w3 H3.out.1.sr).mono ?_
  rintro e w4 ⟨rfl, hb4⟩
  rw [pk_kpt HL.out.1.wk]
  have H4 : Hid (WK lo w4 B s r3 A3 c3 [] ∧ TF w lo w4) := Lib.hid ⟨H3.out.1.kept hb4, H3.out.2.keep (hb4.mono H3.out.1.low)⟩
  clear hb4 H3
  rw [decide_eq_false HKP.out]
  go_wp2_with (first | fail | refine ldW rfl (.tmp 23) rfl rfl H4.out.1 ?_ | refine st31 rfl (.tmp 4) (.tmp 24) rfl _ s r3 rfl rfl _ H4.out.2.res ?_)
  refine bodyPost_ret (results_s2 rfl _ _ _ _ rfl (H4.out.2.res.rowSet (sA_len _ _))) rfl ?_
  exact H4.out.2.ret2 H4.out.1 r false
set_option maxHeartbeats 2000000 in
set_option maxRecDepth 100000 in
theorem ptouch_yes (s : St) (r : R3) (k : Int) (h : Rg s) (hl : Lim s 10000) (hk : Kw s) (w : World) (hr : SR w s r) (hkp : Kpt s k) : Calls Try.prog 11 #[sV s r, .int .u64 k] w (S2Post w r (touch s k) true) := by
  have HKP := Lib.hid hkp
  rw [touch_yes hkp]
  clear hkp
  have x := F2.start hr
  obtain ⟨w1, hw1⟩ : ∃ w1, w1 = (w.alloc (.cells (sA s r) 31)).alloc (.cells (sA S0 R0) 31) := ⟨_, rfl⟩
  rw [← hw1] at x
  have hA : (w.alloc (.cells (sA s r) 31)).alloc (.cells #[.int .i64 0, .int .i64 0, .int .i64 0, .int .i64 0, .int .i64 0, .slice none 0 0, .slice none 0 0, .slice none 0 0, .int .i64 0, .int .i64 0, .int .u64 0, .int .u64 0, .int .u64 0, .int .u64 0, .int .u64 0, .int .u64 0, .int .u64 0, .int .u64 0, .int .u64 0, .int .u64 0] 31) = w1 := hw1.symm
  have HA := Lib.hid hA
  have HX := Lib.hid x
  have HL := Lib.hid (And.intro h (And.intro hl hk))
  clear x hw1 hA hl hr h hk
  show Calls Try.prog 11 #[sV s r, .int .u64 k] w fun e w' => S2Post w r (tTouch s k) true e w'
  go_enter Try.func11, Try.ntmps11
  go_wp2_with (first | fail | (rw [HA.out]; refine ld31 rfl (.tmp 2) rfl _ rfl _ HX.out.fr.box ?_))
  refine (right_yes s r HL.out.1 (HL.out.2.1.up (by omega)) HL.out.2.2 w1 HX.out.fr.rows).mono ?_
  rintro e w2 ⟨rfl, hb2⟩
  have H2 := Lib.hid (HX.out.keep hb2)
  clear hb2 HX HA
  go_wp2_with (first | fail | refine ld31 rfl (.tmp 2) rfl _ rfl _ H2.out.fr.box ?_)
  refine (begin_at s r (HL.out.2.1.up (by omega)) w2 H2.out.fr.rows).mono ?_
  rintro e w3 ⟨B, r3, A3, c3, rfl, hwk, hb3⟩
  have x3 := H2.out.keep hb3
  obtain ⟨lo, hlo⟩ : ∃ lo, lo = w2.heap.size := ⟨_, rfl⟩
  rw [← hlo] at hwk hb3
  have H3 : Hid (WK lo w3 B s r3 A3 c3 [] ∧ TF w lo w3) := Lib.hid ⟨hwk, x3.res, x3.fr.bel, by rw [hlo]; exact H2.out.fr.hi⟩
  clear hwk hb3 x3 hlo H2
  go_wp2_with (first | fail | refine ldW rfl (.tmp 16) rfl rfl H3.out.1 ?_)
  refine (keeps_at s r3 k (HL.out.2.1.up (by omega)) w3 H3.out.1.sr).mono ?_
  rintro e w4 ⟨rfl, hb4⟩
  rw [pk_kpt HL.out.1.wk]
  have H4 : Hid (WK lo w4 B s r3 A3 c3 [] ∧ TF w lo w4) := Lib.hid ⟨H3.out.1.kept hb4, H3.out.2.keep (hb4.mono H3.out.1.low)⟩
  clear hb4 H3
  rw [decide_eq_true HKP.out]
  have d10 := H4.out.1.at10
  have f10 := H4.out.1.free 10
  have hup := wrap_up s.ct.hi
  have H5 : Hid (WK lo (w4.setCell ⟨B, 10, none⟩ (.int .u64 (up s.ct.hi))) B (hit s) r3 A3 c3 [] ∧ TF w lo (w4.setCell ⟨B, 10, none⟩ (.int .u64 (up s.ct.hi)))) := Lib.hid ⟨H4.out.1.ct10 _, H4.out.2.keep (below_setCell (Below.refl _ _) H4.out.1.hlo)⟩
  go_wp2_with fail
  clear d10 f10 hup
  obtain ⟨w5, hw5⟩ : ∃ w5, w5 = w4.setCell ⟨B, 10, none⟩ (.int .u64 (up s.ct.hi)) := ⟨_, rfl⟩
  rw [← hw5] at H5 ⊢
  clear hw5 H4
  have hlim := rg_lim HL.out.1
  refine (kind_at H5.out.1 k (by have := hlim.1; show s.pg.length ≤ _; omega)).mono ?_
  rintro e w6 ⟨rfl, hb6⟩
  have hpe : pkind (hit s).pg k = pkind s.pg k := rfl
  rw [hpe]
  have H6 : Hid (WK lo w6 B (hit s) r3 A3 c3 [] ∧ TF w lo w6) := Lib.hid ⟨H5.out.1.kept hb6, H5.out.2.keep (hb6.mono H5.out.1.low)⟩
  have HM := Lib.hid hlim
  clear hpe hb6 H5 hlim
  rcases kpt_pk HKP.out with ⟨h1, h2⟩ | ⟨h1, h2, h3⟩ | ⟨h1, h2, h3⟩
  · rw [h1]
    have HT : Hid (tTouch s k = prune { hit s with pg := ⟨k, 1, false, false⟩ :: wo s.pg k }) := Lib.hid (by unfold tTouch; rw [if_pos h2])
    have HK2 := Lib.hid h2
    clear h1 h2
    go_wp2_with fail
    refine Calls.mono (stand_at H6.out.1 k 1 (by have := HM.out.1; show s.pg.length ≤ _; omega)) ?_
    rintro e w7 ⟨rfl, r7, A7, c7, h7, hb7⟩
    have H7 : Hid (WK lo w7 B { hit s with pg := ⟨k, 1, false, false⟩ :: wo s.pg k } r7 A7 c7 [] ∧ TF w lo w7) := Lib.hid ⟨h7, H6.out.2.keep hb7⟩
    clear h7 hb7 H6
    go_wp2_with fail
    refine Calls.mono (pprune_at H7.out.1 ((hot_state HL.out.1.wk HK2.out).ct _) (by have := HM.out.1; have := wo_len s.pg k; show (_ :: wo s.pg k).length ≤ _; rw [List.length_cons]; omega) (by have := HM.out.2.2; show s.gh.length ≤ _; omega)) ?_
    rintro e w8 ⟨rfl, r8, A8, c8, h8, hb8⟩
    have H8 : Hid (WK lo w8 B (tTouch s k) r8 A8 c8 [] ∧ TF w lo w8) := Lib.hid ⟨by rw [HT.out]; exact h8, H7.out.2.keep hb8⟩
    clear h8 hb8 H7
    go_wp2_with (first | fail | refine ldW rfl (.tmp 62) rfl rfl H8.out.1 ?_ | refine st31 rfl (.tmp 4) (.tmp 63) rfl _ (tTouch s k) r8 rfl rfl _ H8.out.2.res ?_)
    refine bodyPost_ret (results_s2 rfl _ _ _ _ rfl (H8.out.2.res.rowSet (sA_len _ _))) rfl ?_
    exact H8.out.2.ret2 H8.out.1 r true
  · rw [h1]
    have HT : Hid (tTouch s k = prune (raise (hit s) k)) := Lib.hid (by unfold tTouch; rw [if_neg (by rw [h2]; decide), if_pos (.inl h3)])
    have HNH : Hid (∀ p ∈ s.pg, p.key = k → p.kind ≠ 1) := Lib.hid (not_hot_page HL.out.1.wk (by rw [h2]; decide))
    have H7 := H6
    clear h1 h2 h3 H6
    go_wp2_with fail
    refine Calls.mono (praise_at H7.out.1 k (HL.out.1.wk.ct _) (bt_wo (k := k) (s := hit s) HL.out.1.bt rfl HNH.out) HL.out.1.cl (by have := HM.out.1; have := HM.out.2.1; have := HM.out.2.2; exact ⟨by show s.pg.length + s.qu.length ≤ _; omega, by show s.gh.length ≤ _; omega⟩)) ?_
    rintro e w8 ⟨rfl, r8, A8, c8, h8, hb8⟩
    have H8 : Hid (WK lo w8 B (raise (hit s) k) r8 A8 c8 [] ∧ TF w lo w8) := Lib.hid ⟨h8, H7.out.2.keep hb8⟩
    have hrl := raise_len (s := hit s) (k := k) (by have := HM.out.1; have := HM.out.2.1; show s.pg.length + s.qu.length ≤ _; omega) (by have := HM.out.2.2; show s.gh.length ≤ _; omega)
    have HRL := Lib.hid hrl
    clear h8 hb8 H7 hrl
    go_wp2_with fail
    refine Calls.mono (pprune_at H8.out.1 ((HL.out.1.wk.ct _).raise (s := hit s) HL.out.1.bt HNH.out).1 (by have := HRL.out.1; omega) (by have := HRL.out.2; omega)) ?_
    rintro e w9 ⟨rfl, r9, A9, c9, h9, hb9⟩
    have H9 : Hid (WK lo w9 B (tTouch s k) r9 A9 c9 [] ∧ TF w lo w9) := Lib.hid ⟨by rw [HT.out]; exact h9, H8.out.2.keep hb9⟩
    clear h9 hb9 H8
    go_wp2_with (first | fail | refine ldW rfl (.tmp 62) rfl rfl H9.out.1 ?_ | refine st31 rfl (.tmp 4) (.tmp 63) rfl _ (tTouch s k) r9 rfl rfl _ H9.out.2.res ?_)
    refine bodyPost_ret (results_s2 rfl _ _ _ _ rfl (H9.out.2.res.rowSet (sA_len _ _))) rfl ?_
    exact H9.out.2.ret2 H9.out.1 r true
  · rw [h1]
    have HNH : Hid (∀ p ∈ s.pg, p.key = k → p.kind ≠ 1) := Lib.hid (not_hot_page HL.out.1.wk (by rw [h2]; decide))
    have HNG : Hid (k ∉ s.gh) := Lib.hid (not_gone HL.out.1.wk h2)
    have hrm : hroom (hit s) = decide (Rm s) := hroom_rm (s := hit s) HL.out.1.cl
    have C34 := hroom_at H6.out.1 (by have := HM.out.1; show s.pg.length ≤ _; omega)
    rw [hrm] at C34
    have HC34 := Lib.hid C34
    by_cases hr : Rm s
    · rw [decide_eq_true hr] at HC34
      have HT : Hid (tTouch s k = prune (raise (hit s) k)) := Lib.hid (by unfold tTouch; rw [if_neg (by rw [h2]; decide), if_pos (.inr hr)])
      clear h1 h2 h3 hrm C34 hr
      go_wp2_with fail
      refine HC34.out.mono ?_
      rintro e w7 ⟨rfl, hb7⟩
      have H7 : Hid (WK lo w7 B (hit s) r3 A3 c3 [] ∧ TF w lo w7) := Lib.hid ⟨H6.out.1.kept hb7, H6.out.2.keep (hb7.mono H6.out.1.low)⟩
      clear hb7 H6 HC34
      go_wp2_with fail
      refine Calls.mono (praise_at H7.out.1 k (HL.out.1.wk.ct _) (bt_wo (k := k) (s := hit s) HL.out.1.bt rfl HNH.out) HL.out.1.cl (by have := HM.out.1; have := HM.out.2.1; have := HM.out.2.2; exact ⟨by show s.pg.length + s.qu.length ≤ _; omega, by show s.gh.length ≤ _; omega⟩)) ?_
      rintro e w8 ⟨rfl, r8, A8, c8, h8, hb8⟩
      have H8 : Hid (WK lo w8 B (raise (hit s) k) r8 A8 c8 [] ∧ TF w lo w8) := Lib.hid ⟨h8, H7.out.2.keep hb8⟩
      have hrl := raise_len (s := hit s) (k := k) (by have := HM.out.1; have := HM.out.2.1; show s.pg.length + s.qu.length ≤ _; omega) (by have := HM.out.2.2; show s.gh.length ≤ _; omega)
      have HRL := Lib.hid hrl
      clear h8 hb8 H7 hrl
      go_wp2_with fail
      refine Calls.mono (pprune_at H8.out.1 ((HL.out.1.wk.ct _).raise (s := hit s) HL.out.1.bt HNH.out).1 (by have := HRL.out.1; omega) (by have := HRL.out.2; omega)) ?_
      rintro e w9 ⟨rfl, r9, A9, c9, h9, hb9⟩
      have H9 : Hid (WK lo w9 B (tTouch s k) r9 A9 c9 [] ∧ TF w lo w9) := Lib.hid ⟨by rw [HT.out]; exact h9, H8.out.2.keep hb9⟩
      clear h9 hb9 H8
      go_wp2_with (first | fail | refine ldW rfl (.tmp 62) rfl rfl H9.out.1 ?_ | refine st31 rfl (.tmp 4) (.tmp 63) rfl _ (tTouch s k) r9 rfl rfl _ H9.out.2.res ?_)
      refine bodyPost_ret (results_s2 rfl _ _ _ _ rfl (H9.out.2.res.rowSet (sA_len _ _))) rfl ?_
      exact H9.out.2.ret2 H9.out.1 r true
    · rw [decide_eq_false hr] at HC34
      have HT : Hid (tTouch s k = prune (cool (hit s) k)) := Lib.hid (by unfold tTouch; rw [if_neg (by rw [h2]; decide), if_neg (fun h => h.elim h3 hr)])
      clear h1 h2 h3 hrm C34 hr
      go_wp2_with fail
      refine HC34.out.mono ?_
      rintro e w7 ⟨rfl, hb7⟩
      have H7 : Hid (WK lo w7 B (hit s) r3 A3 c3 [] ∧ TF w lo w7) := Lib.hid ⟨H6.out.1.kept hb7, H6.out.2.keep (hb7.mono H6.out.1.low)⟩
      clear hb7 H6 HC34
      go_wp2_with fail
      refine Calls.mono (cold_at H7.out.1 k (by have := HM.out.1; show s.pg.length ≤ _; omega) (by have := HM.out.2.1; show s.qu.length ≤ _; omega)) ?_
      rintro e w8 ⟨rfl, r8, A8, c8, h8, hb8⟩
      have hce : cool (hit s) k = { hit s with pg := ⟨k, 2, false, false⟩ :: wo (hit s).pg k, qu := ls (hit s).qu k ++ [k] } := by
        unfold cool top gone
        have : ls (hit s).gh k = (hit s).gh := ls_none HNG.out
        rw [this]
      have H8 : Hid (WK lo w8 B (cool (hit s) k) r8 A8 c8 [] ∧ TF w lo w8) := Lib.hid ⟨by rw [hce]; exact h8, H7.out.2.keep hb8⟩
      clear h8 hb8 H7 hce
      go_wp2_with fail
      refine Calls.mono (pprune_at H8.out.1 ((HL.out.1.wk.ct _).cool (s := hit s) k) (by have := HM.out.1; have := wo_len s.pg k; show (_ :: wo s.pg k).length ≤ _; rw [List.length_cons]; omega) (by have := HM.out.2.2; have := ls_le s.gh k; show (ls s.gh k).length ≤ _; omega)) ?_
      rintro e w9 ⟨rfl, r9, A9, c9, h9, hb9⟩
      have H9 : Hid (WK lo w9 B (tTouch s k) r9 A9 c9 [] ∧ TF w lo w9) := Lib.hid ⟨by rw [HT.out]; exact h9, H8.out.2.keep hb9⟩
      clear h9 hb9 H8
      go_wp2_with (first | fail | refine ldW rfl (.tmp 62) rfl rfl H9.out.1 ?_ | refine st31 rfl (.tmp 4) (.tmp 63) rfl _ (tTouch s k) r9 rfl rfl _ H9.out.2.res ?_)
      refine bodyPost_ret (results_s2 rfl _ _ _ _ rfl (H9.out.2.res.rowSet (sA_len _ _))) rfl ?_
      exact H9.out.2.ret2 H9.out.1 r true
theorem ptouch_at (s : St) (r : R3) (k : Int) (h : Rg s) (hl : Lim s 10000) (hk : Kw s) (w : World) (hr : SR w s r) : Calls Try.prog 11 #[sV s r, .int .u64 k] w (S2Post w r (touch s k) (decide (Kpt s k))) := by
  by_cases hkp : Kpt s k
  · rw [decide_eq_true hkp]
    exact ptouch_yes s r k h hl hk w hr hkp
  · rw [decide_eq_false hkp, touch_no hkp]
    exact ptouch_no s r k h hl hk w hr hkp
end Go.Proofs.Ytifenpmkbnohhaa
