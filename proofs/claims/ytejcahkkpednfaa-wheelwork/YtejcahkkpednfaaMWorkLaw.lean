/-
  Law WheelWork: the walk.
-/
import Derived.Test.YtejcahkkpednfaaG29
namespace Go.Proofs.Ytejcahkkpednfaa
open Go.RowKit
open Go.Proofs.StackM (Pg Cf Ct St up many fnd fnd_at fnd_no)
open Go.Proofs.WheelM
set_option linter.unusedVariables false
abbrev ctA (t : Ct) : Array Value := #[.int .u64 t.hi, .int .u64 t.mi, .int .u64 t.ra, .int .u64 t.lo, .int .u64 t.pr, .int .u64 t.ev, .int .u64 t.fo, .int .u64 t.cl, .int .u64 t.en, .int .u64 t.st]
theorem info29 : (Try.prog.info? 29).map (·.size) = some 10 := by kernel_rfl
theorem ld29 {ops : Array Oper} {rest : List Oper} {o : Oper} {a : Act} {w : World} {Q : Exit → Act → World → Prop} (hgd : o.guard = none) (x : Operand) (ho : o.op = .load 29 x) (B : Nat) (hx : a.eval x = .pointer (some ⟨B, 10, none⟩)) (s : St) (r : R3) (h : Box w B (sA s r)) (t : Ct) (he : s.ct = t)
    (hK : wpList Try.prog ops Q rest (a.put o.dst (.agg (ctA t))) w) : wpList Try.prog ops Q (o :: rest) a w := by
  subst he
  exact wpList_load_mid hgd 29 x ho B 10 hx (ctA s.ct).toList _ (fun j v hv => by
    have hj : j < 10 := by have := (List.getElem?_eq_some_iff.1 hv).1; simpa using this
    rw [cell_of_row (w := w) B (10 + j) _ 31 (0, 0) h.1, ← hv]
    rcases j with _ | _ | _ | _ | _ | _ | _ | _ | _ | _ | j
    · rfl
    · rfl
    · rfl
    · rfl
    · rfl
    · rfl
    · rfl
    · rfl
    · rfl
    · rfl
    · omega) Try.underlying29 rfl (by rw [info29]; rfl) hK
theorem st29n {ops : Array Oper} {rest : List Oper} {o : Oper} {a : Act} {w : World} {Q : Exit → Act → World → Prop} (hgd : o.guard = none) (x y : Operand) (ho : o.op = .store 29 x y) (t : Ct) (hx : a.eval x = .pointer (some ⟨w.heap.size, 0, none⟩)) (hy : a.eval y = .agg (ctA t)) (old : Array Value) (hold : old.size = 10)
    (hK : wpList Try.prog ops Q rest a (w.alloc (.cells (ctA t) 29))) (hd : o.dst = none := by rfl) : wpList Try.prog ops Q (o :: rest) a (w.alloc (.cells old 29)) :=
  wpList_store_row hgd 29 x y ho w.heap.size (ctA t) hx hy 29 old (by show (w.heap.push _)[w.heap.size]? = _; simp) info29 (by rw [hold]; rfl) (by simp [Value.oneCell']) (by rw [World.setRow_alloc_new, hd]; exact hK)
theorem resizeW_cf {s : St} (h : Wg s) (c : Cf) (hc : Clk c) : (resizeW s c).cf = c := by
  have hw0 : Ww (reS s c) := ⟨hc, by show 1 ≤ c.q ∧ c.q ≤ c.c - 1; have := hc.2.2.1; omega, h.w.nk, h.w.pk, h.w.qu, h.w.gh, h.w.hc, h.w.ht⟩
  have hL := cool_le hw0
  have hcf : (cool (reS s c)).cf = c := hL.cf
  have hs := spill_sp (most := c.c) (cool_ww hw0) (cool_rm hw0) (by rw [hcf]; omega)
  obtain ⟨he, hw, hg⟩ := expire_ex hs.w hs.r
  exact he.cf.trans (hs.cf.trans hcf)
theorem dropW_cf (s : St) (k : Int) : (dropW s k).cf = s.cf := by unfold dropW; split <;> rfl
theorem touchW_cf (s : St) (k : Int) : (touchW s k).cf = s.cf := by
  unfold touchW
  split
  · split
    · split <;> rfl
    · rfl
  · rfl
theorem admitW_cf {s : St} (h : Wg s) (k : Int) : (admitW s k).cf = s.cf := by
  by_cases hk : KptW s k
  · unfold admitW; rw [if_pos hk]
  · obtain ⟨a1, a2, a3, a4, _⟩ := admC_ok h hk
    unfold admitW
    rw [if_neg hk]
    split
    · have hwh : Ww (head (admC s k) ⟨k, 1, false, false⟩) := a1.head (head_nd a1 a4) (.inl ⟨rfl, rfl⟩)
      have hwr : Ww (head (raW (admC s k)) ⟨k, 1, false, false⟩) := hwh.setc (raW (admC s k)).ct
      exact (cool_le hwr).cf.trans a3
    · exact a3
theorem cost_stp {R R' m : Int} {s : St} (h : Cw R m s) (hr : Rg s) (hm : m + 1 ≤ 1000) (hR : s.cf.c + s.cf.g ≤ R) (a : Ac) (hR' : R ≤ R') (hR1 : R' ≤ 1000) (ha : a.kd = 5 → Cl a.cf → a.cf.c + a.cf.g ≤ R') : Cw R' (m + 1) (stp s a) ∧ (stp s a).cf.c + (stp s a).cf.g ≤ R' := by
  have h' : Cw R' m s := h.mono hR' (Int.le_refl _) hR1 (by omega)
  unfold stp
  split
  · rename_i h5
    split
    · rename_i hc
      exact ⟨cost_resizeW hr h' hm a.cf hc (ha h5 hc), by rw [resizeW_cf hr a.cf hc]; exact ha h5 hc⟩
    · exact ⟨h'.mono (Int.le_refl _) (by omega) hR1 hm, by omega⟩
  · split
    · exact ⟨cost_dropW h' hm a.ky, by rw [dropW_cf]; omega⟩
    · split
      · exact ⟨cost_touchW hr h' hm a.ky, by rw [touchW_cf]; omega⟩
      · exact ⟨cost_admitW hr h' hm a.ky (by omega), by rw [admitW_cf hr]; omega⟩
set_option maxHeartbeats 16000000 in
set_option maxRecDepth 100000 in
theorem wheelWork_law (c : Cf) (A : Option Addr) (cap : Nat) (l : List Ac) (w : World) (ha : ActsAt w A cap l) : Calls Try.prog 7 #[cV c, .slice A l.length cap] w fun e w' => e = .returned (.bool true) ∧ Below w.heap.size w w' := by
  obtain ⟨n, hn⟩ : ∃ n, n = l.length := ⟨_, rfl⟩
  rw [← hn]
  obtain ⟨w1, hw1⟩ : ∃ w1, w1 = w.alloc (.cells (cA c) 24) := ⟨_, rfl⟩
  obtain ⟨b, hbe⟩ : ∃ b, b = w.heap.size := ⟨_, rfl⟩
  have H1 : Hid (CB w1 b c ∧ Below w.heap.size w w1) := Lib.hid ⟨by rw [hw1, hbe]; exact heap_alloc_new w (.cells (cA c) 24), by rw [hw1]; exact alloc_below _ _⟩
  have HW := Lib.hid (And.intro hw1 hbe)
  have HA := Lib.hid ha
  have HN := Lib.hid hn
  have E9 : Hid (∀ V, Below w.heap.size w V → Calls Try.prog 9 #[] V fun e w' => e = .returned (.bool true) ∧ Below w.heap.size w w') := Lib.hid (fun V hV => (alive_at V).mono fun e w' ⟨h1, h2⟩ => ⟨h1, hV.trans (h2.mono hV.size)⟩)
  clear hw1 hbe ha hn
  go_enter Try.func7, Try.ntmps7
  by_cases h150 : 150 < n
  case pos =>
    go_wp2_with (first | fail | rw [← HW.out.1, ← HW.out.2])
    refine (E9.out w1 H1.out.2).mono ?_
    rintro e w3 ⟨rfl, hb3⟩
    go_wp2_with fail
    go_ret
    exact ⟨rfl, hb3⟩
  case neg =>
    have hd : decide ((150 : Int) < (n : Int)) = false := decide_eq_false (by omega)
    have i0 : w1.cell? ⟨b, 0, none⟩ = some (.int .i64 c.p) := by rw [cell_of_head H1.out.1]; rfl
    have i1 : w1.cell? ⟨b, 1, none⟩ = some (.int .i64 c.c) := by rw [cell_of_head H1.out.1]; rfl
    have i2 : w1.cell? ⟨b, 2, none⟩ = some (.int .i64 c.q) := by rw [cell_of_head H1.out.1]; rfl
    have i3 : w1.cell? ⟨b, 3, none⟩ = some (.int .i64 c.g) := by rw [cell_of_head H1.out.1]; rfl
    go_wp2_with (first | fail | rw [← HW.out.1, ← HW.out.2])
    clear i0 i1 i2 i3
    by_cases hc : Cl c
    case neg =>
      refine Calls.mono (lawMay_cl c false ⟨(fun h => nomatch h), fun h => (hc h).elim⟩ w1) ?_
      rintro e w2 ⟨rfl, hb2⟩
      have hb := H1.out.2.trans (hb2.mono H1.out.2.size)
      clear hb2 hd
      go_wp2_with fail
      refine (E9.out w2 hb).mono ?_
      rintro e w3 ⟨rfl, hb3⟩
      go_wp2_with fail
      go_ret
      exact ⟨rfl, hb3⟩
    case pos =>
      refine Calls.mono (lawMay_cl c true ⟨fun _ => hc, fun _ => rfl⟩ w1) ?_
      rintro e w2 ⟨rfl, hb2⟩
      have H2 : Hid (CB w2 b c ∧ Below w.heap.size w w2) := Lib.hid ⟨H1.out.1.kept hb2 H1.out.1.lt, H1.out.2.trans (hb2.mono H1.out.2.size)⟩
      have HC := Lib.hid hc
      clear hb2 hd H1 HW hc
      go_wp2_with (first | fail | refine CB.load rfl (.tmp 2) rfl _ rfl c H2.out.1 ?_)
      have C19 := pnew_at c w2
      simp only [if_pos HC.out] at C19
      refine Calls.mono C19 ?_
      rintro e w3 ⟨⟨r3, rfl, hr3, hf3⟩, hb3⟩
      obtain ⟨w4, hw4⟩ : ∃ w4, w4 = w3.alloc (.cells (sA (newW c) r3) 31) := ⟨_, rfl⟩
      obtain ⟨b5, hb5⟩ : ∃ b, b = w3.heap.size := ⟨_, rfl⟩
      have hb34 : Below w3.heap.size w3 w4 := by rw [hw4]; exact alloc_below _ _
      have hb23 := H2.out.2.trans (hb3.mono H2.out.2.size)
      have H4 : Hid (CB w4 b c ∧ BS w w4 b5 (newW c) r3) := Lib.hid ⟨(H2.out.1.kept hb3 H2.out.1.lt).kept hb34 (Nat.lt_of_lt_of_le H2.out.1.lt hb3.size), by rw [hw4, hb5]; exact BS.new hr3 hb23⟩
      have HW4 := Lib.hid (And.intro hw4 hb5)
      clear hw4 hb5 hb34 hb23 hb3 hf3 hr3 H2 C19
      go_wp2_with (first | fail | (refine st31n rfl (.tmp 5) (.tmp 29) rfl (newW c) r3 rfl rfl _ rfl ?_; rw [← HW4.out.1, ← HW4.out.2]) | refine CB.load rfl (.tmp 2) rfl _ rfl c H4.out.1 ?_)
      refine Calls.mono (new_at0 c w4) ?_
      rintro e w6 ⟨rfl, hb6⟩
      obtain ⟨w7, hw7⟩ : ∃ w7, w7 = w6.alloc (.cells (sA (newW c) R0) 31) := ⟨_, rfl⟩
      obtain ⟨b7, hb7⟩ : ∃ b, b = w6.heap.size := ⟨_, rfl⟩
      have hb67 : Below w6.heap.size w6 w7 := by rw [hw7]; exact alloc_below _ _
      have HCB : Hid (CB w7 b c) := Lib.hid ((H4.out.1.kept hb6 H4.out.1.lt).kept hb67 (Nat.lt_of_lt_of_le H4.out.1.lt hb6.size))
      have H7 : Hid (D2 w w7 b5 b7 (newW c) r3 R0) := Lib.hid (by
        have k6 := H4.out.2.keep hb6
        have hlt := k6.box.lt
        rw [hw7, hb7]
        exact ⟨k6.keep (alloc_below _ _), BS.new (by have := sr_zero w6; exact ⟨this.pg, this.qu, this.gh⟩) k6.bel, ⟨fun a e => (by cases e), fun a e => (by cases e), fun a e => (by cases e)⟩, k6.rows.old.ap (Nat.le_refl _), by omega, new_rg HC.out, kw_new c⟩)
      have HW7 := Lib.hid (And.intro hw7 hb7)
      clear hw7 hb7 hb67 hb6 H4 HW4
      go_wp2_with (first | fail | (refine st31n rfl (.tmp 7) (.tmp 32) rfl (newW c) R0 rfl rfl _ rfl ?_; rw [← HW7.out.1, ← HW7.out.2]) | refine ld31g rfl (.tmp 5) rfl _ rfl _ H7.out.one.box ?_ | refine ld31g rfl (.tmp 7) rfl _ rfl _ H7.out.two.box ?_)
      refine Calls.mono (state_same (newW c) r3 R0 (lim_new c) w7 H7.out.one.rows H7.out.two.rows) ?_
      rintro e w8 ⟨rfl, hb8⟩
      have H8 : Hid (D2 w w8 b5 b7 (newW c) r3 R0) := Lib.hid (H7.out.keep hb8)
      have hcb8 : CB w8 b c := HCB.out.kept hb8 HCB.out.lt
      have i1 : w8.cell? ⟨b, 1, none⟩ = some (.int .i64 c.c) := by rw [cell_of_head hcb8]; rfl
      have i3 : w8.cell? ⟨b, 3, none⟩ = some (.int .i64 c.g) := by rw [cell_of_head hcb8]; rfl
      obtain ⟨cc0, hcc0⟩ : ∃ z, z = c.c := ⟨_, rfl⟩
      obtain ⟨cg0, hcg0⟩ : ∃ z, z = c.g := ⟨_, rfl⟩
      rw [← hcc0] at i1
      rw [← hcg0] at i3
      have hc1 : 2 ≤ cc0 ∧ cc0 ≤ 256 := by rw [hcc0]; exact HC.out.2.1
      have hg1 : 0 ≤ cg0 ∧ cg0 ≤ 512 := by rw [hcg0]; exact HC.out.2.2.2
      obtain ⟨hc1a, hc1b⟩ := hc1
      obtain ⟨hg1a, hg1b⟩ := hg1
      have HCG : Hid (Cw (cc0 + cg0) 0 (newW c) ∧ (newW c).cf.c + (newW c).cf.g ≤ cc0 + cg0 ∧ 0 ≤ cc0 + cg0 ∧ cc0 + cg0 ≤ 768) := Lib.hid ⟨cost_new (by omega) (by omega) c, by rw [hcc0, hcg0]; exact Int.le_refl _, by omega, by omega⟩
      clear hb8 H7 HW7 hcb8 HCB hcc0 hcg0
      go_wp2_with fail
      clear i1 i3
      go_loopw [8, 48] (fun rg i wr => ∃ (m : Nat) (s : St) (r1 r2 : R3) (R : Int), m ≤ n ∧ rg = .int .i64 R ∧ i = .int .i64 (m : Int) ∧ Hid (D2 w wr b5 b7 s r1 r2 ∧ Cw R (m : Int) s ∧ s.cf.c + s.cf.g ≤ R ∧ 0 ≤ R ∧ R ≤ 768)) (fun _ i _ => n - (intOf i).toNat)
      case atStart => exact ⟨0, newW c, r3, R0, cc0 + cg0, by omega, by go_num, by go_num, Lib.hid ⟨H8.out, HCG.out⟩⟩
      case round =>
        clear H8 HCG hc1a hc1b hg1a hg1b
        obtain ⟨m, s, r1, r2, R, hm, rfl, rfl, HX⟩ := hrel
        by_cases hlt : m < n
        case neg =>
          go_wp2_with fail
          refine (E9.out _ HX.out.1.one.bel).mono ?_
          rintro e w4 ⟨rfl, hb4⟩
          go_wp2_with fail
          go_ret
          exact ⟨rfl, hb4⟩
        case pos =>
          have hml : m < l.length := by have := HN.out; omega
          obtain ⟨ab, off, rfl, c0, c1, c2, c3, c4, c5⟩ := acts_get HA.out HX.out.1.one.bel hml
          obtain ⟨a, hae⟩ : ∃ a, a = l[m] := ⟨_, rfl⟩
          have HKY : Hid (K64 a.ky) := Lib.hid (by rw [hae]; exact HA.out.1 _ (List.getElem_mem hml))
          rw [← hae] at c0 c1 c2 c3 c4 c5
          clear hae
          obtain ⟨kd, ky, ⟨p, cc, q, gg⟩⟩ := a
          dsimp only at c0 c1 c2 c3 c4 c5 HKY
          have b2 := alloc_below wr (.cells (acL kd ky p cc q gg) 45)
          have hg := heap_alloc_new wr (.cells (acL kd ky p cc q gg) 45)
          obtain ⟨w2', hw2⟩ : ∃ w2, w2 = wr.alloc (.cells (acL kd ky p cc q gg) 45) := ⟨_, rfl⟩
          obtain ⟨g, hge⟩ : ∃ g, g = wr.heap.size := ⟨_, rfl⟩
          rw [← hw2, ← hge] at hg
          rw [← hw2] at b2
          have H5 := Lib.hid (And.intro (HX.out.1.keep b2) HX.out.2)
          have HW := Lib.hid (And.intro hw2 hge)
          have i0 : w2'.cell? ⟨g, 0, none⟩ = some (.int .i64 kd) := by rw [cell_of_head hg]; rfl
          have i1 : w2'.cell? ⟨g, 1, none⟩ = some (.int .u64 ky) := by rw [cell_of_head hg]; rfl
          have i2 : w2'.cell? ⟨g, 2, none⟩ = some (.int .i64 p) := by rw [cell_of_head hg]; rfl
          have i3 : w2'.cell? ⟨g, 3, none⟩ = some (.int .i64 cc) := by rw [cell_of_head hg]; rfl
          have i4 : w2'.cell? ⟨g, 4, none⟩ = some (.int .i64 q) := by rw [cell_of_head hg]; rfl
          have i5 : w2'.cell? ⟨g, 5, none⟩ = some (.int .i64 gg) := by rw [cell_of_head hg]; rfl
          clear b2 hw2 hge HX
          have HGG := Lib.hid hg
          clear hg
          by_cases h5 : kd = 5
          case neg =>
            have h5' : (kd == 5) = false := by simpa using h5
            go_wp2_with (first | fail | (refine st45n rfl (.tmp 10) (.tmp 51) rfl _ _ _ _ _ _ rfl rfl _ rfl ?_; rw [← HW.out.1, ← HW.out.2]) | refine ld31 rfl (.tmp 5) rfl _ rfl _ H5.out.1.one.box ?_ | refine ld31 rfl (.tmp 7) rfl _ rfl _ H5.out.1.two.box ?_)
            refine (step_at s r1 r2 kd ky p cc q gg H5.out.1.rg H5.out.1.kw w2' H5.out.1.one.rows H5.out.1.two.rows).mono ?_
            rintro e w3 ⟨q1, q2, rfl, hq1, hq2, f1, f2, hb3⟩
            have hct := cost_stp H5.out.2.1 H5.out.1.rg (by omega) H5.out.2.2.1 ⟨kd, ky, ⟨p, cc, q, gg⟩⟩ (Int.le_refl _) (by have := H5.out.2.2.2.2; omega) (fun h => absurd h h5)
            have hyr := stp_rg H5.out.1.rg ⟨kd, ky, ⟨p, cc, q, gg⟩⟩
            have hyk := stp_kw H5.out.1.rg H5.out.1.kw ⟨kd, ky, ⟨p, cc, q, gg⟩⟩ HKY.out
            obtain ⟨y, hy⟩ : ∃ y, y = stp s ⟨kd, ky, ⟨p, cc, q, gg⟩⟩ := ⟨_, rfl⟩
            rw [← hy] at hq1 hq2 hct hyr hyk
            rw [← hy]
            obtain ⟨wz, hwz⟩ : ∃ wz, wz = (w3.alloc (.cells (sA S0 R0) 31)).alloc (.cells (sA S0 R0) 31) := ⟨_, rfl⟩
            obtain ⟨b10, hb10⟩ : ∃ b, b = w3.heap.size := ⟨_, rfl⟩
            obtain ⟨b11, hb11⟩ : ∃ b, b = w3.heap.size + 1 := ⟨_, rfl⟩
            have ka := alloc_below w3 (.cells (sA S0 R0) 31)
            have kb := alloc_below (w3.alloc (.cells (sA S0 R0) 31)) (.cells (sA S0 R0) 31)
            have hb3z : Below w3.heap.size w3 wz := by rw [hwz]; exact ka.trans (kb.mono ka.size)
            have z10 : Box wz b10 (sA S0 R0) := by rw [hwz, hb10]; exact (box_alloc w3 _ (sA_len _ _)).kept kb (by simp)
            have z11 : Box wz b11 (sA S0 R0) := by rw [hwz, hb11]; have := box_alloc (w3.alloc (.cells (sA S0 R0) 31)) (sA S0 R0) (sA_len _ _); simpa using this
            have hZ : (w3.alloc (.cells #[.int .i64 0, .int .i64 0, .int .i64 0, .int .i64 0, .int .i64 0, .slice none 0 0, .slice none 0 0, .slice none 0 0, .int .i64 0, .int .i64 0, .int .u64 0, .int .u64 0, .int .u64 0, .int .u64 0, .int .u64 0, .int .u64 0, .int .u64 0, .int .u64 0, .int .u64 0, .int .u64 0] 31)).alloc (.cells #[.int .i64 0, .int .i64 0, .int .i64 0, .int .i64 0, .int .i64 0, .slice none 0 0, .slice none 0 0, .slice none 0 0, .int .i64 0, .int .i64 0, .int .u64 0, .int .u64 0, .int .u64 0, .int .u64 0, .int .u64 0, .int .u64 0, .int .u64 0, .int .u64 0, .int .u64 0, .int .u64 0] 31) = wz := hwz.symm
            obtain ⟨w4, hw4⟩ : ∃ w4, w4 = (wz.setRow b10 (sA y q1)).setRow b11 (sA y q2) := ⟨_, rfl⟩
            have hne : b10 ≠ b11 := by omega
            have hlo : w2'.heap.size ≤ b10 ∧ w2'.heap.size ≤ b11 := by have := hb3.size; omega
            have a10 : Ap b10 q1 ∧ Ap b10 q2 ∧ Ap b11 q1 ∧ Ap b11 q2 := ⟨hq1.old.ap (by omega), hq2.old.ap (by omega), hq1.old.ap (by omega), hq2.old.ap (by omega)⟩
            have hb2z := hb3.trans (hb3z.mono hb3.size)
            have H6 : Hid (Below w2'.heap.size w2' w4 ∧ Box w4 b10 (sA y q1) ∧ Box w4 b11 (sA y q2) ∧ SR w4 y q1 ∧ SR w4 y q2) := Lib.hid (by
              rw [hw4]
              exact ⟨below_setRow (below_setRow hb2z hlo.1) hlo.2, (z10.rowSet (sA_len _ _)).other (Ne.symm hne) _, (z11.other hne _).rowSet (sA_len _ _), ((hq1.kept hb3z).apRow a10.1).apRow a10.2.2.1, ((hq2.kept hb3z).apRow a10.2.1).apRow a10.2.2.2⟩)
            have HZ := Lib.hid hZ
            have HZB := Lib.hid (And.intro z10 (z11.other hne (sA y q1)))
            have HW4 := Lib.hid hw4
            have HF := Lib.hid (And.intro f1 (And.intro f2 (And.intro hlo (And.intro hyr (And.intro hyk hct)))))
            have e10 : (.pointer (some ⟨w3.heap.size, 0, none⟩) : Value) = .pointer (some ⟨b10, 0, none⟩) := by rw [hb10]
            have e11 : (.pointer (some ⟨w3.heap.size + 1, 0, none⟩) : Value) = .pointer (some ⟨b11, 0, none⟩) := by rw [hb11]
            have HE := Lib.hid (And.intro e10 e11)
            clear hwz hb10 hb11 ka kb hb3z z10 z11 hZ hw4 hne hlo a10 hb2z hq1 hq2 f1 f2 hb3 hct hyr hyk hy c0 c1 c2 c3 c4 c5 i0 i1 i2 i3 i4 i5 HW HKY e10 e11
            go_wp2_with (first | fail | (rw [HZ.out, HE.out.1, HE.out.2]; refine st31 rfl (.tmp 11) (.tmp 74) rfl _ y q1 rfl rfl _ HZB.out.1 ?_) | (refine st31 rfl (.tmp 12) (.tmp 75) rfl _ y q2 rfl rfl _ HZB.out.2 ?_; rw [← HW4.out]))
            clear HZ HZB HW4 HE
            have hbd : Below w4.heap.size w4 w4.drew := below_drew (Below.refl _ _) 1
            have HD : Hid (Below w2'.heap.size w2' w4.drew ∧ Box w4.drew b10 (sA y q1) ∧ Box w4.drew b11 (sA y q2) ∧ SR w4.drew y q1 ∧ SR w4.drew y q2 ∧ Box w4.drew b5 (sA s r1) ∧ Box w4.drew b7 (sA s r2)) := Lib.hid (by
              have h0 := H6.out.1.trans (hbd.mono H6.out.1.size)
              exact ⟨h0, H6.out.2.1.kept hbd H6.out.2.1.lt, H6.out.2.2.1.kept hbd H6.out.2.2.1.lt, H6.out.2.2.2.1.kept hbd, H6.out.2.2.2.2.kept hbd, H5.out.1.one.box.kept h0 H5.out.1.one.box.lt, H5.out.1.two.box.kept h0 H5.out.1.two.box.lt⟩)
            have hn4 : b10 ≠ b5 ∧ b10 ≠ b7 ∧ b11 ≠ b5 ∧ b11 ≠ b7 := by
              have h1 := H5.out.1.one.box.lt
              have h2 := H5.out.1.two.box.lt
              have h3 := HF.out.2.2.1
              omega
            have HN4 := Lib.hid hn4
            clear hbd H6 hn4
            refine wp_region_held_drew (S := fun V => Box V b10 (sA y q1) ∧ Box V b11 (sA y q2)) (by kernel_rfl) ⟨HD.out.2.1, HD.out.2.2.1⟩ (fun hHeld => ?_)
            generalize World.drew w4 = wd at hHeld HD ⊢
            refine wpAnyH_take (i := 0) (v := ?tval5101) (by simp only [get_laws]; rfl) (by kernel_rfl) (by kernel_rfl) (by kernel_rfl) (by intro _ _ _ h; exact h) (Or.inl ⟨by rfl, ?teq5101⟩) (by assumption) ?trest5101
            case teq5101 => (intro w0 q; refine exec31 (.tmp 11) ?_ ?_ q.1 <;> rfl)
            try simp only [put_laws]
            refine wpAnyH_take (i := 1) (v := ?tval5102) (by simp only [get_laws]; rfl) (by kernel_rfl) (by kernel_rfl) (by kernel_rfl) (by intro _ _ _ h; exact h) (Or.inl ⟨by rfl, ?teq5102⟩) (by assumption) ?trest5102
            case teq5102 => (intro w0 q; refine exec31 (.tmp 12) ?_ ?_ q.2 <;> rfl)
            try simp only [put_laws]
            refine wpAnyH_ready (rs := [2]) (by kernel_rfl) (by simp) ?_
            refine AllReadyH.cons rfl (fun K hK => ?_) AllReadyH.nil
            refine step31 rfl (.tmp 5) (.tmp 79) rfl _ y q1 rfl rfl _ HD.out.2.2.2.2.2.1 ?_
            refine hK.out _ _ ⟨HD.out.2.1.other (Ne.symm HN4.out.1) _, HD.out.2.2.1.other (Ne.symm HN4.out.2.2.1) _⟩ (fun hHeld => ?_)
            clear hK K
            try simp only [put_laws]
            refine wpAnyH_ready (rs := [3]) (by kernel_rfl) (by simp) ?_
            refine AllReadyH.cons rfl (fun K hK => ?_) AllReadyH.nil
            refine step31 rfl (.tmp 7) (.tmp 80) rfl _ y q2 rfl rfl _ (HD.out.2.2.2.2.2.2.other H5.out.1.ne _) ?_
            refine hK.out _ _ ⟨(HD.out.2.1.other (Ne.symm HN4.out.1) _).other (Ne.symm HN4.out.2.1) _, (HD.out.2.2.1.other (Ne.symm HN4.out.2.2.1) _).other (Ne.symm HN4.out.2.2.2) _⟩ (fun hHeld => ?_)
            clear hK K
            try simp only [put_laws]
            refine wpAnyH_done (by kernel_rfl) ?_ _
            obtain ⟨w9, hw9⟩ : ∃ w9, w9 = (wd.setRow b5 (sA y q1)).setRow b7 (sA y q2) := ⟨_, rfl⟩
            have H9 : Hid (D2 w w9 b5 b7 y q1 q2 ∧ Cw R ((m : Int) + 1) y ∧ y.cf.c + y.cf.g ≤ R) := Lib.hid (by
              rw [hw9]
              exact ⟨ H5.out.1.put HD.out.1 HD.out.2.2.2.1 HD.out.2.2.2.2.1 HF.out.1 HF.out.2.1 HF.out.2.2.2.1 HF.out.2.2.2.2.1, HF.out.2.2.2.2.2⟩)
            have HW9 := Lib.hid hw9
            rw [← HW9.out]
            have HRR := Lib.hid H5.out.2.2.2
            clear hHeld hw9 HD HF H5 HN4 HW9
            obtain ⟨ct, hct⟩ : ∃ t, t = y.ct := ⟨_, rfl⟩
            have HCT := Lib.hid hct.symm
            have hsay := cw_says H9.out.2.1
            have hzz := H9.out.2.1.co.z
            unfold dn at hsay
            rw [← hct] at hsay hzz
            clear hct
            obtain ⟨hi, mi, ra, lo, pr, ev, fo, cl, en, st⟩ := ct
            dsimp only at hsay hzz
            obtain ⟨y1, y2, y3, y4, y5, y6, y7, y8, y9⟩ := hsay
            obtain ⟨z1, z2, z3, z4, z5, z6, z7, z8, z9⟩ := hzz
            have HCO := Lib.hid H9.out.2
            have HRB : Hid (0 ≤ R ∧ R ≤ 768) := Lib.hid (by exact HRR.out)
            have hm150 : hi + mi ≤ 150 := by omega
            have hmn : hi + mi ≤ (n : Int) := by omega
            obtain ⟨R2, hR2⟩ : ∃ z, z = R := ⟨_, rfl⟩
            have HR2 := Lib.hid hR2
            have hRb : 0 ≤ R2 ∧ R2 ≤ 768 := by rw [hR2]; exact HRB.out
            rw [← hR2] at y8
            rw [← hR2]
            clear hR2
            obtain ⟨hRa, hRc⟩ := hRb
            have hd1 : 0 ≤ cl + lo + en + fo + ev := by omega
            have hd2 : cl + lo + en + fo + ev ≤ 600 := by omega
            have hp1 : 0 ≤ (cl + lo + en + fo + ev) * R2 := Int.mul_nonneg hd1 hRa
            have hp2 : (cl + lo + en + fo + ev) * R2 ≤ 600 * 768 := Int.mul_le_mul hd2 hRc hRa (by decide)
            have hwp : IntKind.u64.wrap ((cl + lo + en + fo + ev) * R2) = (cl + lo + en + fo + ev) * R2 := IntWalk.u64_in _ (by omega)
            have hst1 : st ≤ 460800 := by omega
            have g0 : decide (hi < cl) = false := decide_eq_false (by omega)
            have g1 : decide (mi < ev) = false := decide_eq_false (by omega)
            have g2 : decide (hi + mi < ra) = false := decide_eq_false (by omega)
            have g3 : decide (ra < lo) = false := decide_eq_false (by omega)
            have g5 : decide (ev < fo) = false := decide_eq_false (by omega)
            have g6 : decide (hi + mi < en) = false := decide_eq_false (by omega)
            have g7 : decide (4 * (hi + mi) < cl + lo + en + fo + ev) = false := decide_eq_false (by omega)
            have g8 : decide ((cl + lo + en + fo + ev) * R2 < st) = false := decide_eq_false (by omega)
            have g9 : decide ((n : Int) < hi + mi) = false := decide_eq_false (by omega)
            clear hp1 hp2 y7 y8 y9
            obtain ⟨w13, hw13⟩ : ∃ w, w = w9.alloc (.cells (ctA ⟨hi, mi, ra, lo, pr, ev, fo, cl, en, st⟩) 29) := ⟨_, rfl⟩
            obtain ⟨g13, hg13⟩ : ∃ b, b = w9.heap.size := ⟨_, rfl⟩
            have hgg := heap_alloc_new w9 (.cells (ctA ⟨hi, mi, ra, lo, pr, ev, fo, cl, en, st⟩) 29)
            rw [← hw13, ← hg13] at hgg
            have hb9 : Below w9.heap.size w9 w13 := by rw [hw13]; exact alloc_below _ _
            have H13 : Hid (D2 w w13 b5 b7 y q1 q2) := Lib.hid (H9.out.1.keep hb9)
            have j0 : w13.cell? ⟨g13, 0, none⟩ = some (.int .u64 hi) := by rw [cell_of_head hgg]; rfl
            have j1 : w13.cell? ⟨g13, 1, none⟩ = some (.int .u64 mi) := by rw [cell_of_head hgg]; rfl
            have j2 : w13.cell? ⟨g13, 2, none⟩ = some (.int .u64 ra) := by rw [cell_of_head hgg]; rfl
            have j3 : w13.cell? ⟨g13, 3, none⟩ = some (.int .u64 lo) := by rw [cell_of_head hgg]; rfl
            have j4 : w13.cell? ⟨g13, 4, none⟩ = some (.int .u64 pr) := by rw [cell_of_head hgg]; rfl
            have j5 : w13.cell? ⟨g13, 5, none⟩ = some (.int .u64 ev) := by rw [cell_of_head hgg]; rfl
            have j7 : w13.cell? ⟨g13, 7, none⟩ = some (.int .u64 cl) := by rw [cell_of_head hgg]; rfl
            have j8 : w13.cell? ⟨g13, 8, none⟩ = some (.int .u64 en) := by rw [cell_of_head hgg]; rfl
            have j9 : w13.cell? ⟨g13, 9, none⟩ = some (.int .u64 st) := by rw [cell_of_head hgg]; rfl
            have j6 : w13.cell? ⟨g13, 6, none⟩ = some (.int .u64 fo) := by rw [cell_of_head hgg]; rfl
            have HW13 := Lib.hid (And.intro hw13 hg13)
            clear hw13 hg13 hgg hb9
            go_wp2_with (first | fail | refine ld29 rfl (.tmp 81) rfl b5 rfl y q1 H9.out.1.one.box ⟨hi, mi, ra, lo, pr, ev, fo, cl, en, st⟩ HCT.out ?_ | (refine st29n rfl (.tmp 14) (.tmp 82) rfl ⟨hi, mi, ra, lo, pr, ev, fo, cl, en, st⟩ rfl rfl _ rfl ?_; rw [← HW13.out.1, ← HW13.out.2]))
            go_round
            case rel => exact ⟨m + 1, y, q1, q2, R2, by omega, by go_num, by go_num, Lib.hid ⟨H13.out, by rw [HR2.out]; exact HCO.out.1, by rw [HR2.out]; exact HCO.out.2, hRa, hRc⟩⟩
            case measure => simp only [intOf]; omega
          case pos =>
            subst h5
            go_wp2_with (first | fail | (refine st45n rfl (.tmp 10) (.tmp 51) rfl _ _ _ _ _ _ rfl rfl _ rfl ?_; rw [← HW.out.1, ← HW.out.2]))
            by_cases hcl : Cl ⟨p, cc, q, gg⟩
            case neg =>
              refine Calls.mono (lawMay_cl ⟨p, cc, q, gg⟩ false ⟨(fun h => nomatch h), fun h => (hcl h).elim⟩ w2') ?_
              rintro e w20 ⟨rfl, hb20⟩
              have H5' := Lib.hid (And.intro (H5.out.1.keep hb20) H5.out.2)
              have j0' : w20.cell? ⟨g, 0, none⟩ = some (.int .i64 5) := by rw [cell_of_head ((hb20.block g (Array.getElem?_eq_some_iff.1 HGG.out).1).trans HGG.out)]; rfl
              have j1' : w20.cell? ⟨g, 1, none⟩ = some (.int .u64 ky) := by rw [cell_of_head ((hb20.block g (Array.getElem?_eq_some_iff.1 HGG.out).1).trans HGG.out)]; rfl
              have j2' : w20.cell? ⟨g, 2, none⟩ = some (.int .i64 p) := by rw [cell_of_head ((hb20.block g (Array.getElem?_eq_some_iff.1 HGG.out).1).trans HGG.out)]; rfl
              have j3' : w20.cell? ⟨g, 3, none⟩ = some (.int .i64 cc) := by rw [cell_of_head ((hb20.block g (Array.getElem?_eq_some_iff.1 HGG.out).1).trans HGG.out)]; rfl
              have j4' : w20.cell? ⟨g, 4, none⟩ = some (.int .i64 q) := by rw [cell_of_head ((hb20.block g (Array.getElem?_eq_some_iff.1 HGG.out).1).trans HGG.out)]; rfl
              have j5' : w20.cell? ⟨g, 5, none⟩ = some (.int .i64 gg) := by rw [cell_of_head ((hb20.block g (Array.getElem?_eq_some_iff.1 HGG.out).1).trans HGG.out)]; rfl
              have HB20 := Lib.hid hb20
              clear hb20 i0 i1 i2 i3 i4 i5 H5
              obtain ⟨w2', hw2'⟩ : ∃ z, z = w20 := ⟨_, rfl⟩
              subst hw2'
              have H5 := H5'
              clear H5'
              have i0 := j0'
              have i1 := j1'
              have i2 := j2'
              have i3 := j3'
              have i4 := j4'
              have i5 := j5'
              clear j0' j1' j2' j3' j4' j5'
              go_wp2_with (first | fail | refine ld31 rfl (.tmp 5) rfl _ rfl _ H5.out.1.one.box ?_ | refine ld31 rfl (.tmp 7) rfl _ rfl _ H5.out.1.two.box ?_)
              refine (step_at s r1 r2 5 ky p cc q gg H5.out.1.rg H5.out.1.kw w2' H5.out.1.one.rows H5.out.1.two.rows).mono ?_
              rintro e w3 ⟨q1, q2, rfl, hq1, hq2, f1, f2, hb3⟩
              have hct := cost_stp H5.out.2.1 H5.out.1.rg (by omega) H5.out.2.2.1 ⟨5, ky, ⟨p, cc, q, gg⟩⟩ (Int.le_refl _) (by have := H5.out.2.2.2.2; omega) (fun _ h => absurd h hcl)
              have hyr := stp_rg H5.out.1.rg ⟨5, ky, ⟨p, cc, q, gg⟩⟩
              have hyk := stp_kw H5.out.1.rg H5.out.1.kw ⟨5, ky, ⟨p, cc, q, gg⟩⟩ HKY.out
              obtain ⟨y, hy⟩ : ∃ y, y = stp s ⟨5, ky, ⟨p, cc, q, gg⟩⟩ := ⟨_, rfl⟩
              rw [← hy] at hq1 hq2 hct hyr hyk
              rw [← hy]
              obtain ⟨wz, hwz⟩ : ∃ wz, wz = (w3.alloc (.cells (sA S0 R0) 31)).alloc (.cells (sA S0 R0) 31) := ⟨_, rfl⟩
              obtain ⟨b10, hb10⟩ : ∃ b, b = w3.heap.size := ⟨_, rfl⟩
              obtain ⟨b11, hb11⟩ : ∃ b, b = w3.heap.size + 1 := ⟨_, rfl⟩
              have ka := alloc_below w3 (.cells (sA S0 R0) 31)
              have kb := alloc_below (w3.alloc (.cells (sA S0 R0) 31)) (.cells (sA S0 R0) 31)
              have hb3z : Below w3.heap.size w3 wz := by rw [hwz]; exact ka.trans (kb.mono ka.size)
              have z10 : Box wz b10 (sA S0 R0) := by rw [hwz, hb10]; exact (box_alloc w3 _ (sA_len _ _)).kept kb (by simp)
              have z11 : Box wz b11 (sA S0 R0) := by rw [hwz, hb11]; have := box_alloc (w3.alloc (.cells (sA S0 R0) 31)) (sA S0 R0) (sA_len _ _); simpa using this
              have hZ : (w3.alloc (.cells #[.int .i64 0, .int .i64 0, .int .i64 0, .int .i64 0, .int .i64 0, .slice none 0 0, .slice none 0 0, .slice none 0 0, .int .i64 0, .int .i64 0, .int .u64 0, .int .u64 0, .int .u64 0, .int .u64 0, .int .u64 0, .int .u64 0, .int .u64 0, .int .u64 0, .int .u64 0, .int .u64 0] 31)).alloc (.cells #[.int .i64 0, .int .i64 0, .int .i64 0, .int .i64 0, .int .i64 0, .slice none 0 0, .slice none 0 0, .slice none 0 0, .int .i64 0, .int .i64 0, .int .u64 0, .int .u64 0, .int .u64 0, .int .u64 0, .int .u64 0, .int .u64 0, .int .u64 0, .int .u64 0, .int .u64 0, .int .u64 0] 31) = wz := hwz.symm
              obtain ⟨w4, hw4⟩ : ∃ w4, w4 = (wz.setRow b10 (sA y q1)).setRow b11 (sA y q2) := ⟨_, rfl⟩
              have hne : b10 ≠ b11 := by omega
              have hlo : w2'.heap.size ≤ b10 ∧ w2'.heap.size ≤ b11 := by have := hb3.size; omega
              have a10 : Ap b10 q1 ∧ Ap b10 q2 ∧ Ap b11 q1 ∧ Ap b11 q2 := ⟨hq1.old.ap (by omega), hq2.old.ap (by omega), hq1.old.ap (by omega), hq2.old.ap (by omega)⟩
              have hb2z := hb3.trans (hb3z.mono hb3.size)
              have H6 : Hid (Below w2'.heap.size w2' w4 ∧ Box w4 b10 (sA y q1) ∧ Box w4 b11 (sA y q2) ∧ SR w4 y q1 ∧ SR w4 y q2) := Lib.hid (by
                rw [hw4]
                exact ⟨below_setRow (below_setRow hb2z hlo.1) hlo.2, (z10.rowSet (sA_len _ _)).other (Ne.symm hne) _, (z11.other hne _).rowSet (sA_len _ _), ((hq1.kept hb3z).apRow a10.1).apRow a10.2.2.1, ((hq2.kept hb3z).apRow a10.2.1).apRow a10.2.2.2⟩)
              have HZ := Lib.hid hZ
              have HZB := Lib.hid (And.intro z10 (z11.other hne (sA y q1)))
              have HW4 := Lib.hid hw4
              have HF := Lib.hid (And.intro f1 (And.intro f2 (And.intro hlo (And.intro hyr (And.intro hyk hct)))))
              have e10 : (.pointer (some ⟨w3.heap.size, 0, none⟩) : Value) = .pointer (some ⟨b10, 0, none⟩) := by rw [hb10]
              have e11 : (.pointer (some ⟨w3.heap.size + 1, 0, none⟩) : Value) = .pointer (some ⟨b11, 0, none⟩) := by rw [hb11]
              have HE := Lib.hid (And.intro e10 e11)
              clear hwz hb10 hb11 ka kb hb3z z10 z11 hZ hw4 hne hlo a10 hb2z hq1 hq2 f1 f2 hb3 hct hyr hyk hy c0 c1 c2 c3 c4 c5 i0 i1 i2 i3 i4 i5 HW HKY e10 e11
              go_wp2_with (first | fail | (rw [HZ.out, HE.out.1, HE.out.2]; refine st31 rfl (.tmp 11) (.tmp 74) rfl _ y q1 rfl rfl _ HZB.out.1 ?_) | (refine st31 rfl (.tmp 12) (.tmp 75) rfl _ y q2 rfl rfl _ HZB.out.2 ?_; rw [← HW4.out]))
              clear HZ HZB HW4 HE
              have hbd : Below w4.heap.size w4 w4.drew := below_drew (Below.refl _ _) 1
              have HD : Hid (Below w2'.heap.size w2' w4.drew ∧ Box w4.drew b10 (sA y q1) ∧ Box w4.drew b11 (sA y q2) ∧ SR w4.drew y q1 ∧ SR w4.drew y q2 ∧ Box w4.drew b5 (sA s r1) ∧ Box w4.drew b7 (sA s r2)) := Lib.hid (by
                have h0 := H6.out.1.trans (hbd.mono H6.out.1.size)
                exact ⟨h0, H6.out.2.1.kept hbd H6.out.2.1.lt, H6.out.2.2.1.kept hbd H6.out.2.2.1.lt, H6.out.2.2.2.1.kept hbd, H6.out.2.2.2.2.kept hbd, H5.out.1.one.box.kept h0 H5.out.1.one.box.lt, H5.out.1.two.box.kept h0 H5.out.1.two.box.lt⟩)
              have hn4 : b10 ≠ b5 ∧ b10 ≠ b7 ∧ b11 ≠ b5 ∧ b11 ≠ b7 := by
                have h1 := H5.out.1.one.box.lt
                have h2 := H5.out.1.two.box.lt
                have h3 := HF.out.2.2.1
                omega
              have HN4 := Lib.hid hn4
              clear hbd H6 hn4
              refine wp_region_held_drew (S := fun V => Box V b10 (sA y q1) ∧ Box V b11 (sA y q2)) (by kernel_rfl) ⟨HD.out.2.1, HD.out.2.2.1⟩ (fun hHeld => ?_)
              generalize World.drew w4 = wd at hHeld HD ⊢
              refine wpAnyH_take (i := 0) (v := ?tval5201) (by simp only [get_laws]; rfl) (by kernel_rfl) (by kernel_rfl) (by kernel_rfl) (by intro _ _ _ h; exact h) (Or.inl ⟨by rfl, ?teq5201⟩) (by assumption) ?trest5201
              case teq5201 => (intro w0 q; refine exec31 (.tmp 11) ?_ ?_ q.1 <;> rfl)
              try simp only [put_laws]
              refine wpAnyH_take (i := 1) (v := ?tval5202) (by simp only [get_laws]; rfl) (by kernel_rfl) (by kernel_rfl) (by kernel_rfl) (by intro _ _ _ h; exact h) (Or.inl ⟨by rfl, ?teq5202⟩) (by assumption) ?trest5202
              case teq5202 => (intro w0 q; refine exec31 (.tmp 12) ?_ ?_ q.2 <;> rfl)
              try simp only [put_laws]
              refine wpAnyH_ready (rs := [2]) (by kernel_rfl) (by simp) ?_
              refine AllReadyH.cons rfl (fun K hK => ?_) AllReadyH.nil
              refine step31 rfl (.tmp 5) (.tmp 79) rfl _ y q1 rfl rfl _ HD.out.2.2.2.2.2.1 ?_
              refine hK.out _ _ ⟨HD.out.2.1.other (Ne.symm HN4.out.1) _, HD.out.2.2.1.other (Ne.symm HN4.out.2.2.1) _⟩ (fun hHeld => ?_)
              clear hK K
              try simp only [put_laws]
              refine wpAnyH_ready (rs := [3]) (by kernel_rfl) (by simp) ?_
              refine AllReadyH.cons rfl (fun K hK => ?_) AllReadyH.nil
              refine step31 rfl (.tmp 7) (.tmp 80) rfl _ y q2 rfl rfl _ (HD.out.2.2.2.2.2.2.other H5.out.1.ne _) ?_
              refine hK.out _ _ ⟨(HD.out.2.1.other (Ne.symm HN4.out.1) _).other (Ne.symm HN4.out.2.1) _, (HD.out.2.2.1.other (Ne.symm HN4.out.2.2.1) _).other (Ne.symm HN4.out.2.2.2) _⟩ (fun hHeld => ?_)
              clear hK K
              try simp only [put_laws]
              refine wpAnyH_done (by kernel_rfl) ?_ _
              obtain ⟨w9, hw9⟩ : ∃ w9, w9 = (wd.setRow b5 (sA y q1)).setRow b7 (sA y q2) := ⟨_, rfl⟩
              have H9 : Hid (D2 w w9 b5 b7 y q1 q2 ∧ Cw R ((m : Int) + 1) y ∧ y.cf.c + y.cf.g ≤ R) := Lib.hid (by
                rw [hw9]
                exact ⟨ H5.out.1.put HD.out.1 HD.out.2.2.2.1 HD.out.2.2.2.2.1 HF.out.1 HF.out.2.1 HF.out.2.2.2.1 HF.out.2.2.2.2.1, HF.out.2.2.2.2.2⟩)
              have HW9 := Lib.hid hw9
              rw [← HW9.out]
              have HRR := Lib.hid H5.out.2.2.2
              clear hHeld hw9 HD HF H5 HN4 HW9
              obtain ⟨ct, hct⟩ : ∃ t, t = y.ct := ⟨_, rfl⟩
              have HCT := Lib.hid hct.symm
              have hsay := cw_says H9.out.2.1
              have hzz := H9.out.2.1.co.z
              unfold dn at hsay
              rw [← hct] at hsay hzz
              clear hct
              obtain ⟨hi, mi, ra, lo, pr, ev, fo, cl, en, st⟩ := ct
              dsimp only at hsay hzz
              obtain ⟨y1, y2, y3, y4, y5, y6, y7, y8, y9⟩ := hsay
              obtain ⟨z1, z2, z3, z4, z5, z6, z7, z8, z9⟩ := hzz
              have HCO := Lib.hid H9.out.2
              have HRB : Hid (0 ≤ R ∧ R ≤ 768) := Lib.hid (by exact HRR.out)
              have hm150 : hi + mi ≤ 150 := by omega
              have hmn : hi + mi ≤ (n : Int) := by omega
              obtain ⟨R2, hR2⟩ : ∃ z, z = R := ⟨_, rfl⟩
              have HR2 := Lib.hid hR2
              have hRb : 0 ≤ R2 ∧ R2 ≤ 768 := by rw [hR2]; exact HRB.out
              rw [← hR2] at y8
              rw [← hR2]
              clear hR2
              obtain ⟨hRa, hRc⟩ := hRb
              have hd1 : 0 ≤ cl + lo + en + fo + ev := by omega
              have hd2 : cl + lo + en + fo + ev ≤ 600 := by omega
              have hp1 : 0 ≤ (cl + lo + en + fo + ev) * R2 := Int.mul_nonneg hd1 hRa
              have hp2 : (cl + lo + en + fo + ev) * R2 ≤ 600 * 768 := Int.mul_le_mul hd2 hRc hRa (by decide)
              have hwp : IntKind.u64.wrap ((cl + lo + en + fo + ev) * R2) = (cl + lo + en + fo + ev) * R2 := IntWalk.u64_in _ (by omega)
              have hst1 : st ≤ 460800 := by omega
              have g0 : decide (hi < cl) = false := decide_eq_false (by omega)
              have g1 : decide (mi < ev) = false := decide_eq_false (by omega)
              have g2 : decide (hi + mi < ra) = false := decide_eq_false (by omega)
              have g3 : decide (ra < lo) = false := decide_eq_false (by omega)
              have g5 : decide (ev < fo) = false := decide_eq_false (by omega)
              have g6 : decide (hi + mi < en) = false := decide_eq_false (by omega)
              have g7 : decide (4 * (hi + mi) < cl + lo + en + fo + ev) = false := decide_eq_false (by omega)
              have g8 : decide ((cl + lo + en + fo + ev) * R2 < st) = false := decide_eq_false (by omega)
              have g9 : decide ((n : Int) < hi + mi) = false := decide_eq_false (by omega)
              clear hp1 hp2 y7 y8 y9
              obtain ⟨w13, hw13⟩ : ∃ w, w = w9.alloc (.cells (ctA ⟨hi, mi, ra, lo, pr, ev, fo, cl, en, st⟩) 29) := ⟨_, rfl⟩
              obtain ⟨g13, hg13⟩ : ∃ b, b = w9.heap.size := ⟨_, rfl⟩
              have hgg := heap_alloc_new w9 (.cells (ctA ⟨hi, mi, ra, lo, pr, ev, fo, cl, en, st⟩) 29)
              rw [← hw13, ← hg13] at hgg
              have hb9 : Below w9.heap.size w9 w13 := by rw [hw13]; exact alloc_below _ _
              have H13 : Hid (D2 w w13 b5 b7 y q1 q2) := Lib.hid (H9.out.1.keep hb9)
              have j0 : w13.cell? ⟨g13, 0, none⟩ = some (.int .u64 hi) := by rw [cell_of_head hgg]; rfl
              have j1 : w13.cell? ⟨g13, 1, none⟩ = some (.int .u64 mi) := by rw [cell_of_head hgg]; rfl
              have j2 : w13.cell? ⟨g13, 2, none⟩ = some (.int .u64 ra) := by rw [cell_of_head hgg]; rfl
              have j3 : w13.cell? ⟨g13, 3, none⟩ = some (.int .u64 lo) := by rw [cell_of_head hgg]; rfl
              have j4 : w13.cell? ⟨g13, 4, none⟩ = some (.int .u64 pr) := by rw [cell_of_head hgg]; rfl
              have j5 : w13.cell? ⟨g13, 5, none⟩ = some (.int .u64 ev) := by rw [cell_of_head hgg]; rfl
              have j7 : w13.cell? ⟨g13, 7, none⟩ = some (.int .u64 cl) := by rw [cell_of_head hgg]; rfl
              have j8 : w13.cell? ⟨g13, 8, none⟩ = some (.int .u64 en) := by rw [cell_of_head hgg]; rfl
              have j9 : w13.cell? ⟨g13, 9, none⟩ = some (.int .u64 st) := by rw [cell_of_head hgg]; rfl
              have j6 : w13.cell? ⟨g13, 6, none⟩ = some (.int .u64 fo) := by rw [cell_of_head hgg]; rfl
              have HW13 := Lib.hid (And.intro hw13 hg13)
              clear hw13 hg13 hgg hb9
              go_wp2_with (first | fail | refine ld29 rfl (.tmp 81) rfl b5 rfl y q1 H9.out.1.one.box ⟨hi, mi, ra, lo, pr, ev, fo, cl, en, st⟩ HCT.out ?_ | (refine st29n rfl (.tmp 14) (.tmp 82) rfl ⟨hi, mi, ra, lo, pr, ev, fo, cl, en, st⟩ rfl rfl _ rfl ?_; rw [← HW13.out.1, ← HW13.out.2]))
              go_round
              case rel => exact ⟨m + 1, y, q1, q2, R2, by omega, by go_num, by go_num, Lib.hid ⟨H13.out, by rw [HR2.out]; exact HCO.out.1, by rw [HR2.out]; exact HCO.out.2, hRa, hRc⟩⟩
              case measure => simp only [intOf]; omega
            case pos =>
              refine Calls.mono (lawMay_cl ⟨p, cc, q, gg⟩ true ⟨fun _ => hcl, fun _ => rfl⟩ w2') ?_
              rintro e w20 ⟨rfl, hb20⟩
              have H5' := Lib.hid (And.intro (H5.out.1.keep hb20) H5.out.2)
              have j0' : w20.cell? ⟨g, 0, none⟩ = some (.int .i64 5) := by rw [cell_of_head ((hb20.block g (Array.getElem?_eq_some_iff.1 HGG.out).1).trans HGG.out)]; rfl
              have j1' : w20.cell? ⟨g, 1, none⟩ = some (.int .u64 ky) := by rw [cell_of_head ((hb20.block g (Array.getElem?_eq_some_iff.1 HGG.out).1).trans HGG.out)]; rfl
              have j2' : w20.cell? ⟨g, 2, none⟩ = some (.int .i64 p) := by rw [cell_of_head ((hb20.block g (Array.getElem?_eq_some_iff.1 HGG.out).1).trans HGG.out)]; rfl
              have j3' : w20.cell? ⟨g, 3, none⟩ = some (.int .i64 cc) := by rw [cell_of_head ((hb20.block g (Array.getElem?_eq_some_iff.1 HGG.out).1).trans HGG.out)]; rfl
              have j4' : w20.cell? ⟨g, 4, none⟩ = some (.int .i64 q) := by rw [cell_of_head ((hb20.block g (Array.getElem?_eq_some_iff.1 HGG.out).1).trans HGG.out)]; rfl
              have j5' : w20.cell? ⟨g, 5, none⟩ = some (.int .i64 gg) := by rw [cell_of_head ((hb20.block g (Array.getElem?_eq_some_iff.1 HGG.out).1).trans HGG.out)]; rfl
              have HB20 := Lib.hid hb20
              clear hb20 i0 i1 i2 i3 i4 i5 H5
              obtain ⟨w2', hw2'⟩ : ∃ z, z = w20 := ⟨_, rfl⟩
              subst hw2'
              have H5 := H5'
              clear H5'
              have i0 := j0'
              have i1 := j1'
              have i2 := j2'
              have i3 := j3'
              have i4 := j4'
              have i5 := j5'
              clear j0' j1' j2' j3' j4' j5'
              have hclb : (2 ≤ cc ∧ cc ≤ 256) ∧ 0 ≤ gg ∧ gg ≤ 512 := ⟨hcl.2.1, hcl.2.2.2⟩
              obtain ⟨⟨k1, k2⟩, k3, k4⟩ := hclb
              obtain ⟨k5, k6⟩ := H5.out.2.2.2
              by_cases hRR : R < cc + gg
              case pos =>
                go_wp2_with (first | fail | refine ld31 rfl (.tmp 5) rfl _ rfl _ H5.out.1.one.box ?_ | refine ld31 rfl (.tmp 7) rfl _ rfl _ H5.out.1.two.box ?_)
                refine (step_at s r1 r2 5 ky p cc q gg H5.out.1.rg H5.out.1.kw w2' H5.out.1.one.rows H5.out.1.two.rows).mono ?_
                rintro e w3 ⟨q1, q2, rfl, hq1, hq2, f1, f2, hb3⟩
                have hct := cost_stp (R' := cc + gg) H5.out.2.1 H5.out.1.rg (by omega) H5.out.2.2.1 ⟨5, ky, ⟨p, cc, q, gg⟩⟩ (by omega) (by omega) (fun _ _ => Int.le_refl _)
                have hyr := stp_rg H5.out.1.rg ⟨5, ky, ⟨p, cc, q, gg⟩⟩
                have hyk := stp_kw H5.out.1.rg H5.out.1.kw ⟨5, ky, ⟨p, cc, q, gg⟩⟩ HKY.out
                obtain ⟨y, hy⟩ : ∃ y, y = stp s ⟨5, ky, ⟨p, cc, q, gg⟩⟩ := ⟨_, rfl⟩
                rw [← hy] at hq1 hq2 hct hyr hyk
                rw [← hy]
                obtain ⟨wz, hwz⟩ : ∃ wz, wz = (w3.alloc (.cells (sA S0 R0) 31)).alloc (.cells (sA S0 R0) 31) := ⟨_, rfl⟩
                obtain ⟨b10, hb10⟩ : ∃ b, b = w3.heap.size := ⟨_, rfl⟩
                obtain ⟨b11, hb11⟩ : ∃ b, b = w3.heap.size + 1 := ⟨_, rfl⟩
                have ka := alloc_below w3 (.cells (sA S0 R0) 31)
                have kb := alloc_below (w3.alloc (.cells (sA S0 R0) 31)) (.cells (sA S0 R0) 31)
                have hb3z : Below w3.heap.size w3 wz := by rw [hwz]; exact ka.trans (kb.mono ka.size)
                have z10 : Box wz b10 (sA S0 R0) := by rw [hwz, hb10]; exact (box_alloc w3 _ (sA_len _ _)).kept kb (by simp)
                have z11 : Box wz b11 (sA S0 R0) := by rw [hwz, hb11]; have := box_alloc (w3.alloc (.cells (sA S0 R0) 31)) (sA S0 R0) (sA_len _ _); simpa using this
                have hZ : (w3.alloc (.cells #[.int .i64 0, .int .i64 0, .int .i64 0, .int .i64 0, .int .i64 0, .slice none 0 0, .slice none 0 0, .slice none 0 0, .int .i64 0, .int .i64 0, .int .u64 0, .int .u64 0, .int .u64 0, .int .u64 0, .int .u64 0, .int .u64 0, .int .u64 0, .int .u64 0, .int .u64 0, .int .u64 0] 31)).alloc (.cells #[.int .i64 0, .int .i64 0, .int .i64 0, .int .i64 0, .int .i64 0, .slice none 0 0, .slice none 0 0, .slice none 0 0, .int .i64 0, .int .i64 0, .int .u64 0, .int .u64 0, .int .u64 0, .int .u64 0, .int .u64 0, .int .u64 0, .int .u64 0, .int .u64 0, .int .u64 0, .int .u64 0] 31) = wz := hwz.symm
                obtain ⟨w4, hw4⟩ : ∃ w4, w4 = (wz.setRow b10 (sA y q1)).setRow b11 (sA y q2) := ⟨_, rfl⟩
                have hne : b10 ≠ b11 := by omega
                have hlo : w2'.heap.size ≤ b10 ∧ w2'.heap.size ≤ b11 := by have := hb3.size; omega
                have a10 : Ap b10 q1 ∧ Ap b10 q2 ∧ Ap b11 q1 ∧ Ap b11 q2 := ⟨hq1.old.ap (by omega), hq2.old.ap (by omega), hq1.old.ap (by omega), hq2.old.ap (by omega)⟩
                have hb2z := hb3.trans (hb3z.mono hb3.size)
                have H6 : Hid (Below w2'.heap.size w2' w4 ∧ Box w4 b10 (sA y q1) ∧ Box w4 b11 (sA y q2) ∧ SR w4 y q1 ∧ SR w4 y q2) := Lib.hid (by
                  rw [hw4]
                  exact ⟨below_setRow (below_setRow hb2z hlo.1) hlo.2, (z10.rowSet (sA_len _ _)).other (Ne.symm hne) _, (z11.other hne _).rowSet (sA_len _ _), ((hq1.kept hb3z).apRow a10.1).apRow a10.2.2.1, ((hq2.kept hb3z).apRow a10.2.1).apRow a10.2.2.2⟩)
                have HZ := Lib.hid hZ
                have HZB := Lib.hid (And.intro z10 (z11.other hne (sA y q1)))
                have HW4 := Lib.hid hw4
                have HF := Lib.hid (And.intro f1 (And.intro f2 (And.intro hlo (And.intro hyr (And.intro hyk hct)))))
                have e10 : (.pointer (some ⟨w3.heap.size, 0, none⟩) : Value) = .pointer (some ⟨b10, 0, none⟩) := by rw [hb10]
                have e11 : (.pointer (some ⟨w3.heap.size + 1, 0, none⟩) : Value) = .pointer (some ⟨b11, 0, none⟩) := by rw [hb11]
                have HE := Lib.hid (And.intro e10 e11)
                clear hwz hb10 hb11 ka kb hb3z z10 z11 hZ hw4 hne hlo a10 hb2z hq1 hq2 f1 f2 hb3 hct hyr hyk hy c0 c1 c2 c3 c4 c5 i0 i1 i2 i3 i4 i5 HW HKY e10 e11
                go_wp2_with (first | fail | (rw [HZ.out, HE.out.1, HE.out.2]; refine st31 rfl (.tmp 11) (.tmp 74) rfl _ y q1 rfl rfl _ HZB.out.1 ?_) | (refine st31 rfl (.tmp 12) (.tmp 75) rfl _ y q2 rfl rfl _ HZB.out.2 ?_; rw [← HW4.out]))
                clear HZ HZB HW4 HE
                have hbd : Below w4.heap.size w4 w4.drew := below_drew (Below.refl _ _) 1
                have HD : Hid (Below w2'.heap.size w2' w4.drew ∧ Box w4.drew b10 (sA y q1) ∧ Box w4.drew b11 (sA y q2) ∧ SR w4.drew y q1 ∧ SR w4.drew y q2 ∧ Box w4.drew b5 (sA s r1) ∧ Box w4.drew b7 (sA s r2)) := Lib.hid (by
                  have h0 := H6.out.1.trans (hbd.mono H6.out.1.size)
                  exact ⟨h0, H6.out.2.1.kept hbd H6.out.2.1.lt, H6.out.2.2.1.kept hbd H6.out.2.2.1.lt, H6.out.2.2.2.1.kept hbd, H6.out.2.2.2.2.kept hbd, H5.out.1.one.box.kept h0 H5.out.1.one.box.lt, H5.out.1.two.box.kept h0 H5.out.1.two.box.lt⟩)
                have hn4 : b10 ≠ b5 ∧ b10 ≠ b7 ∧ b11 ≠ b5 ∧ b11 ≠ b7 := by
                  have h1 := H5.out.1.one.box.lt
                  have h2 := H5.out.1.two.box.lt
                  have h3 := HF.out.2.2.1
                  omega
                have HN4 := Lib.hid hn4
                clear hbd H6 hn4
                refine wp_region_held_drew (S := fun V => Box V b10 (sA y q1) ∧ Box V b11 (sA y q2)) (by kernel_rfl) ⟨HD.out.2.1, HD.out.2.2.1⟩ (fun hHeld => ?_)
                generalize World.drew w4 = wd at hHeld HD ⊢
                refine wpAnyH_take (i := 0) (v := ?tval5301) (by simp only [get_laws]; rfl) (by kernel_rfl) (by kernel_rfl) (by kernel_rfl) (by intro _ _ _ h; exact h) (Or.inl ⟨by rfl, ?teq5301⟩) (by assumption) ?trest5301
                case teq5301 => (intro w0 q; refine exec31 (.tmp 11) ?_ ?_ q.1 <;> rfl)
                try simp only [put_laws]
                refine wpAnyH_take (i := 1) (v := ?tval5302) (by simp only [get_laws]; rfl) (by kernel_rfl) (by kernel_rfl) (by kernel_rfl) (by intro _ _ _ h; exact h) (Or.inl ⟨by rfl, ?teq5302⟩) (by assumption) ?trest5302
                case teq5302 => (intro w0 q; refine exec31 (.tmp 12) ?_ ?_ q.2 <;> rfl)
                try simp only [put_laws]
                refine wpAnyH_ready (rs := [2]) (by kernel_rfl) (by simp) ?_
                refine AllReadyH.cons rfl (fun K hK => ?_) AllReadyH.nil
                refine step31 rfl (.tmp 5) (.tmp 79) rfl _ y q1 rfl rfl _ HD.out.2.2.2.2.2.1 ?_
                refine hK.out _ _ ⟨HD.out.2.1.other (Ne.symm HN4.out.1) _, HD.out.2.2.1.other (Ne.symm HN4.out.2.2.1) _⟩ (fun hHeld => ?_)
                clear hK K
                try simp only [put_laws]
                refine wpAnyH_ready (rs := [3]) (by kernel_rfl) (by simp) ?_
                refine AllReadyH.cons rfl (fun K hK => ?_) AllReadyH.nil
                refine step31 rfl (.tmp 7) (.tmp 80) rfl _ y q2 rfl rfl _ (HD.out.2.2.2.2.2.2.other H5.out.1.ne _) ?_
                refine hK.out _ _ ⟨(HD.out.2.1.other (Ne.symm HN4.out.1) _).other (Ne.symm HN4.out.2.1) _, (HD.out.2.2.1.other (Ne.symm HN4.out.2.2.1) _).other (Ne.symm HN4.out.2.2.2) _⟩ (fun hHeld => ?_)
                clear hK K
                try simp only [put_laws]
                refine wpAnyH_done (by kernel_rfl) ?_ _
                obtain ⟨w9, hw9⟩ : ∃ w9, w9 = (wd.setRow b5 (sA y q1)).setRow b7 (sA y q2) := ⟨_, rfl⟩
                have H9 : Hid (D2 w w9 b5 b7 y q1 q2 ∧ Cw (cc + gg) ((m : Int) + 1) y ∧ y.cf.c + y.cf.g ≤ (cc + gg)) := Lib.hid (by
                  rw [hw9]
                  exact ⟨ H5.out.1.put HD.out.1 HD.out.2.2.2.1 HD.out.2.2.2.2.1 HF.out.1 HF.out.2.1 HF.out.2.2.2.1 HF.out.2.2.2.2.1, HF.out.2.2.2.2.2⟩)
                have HW9 := Lib.hid hw9
                rw [← HW9.out]
                clear hHeld hw9 HD HF H5 HN4 HW9
                obtain ⟨ct, hct⟩ : ∃ t, t = y.ct := ⟨_, rfl⟩
                have HCT := Lib.hid hct.symm
                have hsay := cw_says H9.out.2.1
                have hzz := H9.out.2.1.co.z
                unfold dn at hsay
                rw [← hct] at hsay hzz
                clear hct
                obtain ⟨hi, mi, ra, lo, pr, ev, fo, cl, en, st⟩ := ct
                dsimp only at hsay hzz
                obtain ⟨y1, y2, y3, y4, y5, y6, y7, y8, y9⟩ := hsay
                obtain ⟨z1, z2, z3, z4, z5, z6, z7, z8, z9⟩ := hzz
                have HCO := Lib.hid H9.out.2
                have HRB : Hid (0 ≤ (cc + gg) ∧ (cc + gg) ≤ 768) := Lib.hid (by omega)
                have hm150 : hi + mi ≤ 150 := by omega
                have hmn : hi + mi ≤ (n : Int) := by omega
                obtain ⟨R2, hR2⟩ : ∃ z, z = (cc + gg) := ⟨_, rfl⟩
                have HR2 := Lib.hid hR2
                have hRb : 0 ≤ R2 ∧ R2 ≤ 768 := by rw [hR2]; exact HRB.out
                rw [← hR2] at y8
                rw [← hR2]
                clear hR2
                obtain ⟨hRa, hRc⟩ := hRb
                have hd1 : 0 ≤ cl + lo + en + fo + ev := by omega
                have hd2 : cl + lo + en + fo + ev ≤ 600 := by omega
                have hp1 : 0 ≤ (cl + lo + en + fo + ev) * R2 := Int.mul_nonneg hd1 hRa
                have hp2 : (cl + lo + en + fo + ev) * R2 ≤ 600 * 768 := Int.mul_le_mul hd2 hRc hRa (by decide)
                have hwp : IntKind.u64.wrap ((cl + lo + en + fo + ev) * R2) = (cl + lo + en + fo + ev) * R2 := IntWalk.u64_in _ (by omega)
                have hst1 : st ≤ 460800 := by omega
                have g0 : decide (hi < cl) = false := decide_eq_false (by omega)
                have g1 : decide (mi < ev) = false := decide_eq_false (by omega)
                have g2 : decide (hi + mi < ra) = false := decide_eq_false (by omega)
                have g3 : decide (ra < lo) = false := decide_eq_false (by omega)
                have g5 : decide (ev < fo) = false := decide_eq_false (by omega)
                have g6 : decide (hi + mi < en) = false := decide_eq_false (by omega)
                have g7 : decide (4 * (hi + mi) < cl + lo + en + fo + ev) = false := decide_eq_false (by omega)
                have g8 : decide ((cl + lo + en + fo + ev) * R2 < st) = false := decide_eq_false (by omega)
                have g9 : decide ((n : Int) < hi + mi) = false := decide_eq_false (by omega)
                clear hp1 hp2 y7 y8 y9
                obtain ⟨w13, hw13⟩ : ∃ w, w = w9.alloc (.cells (ctA ⟨hi, mi, ra, lo, pr, ev, fo, cl, en, st⟩) 29) := ⟨_, rfl⟩
                obtain ⟨g13, hg13⟩ : ∃ b, b = w9.heap.size := ⟨_, rfl⟩
                have hgg := heap_alloc_new w9 (.cells (ctA ⟨hi, mi, ra, lo, pr, ev, fo, cl, en, st⟩) 29)
                rw [← hw13, ← hg13] at hgg
                have hb9 : Below w9.heap.size w9 w13 := by rw [hw13]; exact alloc_below _ _
                have H13 : Hid (D2 w w13 b5 b7 y q1 q2) := Lib.hid (H9.out.1.keep hb9)
                have j0 : w13.cell? ⟨g13, 0, none⟩ = some (.int .u64 hi) := by rw [cell_of_head hgg]; rfl
                have j1 : w13.cell? ⟨g13, 1, none⟩ = some (.int .u64 mi) := by rw [cell_of_head hgg]; rfl
                have j2 : w13.cell? ⟨g13, 2, none⟩ = some (.int .u64 ra) := by rw [cell_of_head hgg]; rfl
                have j3 : w13.cell? ⟨g13, 3, none⟩ = some (.int .u64 lo) := by rw [cell_of_head hgg]; rfl
                have j4 : w13.cell? ⟨g13, 4, none⟩ = some (.int .u64 pr) := by rw [cell_of_head hgg]; rfl
                have j5 : w13.cell? ⟨g13, 5, none⟩ = some (.int .u64 ev) := by rw [cell_of_head hgg]; rfl
                have j7 : w13.cell? ⟨g13, 7, none⟩ = some (.int .u64 cl) := by rw [cell_of_head hgg]; rfl
                have j8 : w13.cell? ⟨g13, 8, none⟩ = some (.int .u64 en) := by rw [cell_of_head hgg]; rfl
                have j9 : w13.cell? ⟨g13, 9, none⟩ = some (.int .u64 st) := by rw [cell_of_head hgg]; rfl
                have j6 : w13.cell? ⟨g13, 6, none⟩ = some (.int .u64 fo) := by rw [cell_of_head hgg]; rfl
                have HW13 := Lib.hid (And.intro hw13 hg13)
                clear hw13 hg13 hgg hb9
                go_wp2_with (first | fail | refine ld29 rfl (.tmp 81) rfl b5 rfl y q1 H9.out.1.one.box ⟨hi, mi, ra, lo, pr, ev, fo, cl, en, st⟩ HCT.out ?_ | (refine st29n rfl (.tmp 14) (.tmp 82) rfl ⟨hi, mi, ra, lo, pr, ev, fo, cl, en, st⟩ rfl rfl _ rfl ?_; rw [← HW13.out.1, ← HW13.out.2]))
                go_round
                case rel => exact ⟨m + 1, y, q1, q2, R2, by omega, by go_num, by go_num, Lib.hid ⟨H13.out, by rw [HR2.out]; exact HCO.out.1, by rw [HR2.out]; exact HCO.out.2, hRa, hRc⟩⟩
                case measure => simp only [intOf]; omega
              case neg =>
                go_wp2_with (first | fail | refine ld31 rfl (.tmp 5) rfl _ rfl _ H5.out.1.one.box ?_ | refine ld31 rfl (.tmp 7) rfl _ rfl _ H5.out.1.two.box ?_)
                refine (step_at s r1 r2 5 ky p cc q gg H5.out.1.rg H5.out.1.kw w2' H5.out.1.one.rows H5.out.1.two.rows).mono ?_
                rintro e w3 ⟨q1, q2, rfl, hq1, hq2, f1, f2, hb3⟩
                have hct := cost_stp H5.out.2.1 H5.out.1.rg (by omega) H5.out.2.2.1 ⟨5, ky, ⟨p, cc, q, gg⟩⟩ (Int.le_refl _) (by omega) (fun _ _ => by show cc + gg ≤ R; omega)
                have hyr := stp_rg H5.out.1.rg ⟨5, ky, ⟨p, cc, q, gg⟩⟩
                have hyk := stp_kw H5.out.1.rg H5.out.1.kw ⟨5, ky, ⟨p, cc, q, gg⟩⟩ HKY.out
                obtain ⟨y, hy⟩ : ∃ y, y = stp s ⟨5, ky, ⟨p, cc, q, gg⟩⟩ := ⟨_, rfl⟩
                rw [← hy] at hq1 hq2 hct hyr hyk
                rw [← hy]
                obtain ⟨wz, hwz⟩ : ∃ wz, wz = (w3.alloc (.cells (sA S0 R0) 31)).alloc (.cells (sA S0 R0) 31) := ⟨_, rfl⟩
                obtain ⟨b10, hb10⟩ : ∃ b, b = w3.heap.size := ⟨_, rfl⟩
                obtain ⟨b11, hb11⟩ : ∃ b, b = w3.heap.size + 1 := ⟨_, rfl⟩
                have ka := alloc_below w3 (.cells (sA S0 R0) 31)
                have kb := alloc_below (w3.alloc (.cells (sA S0 R0) 31)) (.cells (sA S0 R0) 31)
                have hb3z : Below w3.heap.size w3 wz := by rw [hwz]; exact ka.trans (kb.mono ka.size)
                have z10 : Box wz b10 (sA S0 R0) := by rw [hwz, hb10]; exact (box_alloc w3 _ (sA_len _ _)).kept kb (by simp)
                have z11 : Box wz b11 (sA S0 R0) := by rw [hwz, hb11]; have := box_alloc (w3.alloc (.cells (sA S0 R0) 31)) (sA S0 R0) (sA_len _ _); simpa using this
                have hZ : (w3.alloc (.cells #[.int .i64 0, .int .i64 0, .int .i64 0, .int .i64 0, .int .i64 0, .slice none 0 0, .slice none 0 0, .slice none 0 0, .int .i64 0, .int .i64 0, .int .u64 0, .int .u64 0, .int .u64 0, .int .u64 0, .int .u64 0, .int .u64 0, .int .u64 0, .int .u64 0, .int .u64 0, .int .u64 0] 31)).alloc (.cells #[.int .i64 0, .int .i64 0, .int .i64 0, .int .i64 0, .int .i64 0, .slice none 0 0, .slice none 0 0, .slice none 0 0, .int .i64 0, .int .i64 0, .int .u64 0, .int .u64 0, .int .u64 0, .int .u64 0, .int .u64 0, .int .u64 0, .int .u64 0, .int .u64 0, .int .u64 0, .int .u64 0] 31) = wz := hwz.symm
                obtain ⟨w4, hw4⟩ : ∃ w4, w4 = (wz.setRow b10 (sA y q1)).setRow b11 (sA y q2) := ⟨_, rfl⟩
                have hne : b10 ≠ b11 := by omega
                have hlo : w2'.heap.size ≤ b10 ∧ w2'.heap.size ≤ b11 := by have := hb3.size; omega
                have a10 : Ap b10 q1 ∧ Ap b10 q2 ∧ Ap b11 q1 ∧ Ap b11 q2 := ⟨hq1.old.ap (by omega), hq2.old.ap (by omega), hq1.old.ap (by omega), hq2.old.ap (by omega)⟩
                have hb2z := hb3.trans (hb3z.mono hb3.size)
                have H6 : Hid (Below w2'.heap.size w2' w4 ∧ Box w4 b10 (sA y q1) ∧ Box w4 b11 (sA y q2) ∧ SR w4 y q1 ∧ SR w4 y q2) := Lib.hid (by
                  rw [hw4]
                  exact ⟨below_setRow (below_setRow hb2z hlo.1) hlo.2, (z10.rowSet (sA_len _ _)).other (Ne.symm hne) _, (z11.other hne _).rowSet (sA_len _ _), ((hq1.kept hb3z).apRow a10.1).apRow a10.2.2.1, ((hq2.kept hb3z).apRow a10.2.1).apRow a10.2.2.2⟩)
                have HZ := Lib.hid hZ
                have HZB := Lib.hid (And.intro z10 (z11.other hne (sA y q1)))
                have HW4 := Lib.hid hw4
                have HF := Lib.hid (And.intro f1 (And.intro f2 (And.intro hlo (And.intro hyr (And.intro hyk hct)))))
                have e10 : (.pointer (some ⟨w3.heap.size, 0, none⟩) : Value) = .pointer (some ⟨b10, 0, none⟩) := by rw [hb10]
                have e11 : (.pointer (some ⟨w3.heap.size + 1, 0, none⟩) : Value) = .pointer (some ⟨b11, 0, none⟩) := by rw [hb11]
                have HE := Lib.hid (And.intro e10 e11)
                clear hwz hb10 hb11 ka kb hb3z z10 z11 hZ hw4 hne hlo a10 hb2z hq1 hq2 f1 f2 hb3 hct hyr hyk hy c0 c1 c2 c3 c4 c5 i0 i1 i2 i3 i4 i5 HW HKY e10 e11
                go_wp2_with (first | fail | (rw [HZ.out, HE.out.1, HE.out.2]; refine st31 rfl (.tmp 11) (.tmp 74) rfl _ y q1 rfl rfl _ HZB.out.1 ?_) | (refine st31 rfl (.tmp 12) (.tmp 75) rfl _ y q2 rfl rfl _ HZB.out.2 ?_; rw [← HW4.out]))
                clear HZ HZB HW4 HE
                have hbd : Below w4.heap.size w4 w4.drew := below_drew (Below.refl _ _) 1
                have HD : Hid (Below w2'.heap.size w2' w4.drew ∧ Box w4.drew b10 (sA y q1) ∧ Box w4.drew b11 (sA y q2) ∧ SR w4.drew y q1 ∧ SR w4.drew y q2 ∧ Box w4.drew b5 (sA s r1) ∧ Box w4.drew b7 (sA s r2)) := Lib.hid (by
                  have h0 := H6.out.1.trans (hbd.mono H6.out.1.size)
                  exact ⟨h0, H6.out.2.1.kept hbd H6.out.2.1.lt, H6.out.2.2.1.kept hbd H6.out.2.2.1.lt, H6.out.2.2.2.1.kept hbd, H6.out.2.2.2.2.kept hbd, H5.out.1.one.box.kept h0 H5.out.1.one.box.lt, H5.out.1.two.box.kept h0 H5.out.1.two.box.lt⟩)
                have hn4 : b10 ≠ b5 ∧ b10 ≠ b7 ∧ b11 ≠ b5 ∧ b11 ≠ b7 := by
                  have h1 := H5.out.1.one.box.lt
                  have h2 := H5.out.1.two.box.lt
                  have h3 := HF.out.2.2.1
                  omega
                have HN4 := Lib.hid hn4
                clear hbd H6 hn4
                refine wp_region_held_drew (S := fun V => Box V b10 (sA y q1) ∧ Box V b11 (sA y q2)) (by kernel_rfl) ⟨HD.out.2.1, HD.out.2.2.1⟩ (fun hHeld => ?_)
                generalize World.drew w4 = wd at hHeld HD ⊢
                refine wpAnyH_take (i := 0) (v := ?tval5401) (by simp only [get_laws]; rfl) (by kernel_rfl) (by kernel_rfl) (by kernel_rfl) (by intro _ _ _ h; exact h) (Or.inl ⟨by rfl, ?teq5401⟩) (by assumption) ?trest5401
                case teq5401 => (intro w0 q; refine exec31 (.tmp 11) ?_ ?_ q.1 <;> rfl)
                try simp only [put_laws]
                refine wpAnyH_take (i := 1) (v := ?tval5402) (by simp only [get_laws]; rfl) (by kernel_rfl) (by kernel_rfl) (by kernel_rfl) (by intro _ _ _ h; exact h) (Or.inl ⟨by rfl, ?teq5402⟩) (by assumption) ?trest5402
                case teq5402 => (intro w0 q; refine exec31 (.tmp 12) ?_ ?_ q.2 <;> rfl)
                try simp only [put_laws]
                refine wpAnyH_ready (rs := [2]) (by kernel_rfl) (by simp) ?_
                refine AllReadyH.cons rfl (fun K hK => ?_) AllReadyH.nil
                refine step31 rfl (.tmp 5) (.tmp 79) rfl _ y q1 rfl rfl _ HD.out.2.2.2.2.2.1 ?_
                refine hK.out _ _ ⟨HD.out.2.1.other (Ne.symm HN4.out.1) _, HD.out.2.2.1.other (Ne.symm HN4.out.2.2.1) _⟩ (fun hHeld => ?_)
                clear hK K
                try simp only [put_laws]
                refine wpAnyH_ready (rs := [3]) (by kernel_rfl) (by simp) ?_
                refine AllReadyH.cons rfl (fun K hK => ?_) AllReadyH.nil
                refine step31 rfl (.tmp 7) (.tmp 80) rfl _ y q2 rfl rfl _ (HD.out.2.2.2.2.2.2.other H5.out.1.ne _) ?_
                refine hK.out _ _ ⟨(HD.out.2.1.other (Ne.symm HN4.out.1) _).other (Ne.symm HN4.out.2.1) _, (HD.out.2.2.1.other (Ne.symm HN4.out.2.2.1) _).other (Ne.symm HN4.out.2.2.2) _⟩ (fun hHeld => ?_)
                clear hK K
                try simp only [put_laws]
                refine wpAnyH_done (by kernel_rfl) ?_ _
                obtain ⟨w9, hw9⟩ : ∃ w9, w9 = (wd.setRow b5 (sA y q1)).setRow b7 (sA y q2) := ⟨_, rfl⟩
                have H9 : Hid (D2 w w9 b5 b7 y q1 q2 ∧ Cw R ((m : Int) + 1) y ∧ y.cf.c + y.cf.g ≤ R) := Lib.hid (by
                  rw [hw9]
                  exact ⟨ H5.out.1.put HD.out.1 HD.out.2.2.2.1 HD.out.2.2.2.2.1 HF.out.1 HF.out.2.1 HF.out.2.2.2.1 HF.out.2.2.2.2.1, HF.out.2.2.2.2.2⟩)
                have HW9 := Lib.hid hw9
                rw [← HW9.out]
                clear hHeld hw9 HD HF H5 HN4 HW9
                obtain ⟨ct, hct⟩ : ∃ t, t = y.ct := ⟨_, rfl⟩
                have HCT := Lib.hid hct.symm
                have hsay := cw_says H9.out.2.1
                have hzz := H9.out.2.1.co.z
                unfold dn at hsay
                rw [← hct] at hsay hzz
                clear hct
                obtain ⟨hi, mi, ra, lo, pr, ev, fo, cl, en, st⟩ := ct
                dsimp only at hsay hzz
                obtain ⟨y1, y2, y3, y4, y5, y6, y7, y8, y9⟩ := hsay
                obtain ⟨z1, z2, z3, z4, z5, z6, z7, z8, z9⟩ := hzz
                have HCO := Lib.hid H9.out.2
                have HRB : Hid (0 ≤ R ∧ R ≤ 768) := Lib.hid (by omega)
                have hm150 : hi + mi ≤ 150 := by omega
                have hmn : hi + mi ≤ (n : Int) := by omega
                obtain ⟨R2, hR2⟩ : ∃ z, z = R := ⟨_, rfl⟩
                have HR2 := Lib.hid hR2
                have hRb : 0 ≤ R2 ∧ R2 ≤ 768 := by rw [hR2]; exact HRB.out
                rw [← hR2] at y8
                rw [← hR2]
                clear hR2
                obtain ⟨hRa, hRc⟩ := hRb
                have hd1 : 0 ≤ cl + lo + en + fo + ev := by omega
                have hd2 : cl + lo + en + fo + ev ≤ 600 := by omega
                have hp1 : 0 ≤ (cl + lo + en + fo + ev) * R2 := Int.mul_nonneg hd1 hRa
                have hp2 : (cl + lo + en + fo + ev) * R2 ≤ 600 * 768 := Int.mul_le_mul hd2 hRc hRa (by decide)
                have hwp : IntKind.u64.wrap ((cl + lo + en + fo + ev) * R2) = (cl + lo + en + fo + ev) * R2 := IntWalk.u64_in _ (by omega)
                have hst1 : st ≤ 460800 := by omega
                have g0 : decide (hi < cl) = false := decide_eq_false (by omega)
                have g1 : decide (mi < ev) = false := decide_eq_false (by omega)
                have g2 : decide (hi + mi < ra) = false := decide_eq_false (by omega)
                have g3 : decide (ra < lo) = false := decide_eq_false (by omega)
                have g5 : decide (ev < fo) = false := decide_eq_false (by omega)
                have g6 : decide (hi + mi < en) = false := decide_eq_false (by omega)
                have g7 : decide (4 * (hi + mi) < cl + lo + en + fo + ev) = false := decide_eq_false (by omega)
                have g8 : decide ((cl + lo + en + fo + ev) * R2 < st) = false := decide_eq_false (by omega)
                have g9 : decide ((n : Int) < hi + mi) = false := decide_eq_false (by omega)
                clear hp1 hp2 y7 y8 y9
                obtain ⟨w13, hw13⟩ : ∃ w, w = w9.alloc (.cells (ctA ⟨hi, mi, ra, lo, pr, ev, fo, cl, en, st⟩) 29) := ⟨_, rfl⟩
                obtain ⟨g13, hg13⟩ : ∃ b, b = w9.heap.size := ⟨_, rfl⟩
                have hgg := heap_alloc_new w9 (.cells (ctA ⟨hi, mi, ra, lo, pr, ev, fo, cl, en, st⟩) 29)
                rw [← hw13, ← hg13] at hgg
                have hb9 : Below w9.heap.size w9 w13 := by rw [hw13]; exact alloc_below _ _
                have H13 : Hid (D2 w w13 b5 b7 y q1 q2) := Lib.hid (H9.out.1.keep hb9)
                have j0 : w13.cell? ⟨g13, 0, none⟩ = some (.int .u64 hi) := by rw [cell_of_head hgg]; rfl
                have j1 : w13.cell? ⟨g13, 1, none⟩ = some (.int .u64 mi) := by rw [cell_of_head hgg]; rfl
                have j2 : w13.cell? ⟨g13, 2, none⟩ = some (.int .u64 ra) := by rw [cell_of_head hgg]; rfl
                have j3 : w13.cell? ⟨g13, 3, none⟩ = some (.int .u64 lo) := by rw [cell_of_head hgg]; rfl
                have j4 : w13.cell? ⟨g13, 4, none⟩ = some (.int .u64 pr) := by rw [cell_of_head hgg]; rfl
                have j5 : w13.cell? ⟨g13, 5, none⟩ = some (.int .u64 ev) := by rw [cell_of_head hgg]; rfl
                have j7 : w13.cell? ⟨g13, 7, none⟩ = some (.int .u64 cl) := by rw [cell_of_head hgg]; rfl
                have j8 : w13.cell? ⟨g13, 8, none⟩ = some (.int .u64 en) := by rw [cell_of_head hgg]; rfl
                have j9 : w13.cell? ⟨g13, 9, none⟩ = some (.int .u64 st) := by rw [cell_of_head hgg]; rfl
                have j6 : w13.cell? ⟨g13, 6, none⟩ = some (.int .u64 fo) := by rw [cell_of_head hgg]; rfl
                have HW13 := Lib.hid (And.intro hw13 hg13)
                clear hw13 hg13 hgg hb9
                go_wp2_with (first | fail | refine ld29 rfl (.tmp 81) rfl b5 rfl y q1 H9.out.1.one.box ⟨hi, mi, ra, lo, pr, ev, fo, cl, en, st⟩ HCT.out ?_ | (refine st29n rfl (.tmp 14) (.tmp 82) rfl ⟨hi, mi, ra, lo, pr, ev, fo, cl, en, st⟩ rfl rfl _ rfl ?_; rw [← HW13.out.1, ← HW13.out.2]))
                go_round
                case rel => exact ⟨m + 1, y, q1, q2, R2, by omega, by go_num, by go_num, Lib.hid ⟨H13.out, by rw [HR2.out]; exact HCO.out.1, by rw [HR2.out]; exact HCO.out.2, hRa, hRc⟩⟩
                case measure => simp only [intOf]; omega
end Go.Proofs.Ytejcahkkpednfaa
