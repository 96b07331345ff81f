/-
  Law StackWork: the walk.
-/
import Derived.Test.YtifenpmkbnohhaaG21
namespace Go.Proofs.Ytifenpmkbnohhaa
open Go.RowKit
open Go.Proofs.StackM
set_option linter.unusedVariables false
/-- one state in two boxes -/
structure D2 (w0 w : World) (b5 b7 : Nat) (s : St) (r1 r2 : R3) : Prop where
  one : BS w0 w b5 s r1
  two : BS w0 w b7 s r2
  a1 : Ap b5 r2
  a2 : Ap b7 r1
  ne : b5 ≠ b7
  rg : Rg s
  kw : Kw s
theorem D2.keep {w0 w w' : World} {b5 b7 : Nat} {s : St} {r1 r2 : R3} (h : D2 w0 w b5 b7 s r1 r2) (hb : Below w.heap.size w w') : D2 w0 w' b5 b7 s r1 r2 := ⟨h.one.keep hb, h.two.keep hb, h.a1, h.a2, h.ne, h.rg, h.kw⟩
theorem D2.put {w0 w w1 : World} {b5 b7 : Nat} {s y : St} {r1 r2 q1 q2 : R3} (h : D2 w0 w b5 b7 s r1 r2) (hb : Below w.heap.size w w1) (h1 : SR w1 y q1) (h2 : SR w1 y q2) (f1 : Frm w.heap.size r1 q1) (f2 : Frm w.heap.size r2 q2) (hg : Rg y) (hk : Kw y) :
    D2 w0 ((w1.setRow b5 (sA y q1)).setRow b7 (sA y q2)) b5 b7 y q1 q2 := by
  have e51 : Ap b5 q1 := h.one.ap.frm f1 h.one.box.lt
  have e52 : Ap b5 q2 := h.a1.frm f2 h.one.box.lt
  have e71 : Ap b7 q1 := h.a2.frm f1 h.two.box.lt
  have e72 : Ap b7 q2 := h.two.ap.frm f2 h.two.box.lt
  have k5 := h.one.box.kept hb h.one.box.lt
  have k7 := h.two.box.kept hb h.two.box.lt
  have hbel := below_setRow (below_setRow (h.one.bel.trans (hb.mono h.one.bel.size)) h.one.lo (cs := sA y q1)) h.two.lo (cs := sA y q2)
  exact ⟨⟨(k5.rowSet (sA_len _ _)).other (Ne.symm h.ne) _, (h1.apRow e51).apRow e71, e51, hbel, h.one.lo⟩, ⟨(k7.other h.ne _).rowSet (sA_len _ _), (h2.apRow e52).apRow e72, e72, hbel, h.two.lo⟩, e52, e71, h.ne, hg, hk⟩
abbrev ctA (t : Ct) : Array Value := #[.int .u64 t.hi, .int .u64 t.mi, .int .u64 t.ra, .int .u64 t.lo, .int .u64 t.pr, .int .u64 t.ev, .int .u64 t.fo, .int .u64 t.cl, .int .u64 t.en, .int .u64 t.st]
theorem info29 : (Try.prog.info? 29).map (·.size) = some 10 := by kernel_rfl
theorem ld29 {ops : Array Oper} {rest : List Oper} {o : Oper} {a : Act} {w : World} {Q : Exit → Act → World → Prop} (hgd : o.guard = none) (x : Operand) (ho : o.op = .load 29 x) (B : Nat) (hx : a.eval x = .pointer (some ⟨B, 10, none⟩)) (s : St) (r : R3) (h : Box w B (sA s r)) (t : Ct) (he : s.ct = t)
    (hK : wpList Try.prog ops Q rest (a.put o.dst (.agg (ctA t))) w) : wpList Try.prog ops Q (o :: rest) a w := by
  subst he
  exact wpList_load_mid hgd 29 x ho B 10 hx (ctA s.ct).toList _ (fun j v hv => by
    have hj : j < 10 := by have := (List.getElem?_eq_some_iff.1 hv).1; simpa using this
    rw [cell_of_row (w := w) B (10 + j) _ 31 (0, 0) h.1, ← hv]
    rcases j with _ | _ | _ | _ | _ | _ | _ | _ | _ | _ | j
    · rfl
    · rfl
    · rfl
    · rfl
    · rfl
    · rfl
    · rfl
    · rfl
    · rfl
    · rfl
    · omega) Try.underlying29 rfl (by rw [info29]; rfl) hK
theorem st29n {ops : Array Oper} {rest : List Oper} {o : Oper} {a : Act} {w : World} {Q : Exit → Act → World → Prop} (hgd : o.guard = none) (x y : Operand) (ho : o.op = .store 29 x y) (t : Ct) (hx : a.eval x = .pointer (some ⟨w.heap.size, 0, none⟩)) (hy : a.eval y = .agg (ctA t)) (old : Array Value) (hold : old.size = 10)
    (hK : wpList Try.prog ops Q rest a (w.alloc (.cells (ctA t) 29))) (hd : o.dst = none := by rfl) : wpList Try.prog ops Q (o :: rest) a (w.alloc (.cells old 29)) :=
  wpList_store_row hgd 29 x y ho w.heap.size (ctA t) hx hy 29 old (by show (w.heap.push _)[w.heap.size]? = _; simp) info29 (by rw [hold]; rfl) (by simp [Value.oneCell']) (by rw [World.setRow_alloc_new, hd]; exact hK)
theorem cost_stp {s : St} {n : Int} (h0 : 0 ≤ n) (hn : n < 1000) (h : Cost s n) (hr : Rg s) (a : Ac) : Cost (stp s a) (n + 1) := by
  unfold stp
  split
  · split
    · exact cost_resize (by omega) hr h _
    · exact h.mono (by omega)
  · split
    · exact cost_drop (by omega) h _
    · split
      · exact cost_touch (by omega) hr h _
      · exact cost_admit (by omega) hr h _
set_option maxHeartbeats 2000000 in
set_option maxRecDepth 100000 in
theorem stackWork_law (c : Cf) (A : Option Addr) (cap : Nat) (l : List Ac) (w : World) (ha : ActsAt w A cap l) : Calls Try.prog 7 #[cV c, .slice A l.length cap] w fun e w' => e = .returned (.bool true) ∧ Below w.heap.size w w' := by
  obtain ⟨n, hn⟩ : ∃ n, n = l.length := ⟨_, rfl⟩
  rw [← hn]
  obtain ⟨w1, hw1⟩ : ∃ w1, w1 = w.alloc (.cells (cA c) 24) := ⟨_, rfl⟩
  obtain ⟨b, hbe⟩ : ∃ b, b = w.heap.size := ⟨_, rfl⟩
  have H1 : Hid (CB w1 b c ∧ Below w.heap.size w w1) := Lib.hid ⟨by rw [hw1, hbe]; exact heap_alloc_new w (.cells (cA c) 24), by rw [hw1]; exact alloc_below _ _⟩
  have HW := Lib.hid (And.intro hw1 hbe)
  have HA := Lib.hid ha
  have HN := Lib.hid hn
  have E9 : Hid (∀ V, Below w.heap.size w V → Calls Try.prog 9 #[] V fun e w' => e = .returned (.bool true) ∧ Below w.heap.size w w') := Lib.hid (fun V hV => (alive_at V).mono fun e w' ⟨h1, h2⟩ => ⟨h1, hV.trans (h2.mono hV.size)⟩)
  clear hw1 hbe ha hn
  go_enter Try.func7, Try.ntmps7
  by_cases h150 : 150 < n
  case pos =>
    go_wp2_with (first | fail | rw [← HW.out.1, ← HW.out.2])
    refine (E9.out w1 H1.out.2).mono ?_
    rintro e w3 ⟨rfl, hb3⟩
    go_wp2_with fail
    go_ret
    exact ⟨rfl, hb3⟩
  case neg =>
    have hd : decide ((150 : Int) < (n : Int)) = false := decide_eq_false (by omega)
    have i0 : w1.cell? ⟨b, 0, none⟩ = some (.int .i64 c.p) := by rw [cell_of_head H1.out.1]; rfl
    have i1 : w1.cell? ⟨b, 1, none⟩ = some (.int .i64 c.c) := by rw [cell_of_head H1.out.1]; rfl
    have i2 : w1.cell? ⟨b, 2, none⟩ = some (.int .i64 c.q) := by rw [cell_of_head H1.out.1]; rfl
    have i3 : w1.cell? ⟨b, 3, none⟩ = some (.int .i64 c.g) := by rw [cell_of_head H1.out.1]; rfl
    go_wp2_with (first | fail | rw [← HW.out.1, ← HW.out.2])
    clear i0 i1 i2 i3
    by_cases hc : Cl c
    case neg =>
      refine Calls.mono (lawMay_cl c false ⟨(fun h => nomatch h), fun h => (hc h).elim⟩ w1) ?_
      rintro e w2 ⟨rfl, hb2⟩
      have hb := H1.out.2.trans (hb2.mono H1.out.2.size)
      clear hb2 hd
      go_wp2_with fail
      refine (E9.out w2 hb).mono ?_
      rintro e w3 ⟨rfl, hb3⟩
      go_wp2_with fail
      go_ret
      exact ⟨rfl, hb3⟩
    case pos =>
      refine Calls.mono (lawMay_cl c true ⟨fun _ => hc, fun _ => rfl⟩ w1) ?_
      rintro e w2 ⟨rfl, hb2⟩
      have H2 : Hid (CB w2 b c ∧ Below w.heap.size w w2) := Lib.hid ⟨H1.out.1.kept hb2 H1.out.1.lt, H1.out.2.trans (hb2.mono H1.out.2.size)⟩
      have HC := Lib.hid hc
      clear hb2 hd H1 HW hc
      go_wp2_with (first | fail | refine CB.load rfl (.tmp 2) rfl _ rfl c H2.out.1 ?_)
      have C19 := pnew_at c w2
      simp only [if_pos HC.out] at C19
      refine Calls.mono C19 ?_
      rintro e w3 ⟨⟨r3, rfl, hr3, hf3⟩, hb3⟩
      obtain ⟨w4, hw4⟩ : ∃ w4, w4 = w3.alloc (.cells (sA (newS c) r3) 31) := ⟨_, rfl⟩
      obtain ⟨b5, hb5⟩ : ∃ b, b = w3.heap.size := ⟨_, rfl⟩
      have hb34 : Below w3.heap.size w3 w4 := by rw [hw4]; exact alloc_below _ _
      have hb23 := H2.out.2.trans (hb3.mono H2.out.2.size)
      have H4 : Hid (CB w4 b c ∧ BS w w4 b5 (newS c) r3) := Lib.hid ⟨(H2.out.1.kept hb3 H2.out.1.lt).kept hb34 (Nat.lt_of_lt_of_le H2.out.1.lt hb3.size), by rw [hw4, hb5]; exact BS.new hr3 hb23⟩
      have HW4 := Lib.hid (And.intro hw4 hb5)
      clear hw4 hb5 hb34 hb23 hb3 hf3 hr3 H2 C19
      go_wp2_with (first | fail | (refine st31n rfl (.tmp 5) (.tmp 26) rfl (newS c) r3 rfl rfl _ rfl ?_; rw [← HW4.out.1, ← HW4.out.2]) | refine CB.load rfl (.tmp 2) rfl _ rfl c H4.out.1 ?_)
      refine Calls.mono (new_at0 c w4) ?_
      rintro e w6 ⟨rfl, hb6⟩
      obtain ⟨w7, hw7⟩ : ∃ w7, w7 = w6.alloc (.cells (sA (newS c) R0) 31) := ⟨_, rfl⟩
      obtain ⟨b7, hb7⟩ : ∃ b, b = w6.heap.size := ⟨_, rfl⟩
      have hb67 : Below w6.heap.size w6 w7 := by rw [hw7]; exact alloc_below _ _
      have H7 : Hid (D2 w w7 b5 b7 (newS c) r3 R0) := Lib.hid (by
        have k6 := H4.out.2.keep hb6
        have hlt := k6.box.lt
        rw [hw7, hb7]
        exact ⟨k6.keep (alloc_below _ _), BS.new (by have := sr_zero w6; exact ⟨this.pg, this.qu, this.gh⟩) k6.bel, ⟨fun a e => (by cases e), fun a e => (by cases e), fun a e => (by cases e)⟩, k6.rows.old.ap (Nat.le_refl _), by omega, new_rg HC.out, kw_new c⟩)
      have HW7 := Lib.hid (And.intro hw7 hb7)
      clear hw7 hb7 hb67 hb6 H4 HW4
      go_wp2_with (first | fail | (refine st31n rfl (.tmp 7) (.tmp 29) rfl (newS c) R0 rfl rfl _ rfl ?_; rw [← HW7.out.1, ← HW7.out.2]) | refine ld31g rfl (.tmp 5) rfl _ rfl _ H7.out.one.box ?_ | refine ld31g rfl (.tmp 7) rfl _ rfl _ H7.out.two.box ?_)
      refine Calls.mono (state_same (newS c) r3 R0 (lim_new c) w7 H7.out.one.rows H7.out.two.rows) ?_
      rintro e w8 ⟨rfl, hb8⟩
      have H8 : Hid (D2 w w8 b5 b7 (newS c) r3 R0 ∧ Cost (newS c) 0) := Lib.hid ⟨H7.out.keep hb8, ⟨⟨Int.le_refl _, Int.le_refl _, Int.le_refl _, Int.le_refl _, Int.le_refl _, Int.le_refl _, Int.le_refl _⟩, Int.le_refl _, Int.le_refl _, Int.le_refl _, Int.le_refl _, Int.le_refl _, Int.le_refl _⟩⟩
      clear hb8 H7 HW7
      go_wp2_with fail
      go_loopw [40] (fun i wr => ∃ (m : Nat) (s : St) (r1 r2 : R3), m ≤ n ∧ i = .int .i64 (m : Int) ∧ Hid (D2 w wr b5 b7 s r1 r2 ∧ Cost s (m : Int))) (fun i _ => n - (intOf i).toNat)
      case atStart => exact ⟨0, newS c, r3, R0, by omega, by go_num, H8⟩
      case round =>
        clear H8
        obtain ⟨m, s, r1, r2, hm, rfl, HX⟩ := hrel
        by_cases hlt : m < n
        case neg =>
          go_wp2_with fail
          refine (E9.out _ HX.out.1.one.bel).mono ?_
          rintro e w4 ⟨rfl, hb4⟩
          go_wp2_with fail
          go_ret
          exact ⟨rfl, hb4⟩
        case pos =>
          have hml : m < l.length := by have := HN.out; omega
          obtain ⟨ab, off, rfl, c0, c1, c2, c3, c4, c5⟩ := acts_get HA.out HX.out.1.one.bel hml
          obtain ⟨a, hae⟩ : ∃ a, a = l[m] := ⟨_, rfl⟩
          have HKY : Hid (K64 a.ky) := Lib.hid (by rw [hae]; exact HA.out.1 _ (List.getElem_mem hml))
          rw [← hae] at c0 c1 c2 c3 c4 c5
          clear hae
          obtain ⟨kd, ky, ⟨p, cc, q, gg⟩⟩ := a
          dsimp only at c0 c1 c2 c3 c4 c5 HKY
          have b2 := alloc_below wr (.cells (acL kd ky p cc q gg) 45)
          have hg := heap_alloc_new wr (.cells (acL kd ky p cc q gg) 45)
          obtain ⟨w2', hw2⟩ : ∃ w2, w2 = wr.alloc (.cells (acL kd ky p cc q gg) 45) := ⟨_, rfl⟩
          obtain ⟨g, hge⟩ : ∃ g, g = wr.heap.size := ⟨_, rfl⟩
          rw [← hw2, ← hge] at hg
          rw [← hw2] at b2
          have H5 := Lib.hid (And.intro (HX.out.1.keep b2) HX.out.2)
          have HW := Lib.hid (And.intro hw2 hge)
          have i0 : w2'.cell? ⟨g, 0, none⟩ = some (.int .i64 kd) := by rw [cell_of_head hg]; rfl
          have i1 : w2'.cell? ⟨g, 1, none⟩ = some (.int .u64 ky) := by rw [cell_of_head hg]; rfl
          have i2 : w2'.cell? ⟨g, 2, none⟩ = some (.int .i64 p) := by rw [cell_of_head hg]; rfl
          have i3 : w2'.cell? ⟨g, 3, none⟩ = some (.int .i64 cc) := by rw [cell_of_head hg]; rfl
          have i4 : w2'.cell? ⟨g, 4, none⟩ = some (.int .i64 q) := by rw [cell_of_head hg]; rfl
          have i5 : w2'.cell? ⟨g, 5, none⟩ = some (.int .i64 gg) := by rw [cell_of_head hg]; rfl
          clear b2 hg hw2 hge HX
          go_wp2_with (first | fail | (refine st45n rfl (.tmp 9) (.tmp 43) rfl _ _ _ _ _ _ rfl rfl _ rfl ?_; rw [← HW.out.1, ← HW.out.2]) | refine ld31 rfl (.tmp 5) rfl _ rfl _ H5.out.1.one.box ?_ | refine ld31 rfl (.tmp 7) rfl _ rfl _ H5.out.1.two.box ?_)
          refine (step_at s r1 r2 kd ky p cc q gg H5.out.1.rg H5.out.1.kw w2' H5.out.1.one.rows H5.out.1.two.rows).mono ?_
          rintro e w3 ⟨q1, q2, rfl, hq1, hq2, f1, f2, hb3⟩
          have hct := cost_stp (n := (m : Int)) (by omega) (by omega) H5.out.2 H5.out.1.rg ⟨kd, ky, ⟨p, cc, q, gg⟩⟩
          have hyr := stp_rg H5.out.1.rg ⟨kd, ky, ⟨p, cc, q, gg⟩⟩
          have hyk := stp_kw H5.out.1.kw ⟨kd, ky, ⟨p, cc, q, gg⟩⟩ HKY.out
          obtain ⟨y, hy⟩ : ∃ y, y = stp s ⟨kd, ky, ⟨p, cc, q, gg⟩⟩ := ⟨_, rfl⟩
          rw [← hy] at hq1 hq2 hct hyr hyk
          rw [← hy]
          obtain ⟨wz, hwz⟩ : ∃ wz, wz = (w3.alloc (.cells (sA S0 R0) 31)).alloc (.cells (sA S0 R0) 31) := ⟨_, rfl⟩
          obtain ⟨b10, hb10⟩ : ∃ b, b = w3.heap.size := ⟨_, rfl⟩
          obtain ⟨b11, hb11⟩ : ∃ b, b = w3.heap.size + 1 := ⟨_, rfl⟩
          have ka := alloc_below w3 (.cells (sA S0 R0) 31)
          have kb := alloc_below (w3.alloc (.cells (sA S0 R0) 31)) (.cells (sA S0 R0) 31)
          have hb3z : Below w3.heap.size w3 wz := by rw [hwz]; exact ka.trans (kb.mono ka.size)
          have z10 : Box wz b10 (sA S0 R0) := by rw [hwz, hb10]; exact (box_alloc w3 _ (sA_len _ _)).kept kb (by simp)
          have z11 : Box wz b11 (sA S0 R0) := by rw [hwz, hb11]; have := box_alloc (w3.alloc (.cells (sA S0 R0) 31)) (sA S0 R0) (sA_len _ _); simpa using this
          have hZ : (w3.alloc (.cells #[.int .i64 0, .int .i64 0, .int .i64 0, .int .i64 0, .int .i64 0, .slice none 0 0, .slice none 0 0, .slice none 0 0, .int .i64 0, .int .i64 0, .int .u64 0, .int .u64 0, .int .u64 0, .int .u64 0, .int .u64 0, .int .u64 0, .int .u64 0, .int .u64 0, .int .u64 0, .int .u64 0] 31)).alloc (.cells #[.int .i64 0, .int .i64 0, .int .i64 0, .int .i64 0, .int .i64 0, .slice none 0 0, .slice none 0 0, .slice none 0 0, .int .i64 0, .int .i64 0, .int .u64 0, .int .u64 0, .int .u64 0, .int .u64 0, .int .u64 0, .int .u64 0, .int .u64 0, .int .u64 0, .int .u64 0, .int .u64 0] 31) = wz := hwz.symm
          obtain ⟨w4, hw4⟩ : ∃ w4, w4 = (wz.setRow b10 (sA y q1)).setRow b11 (sA y q2) := ⟨_, rfl⟩
          have hne : b10 ≠ b11 := by omega
          have hlo : w2'.heap.size ≤ b10 ∧ w2'.heap.size ≤ b11 := by have := hb3.size; omega
          have a10 : Ap b10 q1 ∧ Ap b10 q2 ∧ Ap b11 q1 ∧ Ap b11 q2 := ⟨hq1.old.ap (by omega), hq2.old.ap (by omega), hq1.old.ap (by omega), hq2.old.ap (by omega)⟩
          have hb2z := hb3.trans (hb3z.mono hb3.size)
          have H6 : Hid (Below w2'.heap.size w2' w4 ∧ Box w4 b10 (sA y q1) ∧ Box w4 b11 (sA y q2) ∧ SR w4 y q1 ∧ SR w4 y q2) := Lib.hid (by
            rw [hw4]
            exact ⟨below_setRow (below_setRow hb2z hlo.1) hlo.2, (z10.rowSet (sA_len _ _)).other (Ne.symm hne) _, (z11.other hne _).rowSet (sA_len _ _), ((hq1.kept hb3z).apRow a10.1).apRow a10.2.2.1, ((hq2.kept hb3z).apRow a10.2.1).apRow a10.2.2.2⟩)
          have HZ := Lib.hid hZ
          have HZB := Lib.hid (And.intro z10 (z11.other hne (sA y q1)))
          have HW4 := Lib.hid hw4
          have HF := Lib.hid (And.intro f1 (And.intro f2 (And.intro hlo (And.intro hyr (And.intro hyk hct)))))
          have e10 : (.pointer (some ⟨w3.heap.size, 0, none⟩) : Value) = .pointer (some ⟨b10, 0, none⟩) := by rw [hb10]
          have e11 : (.pointer (some ⟨w3.heap.size + 1, 0, none⟩) : Value) = .pointer (some ⟨b11, 0, none⟩) := by rw [hb11]
          have HE := Lib.hid (And.intro e10 e11)
          clear hwz hb10 hb11 ka kb hb3z z10 z11 hZ hw4 hne hlo a10 hb2z hq1 hq2 f1 f2 hb3 hct hyr hyk hy c0 c1 c2 c3 c4 c5 i0 i1 i2 i3 i4 i5 HW HKY e10 e11
          go_wp2_with (first | fail | (rw [HZ.out, HE.out.1, HE.out.2]; refine st31 rfl (.tmp 10) (.tmp 49) rfl _ y q1 rfl rfl _ HZB.out.1 ?_) | (refine st31 rfl (.tmp 11) (.tmp 50) rfl _ y q2 rfl rfl _ HZB.out.2 ?_; rw [← HW4.out]))
          clear HZ HZB HW4 HE
          have hbd : Below w4.heap.size w4 w4.drew := below_drew (Below.refl _ _) 1
          have HD : Hid (Below w2'.heap.size w2' w4.drew ∧ Box w4.drew b10 (sA y q1) ∧ Box w4.drew b11 (sA y q2) ∧ SR w4.drew y q1 ∧ SR w4.drew y q2 ∧ Box w4.drew b5 (sA s r1) ∧ Box w4.drew b7 (sA s r2)) := Lib.hid (by
            have h0 := H6.out.1.trans (hbd.mono H6.out.1.size)
            exact ⟨h0, H6.out.2.1.kept hbd H6.out.2.1.lt, H6.out.2.2.1.kept hbd H6.out.2.2.1.lt, H6.out.2.2.2.1.kept hbd, H6.out.2.2.2.2.kept hbd, H5.out.1.one.box.kept h0 H5.out.1.one.box.lt, H5.out.1.two.box.kept h0 H5.out.1.two.box.lt⟩)
          have hn4 : b10 ≠ b5 ∧ b10 ≠ b7 ∧ b11 ≠ b5 ∧ b11 ≠ b7 := by
            have h1 := H5.out.1.one.box.lt
            have h2 := H5.out.1.two.box.lt
            have h3 := HF.out.2.2.1
            omega
          have HN4 := Lib.hid hn4
          clear hbd H6 hn4
          refine wp_region_held_drew (S := fun V => Box V b10 (sA y q1) ∧ Box V b11 (sA y q2)) (by kernel_rfl) ⟨HD.out.2.1, HD.out.2.2.1⟩ (fun hHeld => ?_)
          generalize World.drew w4 = wd at hHeld HD ⊢
          refine wpAnyH_take (i := 0) (v := ?tval401) (by simp only [get_laws]; rfl) (by kernel_rfl) (by kernel_rfl) (by kernel_rfl) (by intro _ _ _ h; exact h) (Or.inl ⟨by rfl, ?teq401⟩) (by assumption) ?trest401
          case teq401 => (intro w0 q; refine exec31 (.tmp 10) ?_ ?_ q.1 <;> rfl)
          try simp only [put_laws]
          refine wpAnyH_take (i := 1) (v := ?tval402) (by simp only [get_laws]; rfl) (by kernel_rfl) (by kernel_rfl) (by kernel_rfl) (by intro _ _ _ h; exact h) (Or.inl ⟨by rfl, ?teq402⟩) (by assumption) ?trest402
          case teq402 => (intro w0 q; refine exec31 (.tmp 11) ?_ ?_ q.2 <;> rfl)
          try simp only [put_laws]
          refine wpAnyH_ready (rs := [2]) (by kernel_rfl) (by simp) ?_
          refine AllReadyH.cons rfl (fun K hK => ?_) AllReadyH.nil
          refine step31 rfl (.tmp 5) (.tmp 54) rfl _ y q1 rfl rfl _ HD.out.2.2.2.2.2.1 ?_
          refine hK.out _ _ ⟨HD.out.2.1.other (Ne.symm HN4.out.1) _, HD.out.2.2.1.other (Ne.symm HN4.out.2.2.1) _⟩ (fun hHeld => ?_)
          clear hK K
          try simp only [put_laws]
          refine wpAnyH_ready (rs := [3]) (by kernel_rfl) (by simp) ?_
          refine AllReadyH.cons rfl (fun K hK => ?_) AllReadyH.nil
          refine step31 rfl (.tmp 7) (.tmp 55) rfl _ y q2 rfl rfl _ (HD.out.2.2.2.2.2.2.other H5.out.1.ne _) ?_
          refine hK.out _ _ ⟨(HD.out.2.1.other (Ne.symm HN4.out.1) _).other (Ne.symm HN4.out.2.1) _, (HD.out.2.2.1.other (Ne.symm HN4.out.2.2.1) _).other (Ne.symm HN4.out.2.2.2) _⟩ (fun hHeld => ?_)
          clear hK K
          try simp only [put_laws]
          refine wpAnyH_done (by kernel_rfl) ?_ _
          obtain ⟨w9, hw9⟩ : ∃ w9, w9 = (wd.setRow b5 (sA y q1)).setRow b7 (sA y q2) := ⟨_, rfl⟩
          have H9 : Hid (D2 w w9 b5 b7 y q1 q2 ∧ Cost y ((m : Int) + 1)) := Lib.hid (by
            rw [hw9]
            exact ⟨ H5.out.1.put HD.out.1 HD.out.2.2.2.1 HD.out.2.2.2.2.1 HF.out.1 HF.out.2.1 HF.out.2.2.2.1 HF.out.2.2.2.2.1, HF.out.2.2.2.2.2⟩)
          have HW9 := Lib.hid hw9
          rw [← HW9.out]
          clear hHeld hw9 HD HF H5 HN4 HW9
          obtain ⟨ct, hct⟩ : ∃ t, t = y.ct := ⟨_, rfl⟩
          have HCT := Lib.hid hct.symm
          obtain ⟨⟨z1, z2, z3, z4, z5, z6, z7⟩, chm, cpr, cra, clo, cev, cfo⟩ := H9.out.2
          rw [← hct] at z1 z2 z3 z4 z5 z6 z7 chm cpr cra clo cev cfo
          clear hct
          obtain ⟨hi, mi, ra, lo, pr, ev, fo, cl, en, st⟩ := ct
          dsimp only at z1 z2 z3 z4 z5 z6 z7 chm cpr cra clo cev cfo
          have hH : 0 ≤ (H y : Int) := Int.natCast_nonneg _
          have g1 : decide (hi + mi < pr) = false := decide_eq_false (by omega)
          have g2 : decide (hi + mi < ra) = false := decide_eq_false (by omega)
          have g3 : decide (ra < lo) = false := decide_eq_false (by omega)
          have g4 : decide (mi < ev) = false := decide_eq_false (by omega)
          have g5 : decide (ev < fo) = false := decide_eq_false (by omega)
          have g6 : decide ((n : Int) < hi + mi) = false := decide_eq_false (by omega)
          have z8 : hi + mi ≤ 150 := by omega
          have z9 : ra ≤ 150 ∧ lo ≤ 150 ∧ pr ≤ 150 ∧ ev ≤ 150 ∧ fo ≤ 150 := by omega
          have HCO := Lib.hid H9.out.2
          clear chm cpr cra clo cev cfo hH
          obtain ⟨w13, hw13⟩ : ∃ w, w = w9.alloc (.cells (ctA ⟨hi, mi, ra, lo, pr, ev, fo, cl, en, st⟩) 29) := ⟨_, rfl⟩
          obtain ⟨g13, hg13⟩ : ∃ b, b = w9.heap.size := ⟨_, rfl⟩
          have hgg := heap_alloc_new w9 (.cells (ctA ⟨hi, mi, ra, lo, pr, ev, fo, cl, en, st⟩) 29)
          rw [← hw13, ← hg13] at hgg
          have hb9 : Below w9.heap.size w9 w13 := by rw [hw13]; exact alloc_below _ _
          have H13 : Hid (D2 w w13 b5 b7 y q1 q2) := Lib.hid (H9.out.1.keep hb9)
          have j0 : w13.cell? ⟨g13, 0, none⟩ = some (.int .u64 hi) := by rw [cell_of_head hgg]; rfl
          have j1 : w13.cell? ⟨g13, 1, none⟩ = some (.int .u64 mi) := by rw [cell_of_head hgg]; rfl
          have j2 : w13.cell? ⟨g13, 2, none⟩ = some (.int .u64 ra) := by rw [cell_of_head hgg]; rfl
          have j3 : w13.cell? ⟨g13, 3, none⟩ = some (.int .u64 lo) := by rw [cell_of_head hgg]; rfl
          have j4 : w13.cell? ⟨g13, 4, none⟩ = some (.int .u64 pr) := by rw [cell_of_head hgg]; rfl
          have j5 : w13.cell? ⟨g13, 5, none⟩ = some (.int .u64 ev) := by rw [cell_of_head hgg]; rfl
          have j6 : w13.cell? ⟨g13, 6, none⟩ = some (.int .u64 fo) := by rw [cell_of_head hgg]; rfl
          have HW13 := Lib.hid (And.intro hw13 hg13)
          clear hw13 hg13 hgg hb9
          go_wp2_with (first | fail | refine ld29 rfl (.tmp 56) rfl b5 rfl y q1 H9.out.1.one.box ⟨hi, mi, ra, lo, pr, ev, fo, cl, en, st⟩ HCT.out ?_ | (refine st29n rfl (.tmp 13) (.tmp 57) rfl ⟨hi, mi, ra, lo, pr, ev, fo, cl, en, st⟩ rfl rfl _ rfl ?_; rw [← HW13.out.1, ← HW13.out.2]))
          go_round
          case rel => exact ⟨m + 1, y, q1, q2, by omega, by go_num, Lib.hid ⟨H13.out, HCO.out⟩⟩
          case measure => simp only [intOf]; omega
end Go.Proofs.Ytifenpmkbnohhaa
