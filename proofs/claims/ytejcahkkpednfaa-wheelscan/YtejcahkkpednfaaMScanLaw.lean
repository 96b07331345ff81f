/-
  Law WheelScan: the walk.
-/
import Derived.Test.YtejcahkkpednfaaG28
namespace Go.Proofs.Ytejcahkkpednfaa
open Go.RowKit
open Go.Proofs.StackM (Pg Cf Ct St up many fnd fnd_at fnd_no)
open Go.Proofs.WheelM
set_option linter.unusedVariables false
/-- two states' boxes: the one that was handed in, the one that the scan goes on with -/
structure B2 (w0 w : World) (b b7 : Nat) (s : St) (r : R3) (x : St) (rx : R3) : Prop where
  one : BS w0 w b s r
  two : BS w0 w b7 x rx
  ap : Ap b7 r
  ne : b ≠ b7
theorem B2.keep {w0 w w' : World} {b b7 : Nat} {s x : St} {r rx : R3} (h : B2 w0 w b b7 s r x rx) (hb : Below w.heap.size w w') : B2 w0 w' b b7 s r x rx := ⟨h.one.keep hb, h.two.keep hb, h.ap, h.ne⟩
theorem BS.other {w0 w w1 : World} {b b7 : Nat} {s : St} {r : R3} (x : BS w0 w b s r) (hb : Below w.heap.size w w1) (hap : Ap b7 r) (hne : b ≠ b7) (hlo : w0.heap.size ≤ b7) (cs : Array Value) : BS w0 (w1.setRow b7 cs) b s r :=
  ⟨(x.box.kept hb x.box.lt).other (Ne.symm hne) _, (x.rows.kept hb).apRow hap, x.ap, below_setRow (x.bel.trans (hb.mono x.bel.size)) hlo, x.lo⟩
theorem B2.put {w0 w w1 : World} {b b7 : Nat} {s x y : St} {r rx ry : R3} (h : B2 w0 w b b7 s r x rx) (hb : Below w.heap.size w w1) (hr : SR w1 y ry) (hf : Frm w.heap.size rx ry) : B2 w0 (w1.setRow b7 (sA y ry)) b b7 s r y ry :=
  ⟨h.one.other hb h.ap h.ne h.two.lo _, h.two.put hb hr hf, h.ap, h.ne⟩
/-- what the scan leaves -/
structure Sc (s x : St) : Prop where
  rg : Rg x
  kw : Kw x
  cm : Cm x
  ra : x.ct.ra = s.ct.ra
  lo : x.ct.lo = s.ct.lo
  hot : ∀ k, HotW s k → HotW x k
theorem Sc.step {s x : St} (h : Sc s x) {k : Int} (hk : K64 k) (h0 : isW x k = 0) : Sc s (admitW x k) ∧ isW (admitW x k) k = 2 ∧ ¬ KptW x k := by
  obtain ⟨a1, a2, a3, a4, a5, a6, a7⟩ := scan_stepW h.rg h.cm h0
  exact ⟨⟨a2, kw_admit h.rg h.kw hk, a3, a5.trans h.ra, a6.trans h.lo, fun x hx => a7 x (h.hot x hx)⟩, a4, a1⟩
theorem hot_isW {s : St} (h : Rg s) {k : Int} (hh : HotW s k) : isW s k = 1 := by
  obtain ⟨p, hp, e1, e2⟩ := hh
  rw [← e1, isW_mem h.w.nk hp, e2]
theorem k64_wrap (z : Int) : K64 (IntKind.u64.wrap z) := by
  have h : IntKind.u64.wrap z = z % 18446744073709551616 := by simp [IntKind.wrap, IntKind.signed, IntKind.bits]
  rw [h]; unfold K64; omega
def cmb (p : Pg) : Bool := decide (p.kind = 2 → p.mark = false)
theorem cm_iff (s : St) : s.pg.all cmb = true ↔ Cm s := by
  rw [List.all_eq_true]
  unfold Cm cmb
  exact ⟨fun h p hp => of_decide_eq_true (h p hp), fun h p hp => decide_eq_true (h p hp)⟩
set_option maxHeartbeats 2000000 in
set_option maxRecDepth 100000 in
theorem calm_at (s : St) (r : R3) (hb : s.pg.length ≤ 100000) (w : World) (hr : SR w s r) : Calls Try.prog 23 #[sV s r] w fun e w' => e = .returned (.bool (s.pg.all cmb)) ∧ Below w.heap.size w w' := by
  have x := Fr.start1 hr
  obtain ⟨w1, hw1⟩ : ∃ w1, w1 = w.alloc (.cells (sA s r) 31) := ⟨_, rfl⟩
  rw [← hw1] at x
  have HW0 := Lib.hid hw1
  obtain ⟨rr, hrr⟩ : ∃ rr, rr = s.pg.all cmb := ⟨_, rfl⟩
  rw [← hrr]
  obtain ⟨n, hn⟩ : ∃ n, n = s.pg.length := ⟨_, rfl⟩
  have d5 := at5 x.box
  rw [← hn] at d5
  have HR := Lib.hid hrr
  have HN := Lib.hid hn
  have HX : Hid (∀ V, Below w1.heap.size w1 V → PRow V r.a1 r.c1 s.pg ∧ Below w.heap.size w V) := Lib.hid (fun V hV => ⟨(x.keep hV).rows.pg.row, (x.keep hV).bel⟩)
  have hn1 : n ≤ 100000 := by omega
  clear hrr hn hr x hw1 hb
  go_enter Try.func23, Try.ntmps23
  go_wp2_with (first | fail | rw [← HW0.out])
  go_loopw [4, 8] (fun _ i wr => ∃ m : Nat, m ≤ n ∧ i = .int .i64 (m : Int) ∧ Hid (Below w1.heap.size w1 wr) ∧ Hid (∀ j (h1 : j < m) (h2 : j < s.pg.length), cmb s.pg[j] = true)) (fun _ i _ => n - (intOf i).toNat)
  case atStart => exact ⟨0, by omega, by go_num, Lib.hid (Below.refl _ _), Lib.hid (fun j h1 => absurd h1 (by omega))⟩
  case round =>
    clear d5
    obtain ⟨m, hm, rfl, HB, HK⟩ := hrel
    by_cases hlt : m < n
    · have hml : m < s.pg.length := by have := HN.out; omega
      obtain ⟨b, off, hA, hc⟩ := (HX.out wr HB.out).1.at hml
      rw [hA]
      obtain ⟨c0, c1, c2, c3⟩ := hc m hml
      obtain ⟨p, hp⟩ : ∃ p, p = s.pg[m] := ⟨_, rfl⟩
      rw [← hp] at c0 c1 c2 c3
      have HY := Lib.hid hp
      obtain ⟨p0, p1, p2, p3⟩ := p
      dsimp only at c0 c1 c2 c3
      have b2 := alloc_below wr (.cells #[.int .u64 p0, .int .i64 p1, .bool p2, .bool p3] 58)
      have HB2 := Lib.hid (HB.out.trans (b2.mono HB.out.size))
      have hg := heap_alloc_new wr (.cells #[.int .u64 p0, .int .i64 p1, .bool p2, .bool p3] 58)
      obtain ⟨w2, hw2⟩ : ∃ w2, w2 = wr.alloc (.cells #[.int .u64 p0, .int .i64 p1, .bool p2, .bool p3] 58) := ⟨_, rfl⟩
      obtain ⟨g, hge⟩ : ∃ g, g = wr.heap.size := ⟨_, rfl⟩
      rw [← hw2, ← hge] at hg
      rw [← hw2] at HB2
      have i1 : w2.cell? ⟨g, 1, none⟩ = some (.int .i64 p1) := by rw [cell_of_head hg]; rfl
      have i3 : w2.cell? ⟨g, 3, none⟩ = some (.bool p3) := by rw [cell_of_head hg]; rfl
      have HW := Lib.hid (And.intro hw2 hge)
      clear hc hp b2 hg hw2 hge hA
      by_cases h2 : p1 = 2
      · subst h2
        cases p3
        · have hok : cmb ⟨p0, 2, p2, false⟩ = true := decide_eq_true (fun _ => rfl)
          have HO := Lib.hid hok
          clear hok
          go_wp2_with (first | fail | (refine st59n rfl (.tmp 4) (.tmp 11) rfl _ _ _ _ rfl rfl _ rfl ?_; rw [← HW.out.1, ← HW.out.2]))
          go_round
          case rel => exact ⟨m + 1, by omega, by go_num, HB2, Lib.hid (fun j h1 h2 => by
            rcases Nat.lt_succ_iff_lt_or_eq.1 h1 with h | rfl
            · exact HK.out j h h2
            · rw [← HY.out]; exact HO.out)⟩
          case measure => simp only [intOf]; omega
        · have HE : Hid (rr = false) := Lib.hid (by
            rw [HR.out, List.all_eq_false]
            exact ⟨s.pg[m], List.getElem_mem hml, by rw [← HY.out]; unfold cmb; simp⟩)
          go_wp2_with (first | fail | (refine st59n rfl (.tmp 4) (.tmp 11) rfl _ _ _ _ rfl rfl _ rfl ?_; rw [← HW.out.1, ← HW.out.2]))
          go_ret
          exact ⟨by rw [HE.out]; rfl, (HX.out _ HB2.out).2⟩
      · have h2' : (p1 == 2) = false := by simpa using h2
        have hok : cmb ⟨p0, p1, p2, p3⟩ = true := decide_eq_true (fun h => absurd h h2)
        have HO := Lib.hid hok
        clear hok h2
        go_wp2_with (first | fail | (refine st59n rfl (.tmp 4) (.tmp 11) rfl _ _ _ _ rfl rfl _ rfl ?_; rw [← HW.out.1, ← HW.out.2]))
        go_round
        case rel => exact ⟨m + 1, by omega, by go_num, HB2, Lib.hid (fun j h1 h2 => by
          rcases Nat.lt_succ_iff_lt_or_eq.1 h1 with h | rfl
          · exact HK.out j h h2
          · rw [← HY.out]; exact HO.out)⟩
        case measure => simp only [intOf]; omega
    · go_wp2_with fail
      go_ret
      refine ⟨?_, (HX.out _ HB.out).2⟩
      have : rr = true := by
        rw [HR.out, List.all_eq_true]
        intro x hx
        obtain ⟨j, hj, rfl⟩ := List.getElem_of_mem hx
        exact HK.out j (by have := HN.out; omega) hj
      rw [this]
      rfl
set_option maxHeartbeats 2000000 in
set_option maxRecDepth 100000 in
theorem wheelScan_law (s : St) (r : R3) (f m8 : Int) (hk : Kw s) (hf : (Lit.int .u64 f).wf = true) (hm8 : (Lit.int .u8 m8).wf = true) (w : World) (hr : SR w s r) : Calls Try.prog 6 #[sV s r, .int .u64 f, .int .u8 m8] w fun e w' => e = .returned (.bool true) ∧ Below w.heap.size w w' := by
  have hf2 : 0 ≤ f ∧ f < 18446744073709551616 := by have := Go.bounds_u64 hf; omega
  have hm2 : 0 ≤ m8 ∧ m8 < 256 := by have := Go.bounds_u8 hm8; omega
  obtain ⟨w1, hw1⟩ : ∃ w1, w1 = w.alloc (.cells (sA s r) 31) := ⟨_, rfl⟩
  obtain ⟨b, hbe⟩ : ∃ b, b = w.heap.size := ⟨_, rfl⟩
  have H1 : Hid (BS w w1 b s r) := Lib.hid (by rw [hw1, hbe]; exact BS.new hr (Below.refl _ _))
  have HW := Lib.hid (And.intro hw1 hbe)
  have HK := Lib.hid hk
  have HF := Lib.hid hf2
  clear hw1 hbe hr hk hf hm8 hf2
  have E9 : Hid (∀ V, Below w.heap.size w V → Calls Try.prog 9 #[] V fun e w' => e = .returned (.bool true) ∧ Below w.heap.size w w') := Lib.hid (fun V hV => (alive_at V).mono fun e w' ⟨h1, h2⟩ => ⟨h1, hV.trans (h2.mono hV.size)⟩)
  go_enter Try.func6, Try.ntmps6
  go_wp2_with (first | fail | (rw [← HW.out.1, ← HW.out.2]; refine ld31g rfl (.tmp 3) rfl _ rfl _ H1.out.box ?_))
  have C8 := small_at s r 60 (by omega) w1
  obtain ⟨b8, hb8⟩ : ∃ b, b = decide (Lim s 60) := ⟨_, rfl⟩
  rw [← hb8] at C8
  refine Calls.mono C8 ?_
  rintro e w2 ⟨rfl, hb2⟩
  have H2 := Lib.hid (H1.out.keep hb2)
  have HB8 := Lib.hid hb8
  clear hb2 hb8 C8 H1 HW
  cases b8
  · go_wp2_with fail
    refine (E9.out _ H2.out.bel).mono ?_
    rintro e w9 ⟨rfl, hb9⟩
    go_wp2_with fail
    go_ret
    exact ⟨rfl, hb9⟩
  · have HL : Hid (Lim s 60) := Lib.hid (of_decide_eq_true HB8.out.symm)
    go_wp2_with (first | fail | refine ld31g rfl (.tmp 3) rfl _ rfl _ H2.out.box ?_)
    have C10 := right_at s r (HL.out.up (by omega)) w2 H2.out.rows
    obtain ⟨b10, hb10⟩ : ∃ b, b = rBW s := ⟨_, rfl⟩
    rw [← hb10] at C10
    refine Calls.mono C10 ?_
    rintro e w3 ⟨rfl, hb3⟩
    have H3 := Lib.hid (H2.out.keep hb3)
    have HB10 := Lib.hid hb10
    clear hb3 hb10 C10 H2
    cases b10
    · go_wp2_with fail
      refine (E9.out _ H3.out.bel).mono ?_
      rintro e w9 ⟨rfl, hb9⟩
      go_wp2_with fail
      go_ret
      exact ⟨rfl, hb9⟩
    · have HRG : Hid (Rg s) := Lib.hid (rBW_wg.1 HB10.out.symm)
      go_wp2_with (first | fail | refine ld31g rfl (.tmp 3) rfl _ rfl _ H3.out.box ?_)
      have C23 := calm_at s r (by have := HL.out.1; omega) w3 H3.out.rows
      obtain ⟨b23, hb23⟩ : ∃ b, b = s.pg.all cmb := ⟨_, rfl⟩
      rw [← hb23] at C23
      refine Calls.mono C23 ?_
      rintro e w5 ⟨rfl, hb5⟩
      have H5 := Lib.hid (H3.out.keep hb5)
      have HB23 := Lib.hid hb23
      clear hb5 hb23 C23 H3
      cases b23
      · go_wp2_with fail
        refine (E9.out _ H5.out.bel).mono ?_
        rintro e w9 ⟨rfl, hb9⟩
        go_wp2_with fail
        go_ret
        exact ⟨rfl, hb9⟩
      · have HCM : Hid (Cm s) := Lib.hid ((cm_iff s).1 HB23.out.symm)
        obtain ⟨w6, hw6⟩ : ∃ w6, w6 = w5.alloc (.cells (sA s r) 31) := ⟨_, rfl⟩
        obtain ⟨b7, hb7⟩ : ∃ b, b = w5.heap.size := ⟨_, rfl⟩
        have H6 : Hid (B2 w w6 b b7 s r s r ∧ Sc s s) := Lib.hid (by
          have hlt := H5.out.box.lt
          rw [hw6, hb7]
          exact ⟨⟨H5.out.keep (alloc_below _ _), BS.new H5.out.rows H5.out.bel, H5.out.rows.old.ap (Nat.le_refl _), by omega⟩, ⟨HRG.out, HK.out, HCM.out, rfl, rfl, fun k h => h⟩⟩)
        have HW6 := Lib.hid (And.intro hw6 hb7)
        clear hw6 hb7
        obtain ⟨m40, hm40⟩ : ∃ z : Int, z = m8 % 40 := ⟨_, rfl⟩
        have hm41 : 0 ≤ m40 ∧ m40 < 40 := by rw [hm40]; omega
        go_wp2_with (first | fail | refine ld31 rfl (.tmp 3) rfl _ rfl _ H5.out.box ?_ | (refine st31n rfl (.tmp 7) (.tmp 29) rfl s r rfl rfl _ rfl ?_; rw [← HW6.out.1, ← HW6.out.2]))
        clear H5 HW6
        have HM := Lib.hid hm40
        clear hm40
        go_loopw [8] (fun i wr => ∃ (k : Nat) (x : St) (rx : R3), (k : Int) ≤ m40 ∧ i = .int .i64 (k : Int) ∧ Hid (B2 w wr b b7 s r x rx ∧ Sc s x)) (fun i _ => 40 - (intOf i).toNat)
        case atStart => exact ⟨0, s, r, by omega, by go_num, H6⟩
        case round =>
          clear H6
          obtain ⟨k, x, rx, hkm, rfl, HX⟩ := hrel
          by_cases hlt : (k : Int) < m40
          case pos =>
            have hlt2 : (k : Int) < m8 % 40 := by rw [← HM.out]; exact hlt
            obtain ⟨key, hkey⟩ : ∃ z, z = IntKind.u64.wrap (f + (k : Int)) := ⟨_, rfl⟩
            have hk64 : K64 key := by rw [hkey]; exact k64_wrap _
            have HKEY := Lib.hid (And.intro hkey hk64)
            clear hkey hk64
            go_wp2_with (first | fail | refine ld31 rfl (.tmp 7) rfl _ rfl _ HX.out.1.two.box ?_)
            rw [← HKEY.out.1]
            refine Calls.mono (is_at x rx key (by have := (rg_lim HX.out.2.rg).1; omega) wr HX.out.1.two.rows) ?_
            rintro e w2 ⟨rfl, hb2⟩
            have H7 := Lib.hid (And.intro (HX.out.1.keep hb2) HX.out.2)
            clear hb2 HX
            by_cases h0 : isW x key = 0
            case neg =>
              obtain ⟨kk, hkk⟩ : ∃ kk, kk = isW x key := ⟨_, rfl⟩
              rw [← hkk] at h0
              rw [← hkk]
              clear hkk
              have hq : (kk == 0) = false := by simpa using h0
              go_wp2_with fail
              refine (E9.out _ H7.out.1.one.bel).mono ?_
              rintro e w3 ⟨rfl, hb3⟩
              go_wp2_with fail
              go_ret
              exact ⟨rfl, hb3⟩
            case pos =>
              rw [h0]
              have C12 := padmit_at x rx key H7.out.2.rg (rg_lim' H7.out.2.rg) H7.out.2.kw w2 H7.out.1.two.rows
              have hs := H7.out.2.step HKEY.out.2 h0
              rw [decide_eq_false hs.2.2] at C12
              go_wp2_with (first | fail | refine ld31 rfl (.tmp 7) rfl _ rfl _ H7.out.1.two.box ?_)
              refine C12.mono ?_
              rintro e w3 ⟨r3, A3, n3, cc3, rfl, hn3, hr3, hu3, hA3, hf3, hb3⟩
              obtain ⟨y, hy⟩ : ∃ y, y = admitW x key := ⟨_, rfl⟩
              rw [← hy] at hr3 hs
              rw [← hy]
              obtain ⟨w4, hw4⟩ : ∃ w4, w4 = w3.alloc (.cells (sA y r3) 31) := ⟨_, rfl⟩
              obtain ⟨b10, hb10⟩ : ∃ b, b = w3.heap.size := ⟨_, rfl⟩
              have hb34 : Below w3.heap.size w3 w4 := by rw [hw4]; exact alloc_below _ _
              have hb24 := hb3.trans (hb34.mono hb3.size)
              have H8 : Hid (Box w4 b10 (sA y r3) ∧ SR w4 y r3 ∧ Frm w2.heap.size rx r3 ∧ Below w2.heap.size w2 w4) := Lib.hid ⟨by rw [hw4, hb10]; exact box_alloc w3 (sA y r3) (sA_len _ _), hr3.kept hb34, hf3, hb24⟩
              have HY := Lib.hid hs
              have HW4 := Lib.hid (And.intro hw4 hb10)
              clear hb3 hb34 hb24 hr3 hu3 hA3 hf3 hn3 hw4 hb10 hy hs C12
              go_wp2_with (first | fail | (refine st31n rfl (.tmp 10) (.tmp 50) rfl y r3 rfl rfl _ rfl ?_; rw [← HW4.out.1, ← HW4.out.2]) | refine ld31g rfl (.tmp 10) rfl _ rfl _ H8.out.1 ?_)
              clear HW4
              have C24 := is_at y r3 key (by have := (rg_lim HY.out.1.rg).1; omega) w4 H8.out.2.1
              rw [HY.out.2.1] at C24
              refine C24.mono ?_
              rintro e w5 ⟨rfl, hb5⟩
              have hb25 := H8.out.2.2.2.trans (hb5.mono H8.out.2.2.2.size)
              have H9 : Hid (Box w5 b10 (sA y r3) ∧ SR w5 y r3 ∧ Frm w2.heap.size rx r3 ∧ Below w2.heap.size w2 w5) := Lib.hid ⟨H8.out.1.kept hb5 H8.out.1.lt, H8.out.2.1.kept hb5, H8.out.2.2.1, hb25⟩
              clear hb5 hb25 H8 C24
              go_wp2_with (first | fail | refine ld31g rfl (.tmp 10) rfl _ rfl _ H9.out.1 ?_)
              have C23 := calm_at y r3 (by have := (rg_lim HY.out.1.rg).1; omega) w5 H9.out.2.1
              rw [(cm_iff y).2 HY.out.1.cm] at C23
              refine C23.mono ?_
              rintro e w6 ⟨rfl, hb6⟩
              have hb26 := H9.out.2.2.2.trans (hb6.mono H9.out.2.2.2.size)
              have H10 : Hid (Box w6 b10 (sA y r3) ∧ Box w6 b7 (sA x rx) ∧ B2 w (w6.setRow b7 (sA y r3)) b b7 s r y r3 ∧ Sc s y) := Lib.hid ⟨H9.out.1.kept hb6 H9.out.1.lt, H7.out.1.two.box.kept hb26 H7.out.1.two.box.lt, H7.out.1.put hb26 (H9.out.2.1.kept hb6) H9.out.2.2.1, HY.out.1⟩
              clear hb6 hb26 H9 H7 HY C23
              go_wp2_with (first | fail | refine ld31 rfl (.tmp 10) rfl _ rfl _ H10.out.1 ?_ | refine st31 rfl (.tmp 7) (.tmp 66) rfl _ y r3 rfl rfl _ H10.out.2.1 ?_)
              have H11 := Lib.hid H10.out.2.2
              clear H10
              go_round
              case rel => exact ⟨k + 1, y, r3, by omega, by go_num, H11⟩
              case measure => simp only [intOf]; omega
          case neg =>
            have hlt2 : ¬ (k : Int) < m8 % 40 := by rw [← HM.out]; exact hlt
            obtain ⟨n, hn⟩ : ∃ n, n = s.pg.length := ⟨_, rfl⟩
            have d5 : wr.cell? ⟨b, 5, none⟩ = some (.slice r.a1 n r.c1) := by rw [hn]; exact at5 HX.out.1.one.box
            have hn60 : n ≤ 60 := by rw [hn]; exact HL.out.1
            have HN := Lib.hid hn
            clear hn
            go_wp2_with fail
            clear d5
            obtain ⟨wo, rfl⟩ : ∃ wo : World, wo = wr := ⟨_, rfl⟩
            go_loopw [70] (fun i wr => ∃ j : Nat, j ≤ n ∧ i = .int .i64 (j : Int) ∧ Hid (B2 w wr b b7 s r x rx ∧ Sc s x)) (fun i _ => n - (intOf i).toNat)
            case atStart => exact ⟨0, by omega, by go_num, HX⟩
            case round =>
              clear HX
              obtain ⟨j, hj, rfl, HX⟩ := hrel
              by_cases hjn : j < n
              case pos =>
                have hml : j < s.pg.length := by have := HN.out; omega
                obtain ⟨pb, off, hA, hc⟩ := HX.out.1.one.rows.pg.row.at hml
                rw [hA]
                obtain ⟨c0, c1, c2, c3⟩ := hc j hml
                obtain ⟨p, hp⟩ : ∃ p, p = s.pg[j] := ⟨_, rfl⟩
                have HPM : Hid (p ∈ s.pg) := Lib.hid (by rw [hp]; exact List.getElem_mem hml)
                rw [← hp] at c0 c1 c2 c3
                clear hp
                obtain ⟨p0, p1, p2, p3⟩ := p
                dsimp only at c0 c1 c2 c3
                have b2 := alloc_below wr (.cells #[.int .u64 p0, .int .i64 p1, .bool p2, .bool p3] 58)
                have hg := heap_alloc_new wr (.cells #[.int .u64 p0, .int .i64 p1, .bool p2, .bool p3] 58)
                obtain ⟨w2, hw2⟩ : ∃ w2, w2 = wr.alloc (.cells #[.int .u64 p0, .int .i64 p1, .bool p2, .bool p3] 58) := ⟨_, rfl⟩
                obtain ⟨g, hge⟩ : ∃ g, g = wr.heap.size := ⟨_, rfl⟩
                rw [← hw2, ← hge] at hg
                rw [← hw2] at b2
                have H5 := Lib.hid (And.intro (HX.out.1.keep b2) HX.out.2)
                have i0 : w2.cell? ⟨g, 0, none⟩ = some (.int .u64 p0) := by rw [cell_of_head hg]; rfl
                have i1 : w2.cell? ⟨g, 1, none⟩ = some (.int .i64 p1) := by rw [cell_of_head hg]; rfl
                have HW := Lib.hid (And.intro hw2 hge)
                clear hc b2 hg hw2 hge HX hA
                by_cases h1 : p1 = 1
                case pos =>
                  subst h1
                  have hko : isW x p0 = 1 := hot_isW H5.out.2.rg (H5.out.2.hot p0 ⟨_, HPM.out, rfl, rfl⟩)
                  have HKO := Lib.hid hko
                  clear hko
                  go_wp2_with (first | fail | (refine st59n rfl (.tmp 14) (.tmp 73) rfl _ _ _ _ rfl rfl _ rfl ?_; rw [← HW.out.1, ← HW.out.2]) | refine ld31g rfl (.tmp 7) rfl _ rfl _ H5.out.1.two.box ?_)
                  refine Calls.mono (is_at x rx p0 (by have := (rg_lim H5.out.2.rg).1; omega) w2 H5.out.1.two.rows) ?_
                  rintro e w3 ⟨rfl, hb3⟩
                  rw [HKO.out]
                  have H6 := Lib.hid (And.intro (H5.out.1.keep hb3) H5.out.2)
                  clear hb3 H5 HKO HPM c0 c1 c2 c3 i0 i1 HW
                  go_wp2_with fail
                  go_round
                  case rel => exact ⟨j + 1, by omega, by go_num, H6⟩
                  case measure => simp only [intOf]; omega
                case neg =>
                  have hq : (p1 == 1) = false := by simpa using h1
                  go_wp2_with (first | fail | (refine st59n rfl (.tmp 14) (.tmp 73) rfl _ _ _ _ rfl rfl _ rfl ?_; rw [← HW.out.1, ← HW.out.2]))
                  go_round
                  case rel => exact ⟨j + 1, by omega, by go_num, H5⟩
                  case measure => simp only [intOf]; omega
              case neg =>
                obtain ⟨ra, hra⟩ : ∃ z, z = s.ct.ra := ⟨_, rfl⟩
                obtain ⟨lo, hlo⟩ : ∃ z, z = s.ct.lo := ⟨_, rfl⟩
                have d12 : wr.cell? ⟨b, 12, none⟩ = some (.int .u64 ra) := by rw [hra]; exact at12 HX.out.1.one.box
                have d13 : wr.cell? ⟨b, 13, none⟩ = some (.int .u64 lo) := by rw [hlo]; exact at13 HX.out.1.one.box
                have e12 : wr.cell? ⟨b7, 12, none⟩ = some (.int .u64 ra) := by rw [hra, ← HX.out.2.ra]; exact at12 HX.out.1.two.box
                have e13 : wr.cell? ⟨b7, 13, none⟩ = some (.int .u64 lo) := by rw [hlo, ← HX.out.2.lo]; exact at13 HX.out.1.two.box
                clear hra hlo
                go_wp2_with fail
                refine (E9.out _ HX.out.1.one.bel).mono ?_
                rintro e w3 ⟨rfl, hb3⟩
                go_wp2_with fail
                go_ret
                exact ⟨rfl, hb3⟩
end Go.Proofs.Ytejcahkkpednfaa
