/-
  The state that is worked on: gone pages are forgotten until there are no more than may be.
  The ring: Is, Kept, Touch, Drop.
  The document's states: no key twice; the pages are as they should be; two states are the same.
-/
import Derived.Test.YtejcahkkpednfaaG17
import Derived.Test.YtejcahkkpednfaaG18
import Derived.Test.YtejcahkkpednfaaG07
import Derived.Test.YtejcahkkpednfaaG02
import Derived.Test.YtejcahkkpednfaaG06
namespace Go.Proofs.Ytejcahkkpednfaa
open Go.RowKit
open Go.Proofs.StackM (Pg Cf Ct St up many fnd fnd_at fnd_no)
open Go.Proofs.WheelM
set_option linter.unusedVariables false
section
variable {lo B c : Nat} {w : World} {s : St} {r : R3} {A : Option Addr} {ev : List Int}
set_option maxHeartbeats 8000000 in
set_option maxRecDepth 100000 in
theorem pexpire_at (h : WK lo w B s r A c ev) (hw : Ww s) (hl : s.pg.length ≤ 1000) : Calls Try.prog 40 #[.pointer (some ⟨B, 0, none⟩)] w fun e w' => e = .returned (.tuple #[]) ∧ WP lo w B (expire s) ev w' := by
  have H0 := Lib.hid h
  have HP0 := Lib.hid (And.intro hw hl)
  clear h hw hl
  go_enter Try.func40, Try.ntmps40
  go_wp2_with fail
  go_loopg [] (msE s) (fun k wr => ∃ (cur : St) (rr : R3) (AA : Option Addr) (cc : Nat), Hid (WK lo wr B cur rr AA cc ev ∧ Below lo w wr) ∧ Hid (Ww cur ∧ cur.pg.length ≤ 1000 ∧ expire cur = expire s ∧ k = msE cur))
  case atStart => exact ⟨s, r, A, c, Lib.hid ⟨H0.out, Below.refl _ _⟩, Lib.hid ⟨HP0.out.1, HP0.out.2, rfl, rfl⟩⟩
  case round =>
    obtain ⟨cur, rr, AA, cc, HF, HC⟩ := hrel
    have hb : cur.pg.length ≤ 1000000 := by have := HC.out.2.1; omega
    have C60 := Lib.hid (grown_call (w := wr) (f := 60) (args := #[.slice rr.a1 cur.pg.length rr.c1, .int .i64 3]) (fun V hV => count_at cur.pg 3 rr.a1 cur.pg.length rr.c1 rfl hb V (PRow.kept HF.out.1.prow hV)))
    have hk : ∀ p : GrB wr, WK lo p.v B cur rr AA cc ev := fun p => HF.out.1.kept p.h
    have d3 := fun p => (hk p).at3
    have d5 := fun p => (hk p).at5
    obtain ⟨mm, hmm⟩ : ∃ z, z = (many cur.pg 3 : Int) := ⟨_, rfl⟩
    obtain ⟨gg, hgg⟩ : ∃ z, z = cur.cf.g := ⟨_, rfl⟩
    rw [← hmm] at C60
    have d3' : ∀ p : GrB wr, p.v.cell? ⟨B, 3, none⟩ = some (.int .i64 gg) := by rw [hgg]; exact d3
    clear d3
    have HCD := Lib.hid (And.intro hmm hgg)
    clear hmm hgg hk hb
    by_cases hgt : gg < mm
    · have hgc : (many cur.pg 3 : Int) > cur.cf.g := by rw [← HCD.out.1, ← HCD.out.2]; exact hgt
      have hhot := g3_hot HC.out.1 hgc
      obtain ⟨p, hpl⟩ := HC.out.1.at HC.out.1.ht (pos_len hhot)
      have hE : expire (exS cur p) = expire s := by rw [← HC.out.2.2.1]; exact (expire_step hpl hgc HC.out.1.ht.1 hhot).symm
      have hM : msE (exS cur p) < gk := by rw [HC.out.2.2.2]; exact msE_lt HC.out.1 hpl hhot HC.out.2.1
      have hW2 := HC.out.1.exS hpl
      have hL2 : (exS cur p).pg.length ≤ 1000 := Nat.le_trans (exS_n HC.out.1 hpl) HC.out.2.1
      have HP := Lib.hid (And.intro hpl (And.intro hE (And.intro hM (And.intro hW2 hL2))))
      clear hgc hhot hE hM hW2 hL2 hpl
      go_wp2_with fail
      refine region_grown (by kernel_rfl) (by kernel_rfl) ?_
      repeat (go_big_quiet_step (first | (go_at_call 60; exact C60.out _)))
      refine wpQuiet_nil ?_
      rintro w1 ⟨p9, hp9⟩
      have hb1 : Below wr.heap.size wr w1 := hp9 ▸ p9.h
      clear hp9 p9
      have h1 := HF.out.1.kept hb1
      have CL := Lib.hid (plookE_at h1 cur.te.toNat p (hd_nat HC.out.1.ht) HP.out.1 HC.out.1 HC.out.2.1)
      have H1 := Lib.hid (HF.out.2.trans (hb1.mono HF.out.1.low))
      clear d3' d5 hb1 h1 C60
      go_wp2_with fail
      refine CL.out.mono ?_
      rintro e w3 ⟨rfl, r3, A3, c3, h3, hb3⟩
      have H3 := Lib.hid (And.intro h3 (H1.out.trans hb3))
      clear h3 hb3 CL H1
      go_wp2_with fail
      go_roundg (msE (exS cur p))
      case rel => exact ⟨exS cur p, r3, A3, c3, H3, Lib.hid ⟨HP.out.2.2.2.1, HP.out.2.2.2.2, HP.out.2.1, rfl⟩⟩
      case measure => exact HP.out.2.2.1
    · have HE : Hid (expire s = cur) := Lib.hid (by rw [← HC.out.2.2.1]; exact expire_done (by rw [← HCD.out.1, ← HCD.out.2]; exact hgt))
      have hd : decide (gg < mm) = false := decide_eq_false hgt
      go_wp2_with fail
      refine region_grown (by kernel_rfl) (by kernel_rfl) ?_
      repeat (go_big_quiet_step (first | (go_at_call 60; exact C60.out _)))
      refine wpQuiet_nil ?_
      rintro w1 ⟨p9, hp9⟩
      have hb1 : Below wr.heap.size wr w1 := hp9 ▸ p9.h
      clear hp9 p9
      have H1 := Lib.hid ((HF.out.1.kept hb1).to (HF.out.2.trans (hb1.mono HF.out.1.low)))
      clear d3' d5 hb1 C60
      go_wp2_with fail
      go_end0
      rw [HE.out]
      exact ⟨rfl, H1.out⟩
end
end Go.Proofs.Ytejcahkkpednfaa
namespace Go.Proofs.Ytejcahkkpednfaa
open Go.RowKit
open Go.Proofs.StackM (Pg Cf Ct St up many fnd fnd_at fnd_no)
open Go.Proofs.WheelM
set_option linter.unusedVariables false
theorem fnd_cases (l : List Pg) (k : Int) : (∃ i, ∃ hi : i < l.length, fnd l k = some i ∧ fi l k = (i : Int) ∧ l[i].key = k) ∨ (fnd l k = none ∧ fi l k = -1) := by
  unfold fi
  cases h : fnd l k with
  | none => exact .inr ⟨rfl, rfl⟩
  | some i =>
    obtain ⟨hi, e⟩ := fnd_at h
    exact .inl ⟨i, hi, rfl, rfl, e⟩
set_option maxHeartbeats 2000000 in
set_option maxRecDepth 100000 in
theorem is_at (s : St) (r : R3) (k : Int) (hl : s.pg.length ≤ 1000) (w : World) (hr : SR w s r) : Calls Try.prog 24 #[sV s r, .int .u64 k] w fun e w' => e = .returned (.int .i64 (isW s k)) ∧ Below w.heap.size w w' := by
  have x := Fr.start1 hr
  obtain ⟨w1, hw1⟩ : ∃ w1, w1 = w.alloc (.cells (sA s r) 31) := ⟨_, rfl⟩
  rw [← hw1] at x
  have HW := Lib.hid hw1
  have d5 := at5 x.box
  obtain ⟨z, hz⟩ : ∃ z, z = isW s k := ⟨_, rfl⟩
  rw [← hz]
  have C37 := Lib.hid (find_at s.pg k r.a1 s.pg.length r.c1 rfl (by omega) w1 x.rows.pg.row)
  have HX := Lib.hid x
  have d5' : (w.alloc (.cells (sA s r) 31)).cell? ⟨w.heap.size, 5, none⟩ = some (.slice r.a1 s.pg.length r.c1) := by rw [← hw1]; exact d5
  obtain ⟨n, hn⟩ : ∃ n, n = s.pg.length := ⟨_, rfl⟩
  have hnl : n ≤ 1000 := by rw [hn]; exact hl
  rw [← hn] at d5 d5' C37
  have HN := Lib.hid hn
  rcases fnd_cases s.pg k with ⟨i, hi, h0, h1, h2⟩ | ⟨h0, h1⟩
  · rw [h1] at C37
    have hz2 : z = s.pg[i].kind := by rw [hz, isW_at h0 (List.getElem?_eq_getElem hi)]
    obtain ⟨b, off, ha, hc⟩ := x.rows.pg.row.at hi
    obtain ⟨_, c1, _, _⟩ := hc i hi
    rw [← hz2] at c1
    have hin : i < n := by rw [hn]; exact hi
    rw [ha] at d5 d5' C37
    clear hz h0 h1 h2 hz2 hc x hr hl hw1 hn
    go_enter Try.func24, Try.ntmps24
    go_wp2_with fail
    rw [← HW.out]
    refine C37.out.mono ?_
    rintro e w2 ⟨rfl, h2⟩
    subst h2
    go_wp2
    go_ret
    exact ⟨rfl, HX.out.bel⟩
  · rw [h1] at C37
    have hz2 : z = 0 := by rw [hz, isW_no h0]
    subst hz2
    clear hz h0 h1 x hr hl hw1 hn
    go_enter Try.func24, Try.ntmps24
    go_wp2_with fail
    rw [← HW.out]
    refine C37.out.mono ?_
    rintro e w2 ⟨rfl, h2⟩
    subst h2
    go_wp2
    go_ret
    exact ⟨rfl, HX.out.bel⟩
set_option maxHeartbeats 1000000 in
set_option maxRecDepth 100000 in
theorem kept_at (s : St) (r : R3) (k : Int) (hl : s.pg.length ≤ 1000) (w : World) (hr : SR w s r) : Calls Try.prog 18 #[sV s r, .int .u64 k] w fun e w' => e = .returned (.bool (decide (KptW s k))) ∧ Below w.heap.size w w' := by
  have x := Fr.start1 hr
  obtain ⟨w1, hw1⟩ : ∃ w1, w1 = w.alloc (.cells (sA s r) 31) := ⟨_, rfl⟩
  rw [← hw1] at x
  have HW := Lib.hid hw1
  obtain ⟨z, hz⟩ : ∃ z, z = isW s k := ⟨_, rfl⟩
  obtain ⟨b, hb⟩ : ∃ b, b = decide (KptW s k) := ⟨_, rfl⟩
  rw [← hb]
  have hb2 : b = decide (z = 1 ∨ z = 2) := by rw [hb, hz]; rfl
  have C24 := Lib.hid (fun V hV => is_at s r k hl V hV)
  rw [← hz] at C24
  have HX := Lib.hid x
  have HB := Lib.hid hb2
  clear hz hb hb2 hw1 x hr hl
  by_cases h1 : z = 1
  · subst h1
    obtain rfl : b = true := HB.out
    go_enter Try.func18, Try.ntmps18
    go_wp2_with (first | fail | (rw [← HW.out]; refine ld31 rfl (.tmp 2) rfl _ rfl _ HX.out.box ?_))
    refine (C24.out _ HX.out.rows).mono ?_
    rintro e w2 ⟨rfl, h2⟩
    go_wp2
    go_ret
    exact ⟨rfl, (HX.out.keep h2).bel⟩
  · have hz1 : (z == 1) = false := by simpa using h1
    go_enter Try.func18, Try.ntmps18
    go_wp2_with (first | fail | (rw [← HW.out]; refine ld31 rfl (.tmp 2) rfl _ rfl _ HX.out.box ?_))
    refine (C24.out _ HX.out.rows).mono ?_
    rintro e w2 ⟨rfl, h2⟩
    have x2 := HX.out.keep h2
    have HX2 := Lib.hid x2
    clear x2 h2 HX HW
    go_wp2_with (first | fail | refine ld31g rfl (.tmp 2) rfl _ rfl _ HX2.out.box ?_)
    refine (C24.out _ HX2.out.rows).mono ?_
    rintro e w3 ⟨rfl, h3⟩
    by_cases h2 : z = 2
    · subst h2
      obtain rfl : b = true := HB.out
      go_wp2
      go_ret
      exact ⟨rfl, (HX2.out.keep h3).bel⟩
    · have hz2 : (z == 2) = false := by simpa using h2
      obtain rfl : b = false := by rw [HB.out]; exact decide_eq_false (fun h => h.elim h1 h2)
      go_wp2
      go_ret
      exact ⟨rfl, (HX2.out.keep h3).bel⟩
set_option maxHeartbeats 2000000 in
set_option maxRecDepth 100000 in
theorem touch_at (s : St) (r : R3) (k : Int) (hl : s.pg.length ≤ 1000) (w : World) (hr : SR w s r) : Calls Try.prog 47 #[sV s r, .int .u64 k] w (S2Post w r (touchW s k) (decide (KptW s k))) := by
  have x := F2.start hr
  obtain ⟨w1, hw1⟩ : ∃ w1, w1 = (w.alloc (.cells (sA s r) 31)).alloc (.cells (sA S0 R0) 31) := ⟨_, rfl⟩
  rw [← hw1] at x
  have hA : ((w.alloc (.cells (sA s r) 31)).alloc (.cells #[.int .i64 0, .int .i64 0, .int .i64 0, .int .i64 0, .int .i64 0, .slice none 0 0, .slice none 0 0, .slice none 0 0, .int .i64 0, .int .i64 0, .int .u64 0, .int .u64 0, .int .u64 0, .int .u64 0, .int .u64 0, .int .u64 0, .int .u64 0, .int .u64 0, .int .u64 0, .int .u64 0] 31)) = w1 := hw1.symm
  have HA := Lib.hid hA
  have HX := Lib.hid x
  have HL := Lib.hid hl
  have C18 := Lib.hid (kept_at s r k hl w1 x.fr.rows)
  clear x hw1 hA hl hr
  by_cases hk : KptW s k
  · rw [decide_eq_true hk] at C18 ⊢
    rcases fnd_cases s.pg k with ⟨i, hi, g0, g1, g2⟩ | ⟨g0, g1⟩
    case inr => exfalso; unfold KptW at hk; rw [isW_no g0] at hk; omega
    obtain ⟨p, hp⟩ : ∃ p, p = s.pg[i] := ⟨_, rfl⟩
    have hpl : s.pg[i]? = some p := by rw [List.getElem?_eq_getElem hi, hp]
    have hE : touchW s k = { hitW s with pg := s.pg.set i { p with mark := true } } := by unfold touchW; rw [if_pos hk, g0]; dsimp only; rw [hpl]
    obtain ⟨p0, p1, p2, p3⟩ := p
    have HE := Lib.hid hE
    have HP := Lib.hid (And.intro hi g1)
    have hpi := hp.symm
    clear hk hE g0 g2 hpl
    show Calls Try.prog 47 #[sV s r, .int .u64 k] w fun e w' => S2Post w r (touchW s k) true e w'
    go_enter Try.func47, Try.ntmps47
    go_wp2_with (first | fail | (rw [HA.out]; refine ld31 rfl (.tmp 2) rfl _ rfl _ HX.out.fr.box ?_))
    refine C18.out.mono ?_
    rintro e w2 ⟨rfl, hb2⟩
    have x2 := HX.out.keep hb2
    have H2 := Lib.hid x2
    have d5 := at5 x2.fr.box
    obtain ⟨b, off, ha, hcells⟩ := x2.fr.rows.pg.row.at hi
    obtain ⟨k0, k1, k2, k3⟩ := hcells i hi
    rw [hpi] at k0 k1 k2 k3
    dsimp only at k0 k1 k2 k3
    obtain ⟨n, hn⟩ : ∃ n, n = s.pg.length := ⟨_, rfl⟩
    have hin : i < n := by rw [hn]; exact hi
    have hnl : n ≤ 1000 := by rw [hn]; exact HL.out
    have z0 : (0 : Int) ≤ (i : Int) := by omega
    have z1 : (i : Int) < (n : Int) := by omega
    rw [ha, ← hn] at d5
    have C39 := find_at s.pg k r.a1 s.pg.length r.c1 rfl (by have := HL.out; omega) w2 x2.fr.rows.pg.row
    rw [g1, ha, ← hn] at C39
    have HC39 := Lib.hid C39
    have y0 := FQ.start x2 ⟨p0, p1, p2, p3⟩
    have hbl : w.heap.size ≠ w2.heap.size := by have := x2.fr.box.lt; omega
    obtain ⟨w10, hw10⟩ : ∃ w10, w10 = w2.alloc (.cells #[.int .u64 p0, .int .i64 p1, .bool p2, .bool p3] 58) := ⟨_, rfl⟩
    dsimp only at y0
    rw [← hw10] at y0
    obtain ⟨e0, e1, e2, e3⟩ := y0.b.at
    dsimp only at e0 e1 e2 e3
    have y1 := y0.page 3 (.bool true) ⟨p0, p1, p2, true⟩ rfl
    have y2 := y1.cell 10 (.int .u64 (up s.ct.hi)) (hitW s) rfl rfl rfl rfl
    have ffp : w10.frozen? ⟨w2.heap.size, 3, none⟩ = false := by have hb := y0.b; unfold PB at hb; simp [World.frozen?, hb]
    have dd := at10 y0.f.fr.box
    have ff := y0.f.fr.box.free 10
    have hup := wrap_up s.ct.hi
    obtain ⟨w11, hw11⟩ : ∃ w11, w11 = (w10.setCell ⟨w2.heap.size, 3, none⟩ (.bool true)).setCell ⟨w.heap.size, 10, none⟩ (.int .u64 (up s.ct.hi)) := ⟨_, rfl⟩
    rw [← hw11] at y2
    obtain ⟨j0, j1, j2, j3⟩ := y2.b.at
    dsimp only at j0 j1 j2 j3
    have HY := Lib.hid y2
    have HW := Lib.hid (And.intro hw10 hw11)
    clear x2 hb2 hcells y0 y1 y2 hw10 hw11 hn ha hp hpi g1 C39 HX HA C18 H2 hi
    go_wp2_with fail
    refine HC39.out.mono ?_
    rintro e w3 ⟨rfl, h3⟩
    subst h3
    clear HC39
    go_wp2_with (first | fail | (refine st59n rfl (.tmp 7) (.tmp 21) rfl p0 p1 p2 p3 rfl rfl _ rfl ?_; rw [← HW.out.1]) | (rw [← HW.out.2]; refine ld31 rfl (.tmp 2) rfl _ rfl _ HY.out.f.fr.box ?_))
    refine (with_at (hitW s) r i ⟨p0, p1, p2, true⟩ HP.out.1 HL.out w11 HY.out.f.fr.rows).mono ?_
    rintro e w12 ⟨r1, rfl, hr1, hf1, hb1⟩
    have H12 := Lib.hid (And.intro (HY.out.f.keep hb1) (And.intro hr1 (HY.out.f.fr.told hr1 hf1)))
    clear hr1 hf1 hb1 HY j0 j1 j2 j3 e0 e1 e2 e3 k0 k1 k2 k3 d5 HW hbl ffp dd ff hup
    go_wp2_with (first | fail | refine st31 rfl (.tmp 4) (.tmp 32) rfl _ _ _ rfl rfl _ H12.out.1.res ?_)
    refine bodyPost_ret (results_s2 rfl _ _ _ _ rfl (H12.out.1.res.rowSet (sA_len _ _))) rfl ?_
    rw [HE.out]
    exact H12.out.1.ret2 H12.out.2.1 H12.out.2.2 rfl
  · rw [decide_eq_false hk] at C18 ⊢
    have HE : Hid (touchW s k = s) := Lib.hid (by unfold touchW; rw [if_neg hk])
    clear hk
    show Calls Try.prog 47 #[sV s r, .int .u64 k] w fun e w' => S2Post w r (touchW s k) false e w'
    go_enter Try.func47, Try.ntmps47
    go_wp2_with (first | fail | (rw [HA.out]; refine ld31 rfl (.tmp 2) rfl _ rfl _ HX.out.fr.box ?_))
    refine C18.out.mono ?_
    rintro e w2 ⟨rfl, hb2⟩
    have H2 := Lib.hid (HX.out.keep hb2)
    clear hb2 HX HA C18
    go_wp2_with (first | fail | refine ld31 rfl (.tmp 2) rfl _ rfl _ H2.out.fr.box ?_ | refine st31 rfl (.tmp 4) (.tmp 12) rfl _ _ _ rfl rfl _ H2.out.res ?_)
    refine bodyPost_ret (results_s2 rfl _ _ _ _ rfl (H2.out.res.rowSet (sA_len _ _))) rfl ?_
    rw [HE.out]
    exact H2.out.ret2 H2.out.fr.rows H2.out.fr.frm rfl
set_option maxHeartbeats 2000000 in
set_option maxRecDepth 100000 in
theorem drop_at (s : St) (r : R3) (k : Int) (hw : Ww s) (hl : s.pg.length ≤ 1000) (w : World) (hr : SR w s r) : Calls Try.prog 46 #[sV s r, .int .u64 k] w (S2Post w r (dropW s k) (decide (KptW s k))) := by
  have x := F2.start hr
  obtain ⟨w1, hw1⟩ : ∃ w1, w1 = (w.alloc (.cells (sA s r) 31)).alloc (.cells (sA S0 R0) 31) := ⟨_, rfl⟩
  rw [← hw1] at x
  have hA : ((w.alloc (.cells (sA s r) 31)).alloc (.cells #[.int .i64 0, .int .i64 0, .int .i64 0, .int .i64 0, .int .i64 0, .slice none 0 0, .slice none 0 0, .slice none 0 0, .int .i64 0, .int .i64 0, .int .u64 0, .int .u64 0, .int .u64 0, .int .u64 0, .int .u64 0, .int .u64 0, .int .u64 0, .int .u64 0, .int .u64 0, .int .u64 0] 31)) = w1 := hw1.symm
  have HA := Lib.hid hA
  have HX := Lib.hid x
  have HL := Lib.hid (And.intro hl hw)
  obtain ⟨kb, hkb⟩ : ∃ b, b = decide (KptW s k) := ⟨_, rfl⟩
  have C18 := Lib.hid (kept_at s r k hl w1 x.fr.rows)
  rw [← hkb] at C18 ⊢
  clear x hw1 hA hl hr hw
  rcases fnd_cases s.pg k with ⟨i, hi, g0, g1, g2⟩ | ⟨g0, g1⟩
  · have HE : Hid (dropW s k = leave s i) := Lib.hid (by unfold dropW; rw [g0])
    have HP := Lib.hid (And.intro hi g1)
    have z0 : (0 : Int) ≤ (i : Int) := by omega
    clear g0 g2 hkb hi g1
    show Calls Try.prog 46 #[sV s r, .int .u64 k] w fun e w' => S2Post w r (dropW s k) kb e w'
    go_enter Try.func46, Try.ntmps46
    go_wp2_with (first | fail | (rw [HA.out]; refine ld31 rfl (.tmp 2) rfl _ rfl _ HX.out.fr.box ?_))
    refine C18.out.mono ?_
    rintro e w2 ⟨rfl, hb2⟩
    have x2 := HX.out.keep hb2
    have H2 := Lib.hid x2
    have d5 := at5 x2.fr.box
    have C39 := find_at s.pg k r.a1 s.pg.length r.c1 rfl (by have := HL.out.1; omega) w2 x2.fr.rows.pg.row
    rw [HP.out.2] at C39
    have HC39 := Lib.hid C39
    clear x2 hb2 C39 HX HA C18
    go_wp2_with fail
    refine HC39.out.mono ?_
    rintro e w3 ⟨rfl, h3⟩
    subst h3
    clear HC39 d5
    go_wp2_with (first | fail | refine ld31 rfl (.tmp 2) rfl _ rfl _ H2.out.fr.box ?_)
    refine (leave_at s r i HP.out.1 HL.out.1 HL.out.2.hc HL.out.2.ht w3 H2.out.fr.rows).mono ?_
    rintro e w12 ⟨r1, rfl, hr1, hf1, hb1⟩
    have H12 := Lib.hid (And.intro (H2.out.keep hb1) (And.intro hr1 (H2.out.fr.told hr1 hf1)))
    clear hr1 hf1 hb1 H2
    go_wp2_with (first | fail | refine st31 rfl (.tmp 4) (.tmp 20) rfl _ _ _ rfl rfl _ H12.out.1.res ?_)
    refine bodyPost_ret (results_s2 rfl _ _ _ _ rfl (H12.out.1.res.rowSet (sA_len _ _))) rfl ?_
    rw [HE.out]
    exact H12.out.1.ret2 H12.out.2.1 H12.out.2.2 rfl
  · have HE : Hid (dropW s k = s) := Lib.hid (by unfold dropW; rw [g0])
    have hkf : kb = false := by rw [hkb]; exact decide_eq_false (fun h => by unfold KptW at h; rw [isW_no g0] at h; omega)
    subst hkf
    have HP := Lib.hid g1
    clear g0 hkb g1
    show Calls Try.prog 46 #[sV s r, .int .u64 k] w fun e w' => S2Post w r (dropW s k) false e w'
    go_enter Try.func46, Try.ntmps46
    go_wp2_with (first | fail | (rw [HA.out]; refine ld31 rfl (.tmp 2) rfl _ rfl _ HX.out.fr.box ?_))
    refine C18.out.mono ?_
    rintro e w2 ⟨rfl, hb2⟩
    have x2 := HX.out.keep hb2
    have H2 := Lib.hid x2
    have d5 := at5 x2.fr.box
    have C39 := find_at s.pg k r.a1 s.pg.length r.c1 rfl (by have := HL.out.1; omega) w2 x2.fr.rows.pg.row
    rw [HP.out] at C39
    have HC39 := Lib.hid C39
    clear x2 hb2 C39 HX HA C18
    go_wp2_with fail
    refine HC39.out.mono ?_
    rintro e w3 ⟨rfl, h3⟩
    subst h3
    clear HC39 d5
    go_wp2_with (first | fail | refine ld31 rfl (.tmp 2) rfl _ rfl _ H2.out.fr.box ?_ | refine st31 rfl (.tmp 4) (.tmp 17) rfl _ _ _ rfl rfl _ H2.out.res ?_)
    refine bodyPost_ret (results_s2 rfl _ _ _ _ rfl (H2.out.res.rowSet (sA_len _ _))) rfl ?_
    rw [HE.out]
    exact H2.out.ret2 H2.out.fr.rows H2.out.fr.frm rfl
end Go.Proofs.Ytejcahkkpednfaa
namespace Go.Proofs.Ytejcahkkpednfaa
open Go.RowKit
open Go.Proofs.StackM
set_option linter.unusedVariables false
def OnceP (l : List Pg) : Prop := ∀ j (h : j < l.length), fi l l[j].key = (j : Int)
def OnceU (l : List Int) : Prop := ∀ j (h : j < l.length), l[j] ∉ l.take j
instance (l : List Pg) : Decidable (OnceP l) := by unfold OnceP; infer_instance
instance (l : List Int) : Decidable (OnceU l) := by unfold OnceU; infer_instance
set_option maxHeartbeats 2000000 in
set_option maxRecDepth 100000 in
theorem oncep_at (l : List Pg) (A : Option Addr) (n c : Nat) (hn : n = l.length) (hb : n ≤ 1000000) (w : World) (ha : PRow w A c l) :
    Calls Try.prog 28 #[.slice A n c] w fun e w' => e = .returned (.bool (decide (OnceP l))) ∧ w' = w := by
  obtain ⟨r, hr⟩ : ∃ r, r = decide (OnceP l) := ⟨_, rfl⟩
  rw [← hr]
  have HR := Lib.hid hr
  have HN := Lib.hid hn
  have HA := Lib.hid ha
  clear hr hn ha
  go_enter Try.func28, Try.ntmps28
  go_wp2_with fail
  go_loopw [3] (fun i wr => ∃ k : Nat, k ≤ n ∧ i = .int .i64 (k : Int) ∧ wr = w ∧ Hid (∀ j (h1 : j < k) (h : j < l.length), fi l l[j].key = (j : Int))) (fun i _ => n - (intOf i).toNat)
  case atStart => exact ⟨0, by omega, by go_num, by first | rfl | trivial, Lib.hid (fun j h1 => absurd h1 (by omega))⟩
  case round =>
    obtain ⟨k, hk, rfl, rfl, HK⟩ := hrel
    by_cases hlt : k < n
    · have hkl : k < l.length := by have := HN.out; omega
      obtain ⟨b, off, rfl, hc⟩ := HA.out.at hkl
      obtain ⟨c0, _, _, _⟩ := hc k hkl
      obtain ⟨y, hy⟩ : ∃ y, y = l[k].key := ⟨_, rfl⟩
      rw [← hy] at c0
      obtain ⟨q, hq⟩ : ∃ q, q = fi l y := ⟨_, rfl⟩
      have C37 := Lib.hid (find_at l y (some ⟨b, off, none⟩) n c HN.out hb wr HA.out)
      rw [← hq] at C37
      clear hc
      by_cases he : q = (k : Int)
      · have HS : Hid (fi l l[k].key = (k : Int)) := Lib.hid (by rw [← hy, ← hq]; exact he)
        subst he
        clear hy hq
        go_wp2_with fail
        refine C37.out.mono ?_
        rintro e w2 ⟨rfl, h2⟩
        subst h2
        go_wp2_with fail
        go_round
        case rel => exact ⟨k + 1, by omega, by go_num, by first | rfl | trivial, Lib.hid (fun j h1 h => by
          rcases Nat.lt_succ_iff_lt_or_eq.1 h1 with h2 | rfl
          · exact HK.out j h2 h
          · exact HS.out)⟩
        case measure => simp only [intOf]; omega
      · have HE : Hid (r = false) := Lib.hid (by rw [HR.out]; exact decide_eq_false (fun h => he (by rw [hq, hy]; exact h k hkl)))
        clear hy hq
        go_wp2_with fail
        refine C37.out.mono ?_
        rintro e w2 ⟨rfl, h2⟩
        subst h2
        go_wp2_with fail
        go_ret
        exact ⟨by rw [HE.out]; rfl, by trivial⟩
    · have HE : Hid (r = true) := Lib.hid (by rw [HR.out]; exact decide_eq_true (fun j h => HK.out j (by have := HN.out; omega) h))
      go_wp2
      go_ret
      exact ⟨by rw [HE.out]; rfl, by trivial⟩
end Go.Proofs.Ytejcahkkpednfaa
