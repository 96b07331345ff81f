/-
  The statements' own step, on both: any act.
  One state in two boxes.
-/
import Derived.Test.YtejcahkkpednfaaG28
namespace Go.Proofs.Ytejcahkkpednfaa
open Go.RowKit
open Go.Proofs.StackM (Pg Cf Ct St up many fnd fnd_at fnd_no)
open Go.Proofs.WheelM
set_option linter.unusedVariables false
def stp (s : St) (a : Ac) : St :=
  if a.kd = 5 then (if Cl a.cf then resizeW s a.cf else s) else if a.kd = 4 then dropW s a.ky else if a.kd = 2 ∨ (a.kd < 2 ∧ KptW s a.ky) then touchW s a.ky else admitW s a.ky
theorem stp_rg {s : St} (h : Rg s) (a : Ac) : Rg (stp s a) := by
  unfold stp
  split
  · split
    · exact resize_rg h _ (by assumption)
    · exact h
  · split
    · exact drop_rg h _
    · split
      · exact touch_rg h _
      · exact admit_rg h _
theorem stp_kw {s : St} (hr : Rg s) (h : Kw s) (a : Ac) (hk : K64 a.ky) : Kw (stp s a) := by
  unfold stp
  split
  · split
    · exact kw_resize hr h _ (by assumption)
    · exact h
  · split
    · exact kw_drop hr h _
    · split
      · exact kw_touch hr h _
      · exact kw_admit hr h hk
abbrev acL (kd ky p c q g : Int) : Array Value := #[.int .i64 kd, .int .u64 ky, .int .i64 p, .int .i64 c, .int .i64 q, .int .i64 g]
theorem F5.i0 {w w1 : World} {s : St} {r1 r2 : R3} {kd ky p c q g : Int} (x : F5 w s r1 r2 (acL kd ky p c q g) 45 w1) : w1.cell? ⟨w.heap.size + 2, 0, none⟩ = some (.int .i64 kd) := by rw [cell_of_head x.b3]; rfl
theorem F5.i1 {w w1 : World} {s : St} {r1 r2 : R3} {kd ky p c q g : Int} (x : F5 w s r1 r2 (acL kd ky p c q g) 45 w1) : w1.cell? ⟨w.heap.size + 2, 1, none⟩ = some (.int .u64 ky) := by rw [cell_of_head x.b3]; rfl
theorem F5.i2 {w w1 : World} {s : St} {r1 r2 : R3} {kd ky p c q g : Int} (x : F5 w s r1 r2 (acL kd ky p c q g) 45 w1) : w1.cell? ⟨w.heap.size + 2, 2, none⟩ = some (.int .i64 p) := by rw [cell_of_head x.b3]; rfl
theorem F5.i3 {w w1 : World} {s : St} {r1 r2 : R3} {kd ky p c q g : Int} (x : F5 w s r1 r2 (acL kd ky p c q g) 45 w1) : w1.cell? ⟨w.heap.size + 2, 3, none⟩ = some (.int .i64 c) := by rw [cell_of_head x.b3]; rfl
theorem F5.i4 {w w1 : World} {s : St} {r1 r2 : R3} {kd ky p c q g : Int} (x : F5 w s r1 r2 (acL kd ky p c q g) 45 w1) : w1.cell? ⟨w.heap.size + 2, 4, none⟩ = some (.int .i64 q) := by rw [cell_of_head x.b3]; rfl
theorem F5.i5 {w w1 : World} {s : St} {r1 r2 : R3} {kd ky p c q g : Int} (x : F5 w s r1 r2 (acL kd ky p c q g) 45 w1) : w1.cell? ⟨w.heap.size + 2, 5, none⟩ = some (.int .i64 g) := by rw [cell_of_head x.b3]; rfl
set_option maxHeartbeats 2000000 in
set_option maxRecDepth 100000 in
theorem step_at (s : St) (r1 r2 : R3) (kd ky p c q gg : Int) (hrg : Rg s) (hk : Kw s) (w : World) (hr1 : SR w s r1) (hr2 : SR w s r2) : Calls Try.prog 16 #[sV s r1, sV s r2, .agg (acL kd ky p c q gg)] w (StPost w r1 r2 (stp s ⟨kd, ky, ⟨p, c, q, gg⟩⟩)) := by
  obtain ⟨w1, hw1⟩ : ∃ w1, w1 = ((((w.alloc (.cells (sA s r1) 31)).alloc (.cells (sA s r2) 31)).alloc (.cells (acL kd ky p c q gg) 45)).alloc (.cells (sA S0 R0) 31)).alloc (.cells (sA S0 R0) 31) := ⟨_, rfl⟩
  have x1 := F5.start (acL kd ky p c q gg) 45 hr1 hr2
  rw [← hw1] at x1
  have hA : ((((w.alloc (.cells (sA s r1) 31)).alloc (.cells (sA s r2) 31)).alloc (.cells (acL kd ky p c q gg) 45)).alloc (.cells #[.int .i64 0, .int .i64 0, .int .i64 0, .int .i64 0, .int .i64 0, .slice none 0 0, .slice none 0 0, .slice none 0 0, .int .i64 0, .int .i64 0, .int .u64 0, .int .u64 0, .int .u64 0, .int .u64 0, .int .u64 0, .int .u64 0, .int .u64 0, .int .u64 0, .int .u64 0, .int .u64 0] 31)).alloc (.cells #[.int .i64 0, .int .i64 0, .int .i64 0, .int .i64 0, .int .i64 0, .slice none 0 0, .slice none 0 0, .slice none 0 0, .int .i64 0, .int .i64 0, .int .u64 0, .int .u64 0, .int .u64 0, .int .u64 0, .int .u64 0, .int .u64 0, .int .u64 0, .int .u64 0, .int .u64 0, .int .u64 0] 31) = w1 := hw1.symm
  have HA := Lib.hid hA
  have H1 := Lib.hid x1
  clear hw1 x1 hA hr1 hr2
  have HR := Lib.hid (And.intro hrg hk)
  obtain ⟨z, hz⟩ : ∃ z, z = stp s ⟨kd, ky, ⟨p, c, q, gg⟩⟩ := ⟨_, rfl⟩
  rw [← hz]
  have HZ : Hid (z = if kd = 5 then (if Cl ⟨p, c, q, gg⟩ then resizeW s ⟨p, c, q, gg⟩ else s) else if kd = 4 then dropW s ky else if kd = 2 ∨ (kd < 2 ∧ KptW s ky) then touchW s ky else admitW s ky) := Lib.hid hz
  clear hrg hk hz
  obtain ⟨d, hd⟩ : ∃ d, d = decide (KptW s ky) := ⟨_, rfl⟩
  have HDD := Lib.hid hd
  clear hd
  show Calls Try.prog 16 #[sV s r1, sV s r2, .agg (acL kd ky p c q gg)] w fun e w' => StPost w r1 r2 z e w'
  have i0 := H1.out.i0
  have i1 := H1.out.i1
  have i2 := H1.out.i2
  have i3 := H1.out.i3
  have i4 := H1.out.i4
  have i5 := H1.out.i5
  go_enter Try.func16, Try.ntmps16
  by_cases k5 : kd = 5
  case pos =>
    subst k5
    have HZ2 : Hid (z = if Cl ⟨p, c, q, gg⟩ then resizeW s ⟨p, c, q, gg⟩ else s) := Lib.hid (by rw [HZ.out, if_pos rfl])
    go_wp2_with (first | fail | rw [HA.out] | refine ld31 rfl (.tmp 3) rfl _ rfl _ H1.out.b1 ?_ | refine ld31 rfl (.tmp 4) rfl _ rfl _ H1.out.b2 ?_)
    refine (show Calls Try.prog 45 #[sV s r1, sV s r2, .agg #[.int .i64 p, .int .i64 c, .int .i64 q, .int .i64 gg]] w1 _ from lawResize_at s r1 r2 ⟨p, c, q, gg⟩ HR.out.1 HR.out.2 w1 H1.out.k1 H1.out.k2).mono ?_
    rintro e w3 ⟨r3, r4, rfl, hr3, hr4, hf3, hf4, hb3⟩
    obtain ⟨y, hy⟩ : ∃ y, y = if Cl ⟨p, c, q, gg⟩ then resizeW s ⟨p, c, q, gg⟩ else s := ⟨_, rfl⟩
    rw [← hy] at hr3 hr4 HZ2
    rw [← hy]
    have HD : Hid (F5 w s r1 r2 (acL 5 ky p c q gg) 45 w3 ∧ SR w3 y r3 ∧ SR w3 y r4 ∧ Frm (w.heap.size + 5) r1 r3 ∧ Frm (w.heap.size + 5) r2 r4) := Lib.hid ⟨H1.out.keep hb3, hr3, hr4, hf3.weak H1.out.lt, hf4.weak H1.out.lt⟩
    clear hy hr3 hr4 hf3 hf4 hb3 H1 HA HZ i0 i1 i2 i3 i4 i5
    go_wp2_with (first | fail | refine st31 rfl (.tmp 6) (.tmp 32) rfl _ y r3 rfl rfl _ HD.out.1.b4 ?_ | refine st31 rfl (.tmp 7) (.tmp 33) rfl _ y r4 rfl rfl _ HD.out.1.box4 ?_)
    refine bodyPost_ret (results_cct rfl _ _ _ _ _ _ rfl rfl (HD.out.1.res (sA_len _ _) (sA_len _ _)).1 (HD.out.1.res (sA_len _ _) (sA_len _ _)).2) rfl ?_
    rw [HZ2.out]
    exact HD.out.1.fin HD.out.2.1 HD.out.2.2.1 HD.out.2.2.2.1 HD.out.2.2.2.2
  case neg =>
    have h5 : (kd == 5) = false := by simpa using k5
    by_cases k4 : kd = 4
    case pos =>
      subst k4
      have HZ2 : Hid (z = dropW s ky) := Lib.hid (by rw [HZ.out, if_neg (by decide), if_pos rfl])
      go_wp2_with (first | fail | rw [HA.out] | refine ld31 rfl (.tmp 3) rfl _ rfl _ H1.out.b1 ?_)
      clear HA HZ i0 i1 i2 i3 i4 i5 h5 k5
      obtain ⟨y, hy⟩ : ∃ y, y = dropW s ky := ⟨_, rfl⟩
      have CA := pdrop_at s r1 ky HR.out.1 (rg_lim' HR.out.1) HR.out.2 w1 H1.out.k1
      have CB := Lib.hid (fun V (hV : SR V s r2) => drop_at s r2 ky HR.out.1.w (by have := rg_len HR.out.1; omega) V hV)
      rw [← HDD.out, ← hy] at CA CB
      have HZ2 : Hid (z = y) := Lib.hid (by rw [hy]; exact HZ2.out)
      clear hy
      refine CA.mono ?_
      rintro e w3 ⟨r3, rfl, hr3, hf3, hb3⟩
      obtain ⟨w4, hw4⟩ : ∃ w4, w4 = w3.alloc (.cells (sA y r3) 31) := ⟨_, rfl⟩
      obtain ⟨b9, hb9⟩ : ∃ b, b = w3.heap.size := ⟨_, rfl⟩
      have hb34 : Below w3.heap.size w3 w4 := by rw [hw4]; exact alloc_below _ _
      have hb24 := hb3.trans (hb34.mono hb3.size)
      have H4 : Hid (F5 w s r1 r2 (acL 4 ky p c q gg) 45 w4 ∧ (Box w4 b9 (sA y r3) ∧ SR w4 y r3 ∧ Frm (w.heap.size + 5) r1 r3 ∧ w.heap.size + 5 ≤ b9)) := Lib.hid ⟨H1.out.keep hb24, by rw [hw4, hb9]; exact box_alloc w3 _ (sA_len _ _), hr3.kept hb34, hf3.weak H1.out.lt, by rw [hb9]; exact Nat.le_trans H1.out.lt hb3.size⟩
      have HW4 := Lib.hid (And.intro hw4 hb9)
      have i1 := H4.out.1.i1
      clear hw4 hb9 hb34 hb24 hb3 hf3 hr3 H1 CA
      go_wp2_with (first | fail | (refine st31n rfl (.tmp 9) (.tmp 43) rfl y r3 rfl rfl _ rfl ?_; rw [← HW4.out.1, ← HW4.out.2]) | refine ld31 rfl (.tmp 4) rfl _ rfl _ H4.out.1.b2 ?_)
      refine (CB.out w4 H4.out.1.k2).mono ?_
      rintro e w6 ⟨r4, rfl, hr4, hf4, hb6⟩
      obtain ⟨w7, hw7⟩ : ∃ w7, w7 = w6.alloc (.cells (sA y r4) 31) := ⟨_, rfl⟩
      obtain ⟨b12, hb12⟩ : ∃ b, b = w6.heap.size := ⟨_, rfl⟩
      have hb67 : Below w6.heap.size w6 w7 := by rw [hw7]; exact alloc_below _ _
      have hb57 := hb6.trans (hb67.mono hb6.size)
      have H7 : Hid (F5 w s r1 r2 (acL 4 ky p c q gg) 45 w7 ∧ (Box w7 b9 (sA y r3) ∧ SR w7 y r3 ∧ Frm (w.heap.size + 5) r1 r3 ∧ w.heap.size + 5 ≤ b9) ∧ (Box w7 b12 (sA y r4) ∧ SR w7 y r4 ∧ Frm (w.heap.size + 5) r2 r4 ∧ w.heap.size + 5 ≤ b12)) := Lib.hid ⟨H4.out.1.keep hb57, ⟨H4.out.2.1.kept hb57 H4.out.2.1.lt, H4.out.2.2.1.kept hb57, H4.out.2.2.2.1, H4.out.2.2.2.2⟩, by rw [hw7, hb12]; exact box_alloc w6 _ (sA_len _ _), hr4.kept hb67, hf4.weak H4.out.1.lt, by rw [hb12]; exact Nat.le_trans H4.out.1.lt hb6.size⟩
      have HW7 := Lib.hid (And.intro hw7 hb12)
      clear hw7 hb12 hb67 hb57 hb6 hf4 hr4 H4 CB i1 HW4
      go_wp2_with (first | fail | (refine st31n rfl (.tmp 11) (.tmp 50) rfl y r4 rfl rfl _ rfl ?_; rw [← HW7.out.1, ← HW7.out.2]))
      have hbd : Below w7.heap.size w7 w7.drew := below_drew (Below.refl _ _) 1
      have HD : Hid (F5 w s r1 r2 (acL 4 ky p c q gg) 45 w7.drew ∧ (Box w7.drew b9 (sA y r3) ∧ SR w7.drew y r3 ∧ Frm (w.heap.size + 5) r1 r3 ∧ w.heap.size + 5 ≤ b9) ∧ (Box w7.drew b12 (sA y r4) ∧ SR w7.drew y r4 ∧ Frm (w.heap.size + 5) r2 r4 ∧ w.heap.size + 5 ≤ b12)) := Lib.hid ⟨H7.out.1.keep hbd, ⟨H7.out.2.1.1.kept hbd H7.out.2.1.1.lt, H7.out.2.1.2.1.kept hbd, H7.out.2.1.2.2.1, H7.out.2.1.2.2.2⟩, ⟨H7.out.2.2.1.kept hbd H7.out.2.2.1.lt, H7.out.2.2.2.1.kept hbd, H7.out.2.2.2.2.1, H7.out.2.2.2.2.2⟩⟩
      clear hbd H7 HW7
      refine wp_region_held_drew (S := fun V => Box V b9 (sA y r3) ∧ Box V b12 (sA y r4)) (by kernel_rfl) ⟨HD.out.2.1.1, HD.out.2.2.1⟩ (fun hHeld => ?_)
      generalize World.drew w7 = wd at hHeld HD ⊢
      refine wpAnyH_take (i := 0) (v := ?tval101) (by simp only [get_laws]; rfl) (by kernel_rfl) (by kernel_rfl) (by kernel_rfl) (by intro _ _ _ h; exact h) (Or.inl ⟨by rfl, ?teq101⟩) (by assumption) ?trest101
      case teq101 => (intro w0 q; refine exec31 (.tmp 9) ?_ ?_ q.1 <;> rfl)
      try simp only [put_laws]
      refine wpAnyH_take (i := 1) (v := ?tval102) (by simp only [get_laws]; rfl) (by kernel_rfl) (by kernel_rfl) (by kernel_rfl) (by intro _ _ _ h; exact h) (Or.inl ⟨by rfl, ?teq102⟩) (by assumption) ?trest102
      case teq102 => (intro w0 q; refine exec31 (.tmp 11) ?_ ?_ q.2 <;> rfl)
      try simp only [put_laws]
      refine wpAnyH_take (i := 2) (v := ?tval103) (by simp only [get_laws]; rfl) (by kernel_rfl) (by kernel_rfl) (by kernel_rfl) (by intro _ _ _ h; exact h) (Or.inl ⟨by rfl, ?teq103⟩) (by assumption) ?trest103
      case teq103 => (intro w0 _; go_simp; with_reducible rfl)
      try simp only [put_laws]
      refine wpAnyH_take (i := 3) (v := ?tval104) (by simp only [get_laws]; rfl) (by kernel_rfl) (by kernel_rfl) (by kernel_rfl) (by intro _ _ _ h; exact h) (Or.inl ⟨by rfl, ?teq104⟩) (by assumption) ?trest104
      case teq104 => (intro w0 _; go_simp; with_reducible rfl)
      try simp only [put_laws]
      refine wpAnyH_take (i := 4) (v := ?tval105) (by simp only [get_laws]; rfl) (by kernel_rfl) (by kernel_rfl) (by kernel_rfl) (by intro _ _ _ h; exact h) (Or.inl ⟨by rfl, ?teq105⟩) (by assumption) ?trest105
      case teq105 => (intro w0 _; go_simp; with_reducible rfl)
      try simp only [put_laws]
      refine wpAnyH_ready (rs := [5]) (by kernel_rfl) (by simp) ?_
      refine AllReadyH.cons rfl (fun K hK => ?_) AllReadyH.nil
      refine step31 rfl (.tmp 6) (.tmp 52) rfl _ y r3 rfl rfl _ HD.out.1.b4 ?_
      refine hK.out _ _ ⟨HD.out.2.1.1.other (by have := HD.out.2.1.2.2.2; omega) _, HD.out.2.2.1.other (by have := HD.out.2.2.2.2.2; omega) _⟩ (fun hHeld => ?_)
      clear hK K
      try simp only [put_laws]
      refine wpAnyH_ready (rs := [6]) (by kernel_rfl) (by simp) ?_
      refine AllReadyH.cons rfl (fun K hK => ?_) AllReadyH.nil
      refine step31 rfl (.tmp 7) (.tmp 53) rfl _ y r4 rfl rfl _ HD.out.1.box4 ?_
      refine hK.out _ _ ⟨(HD.out.2.1.1.other (by have := HD.out.2.1.2.2.2; omega) _).other (by have := HD.out.2.1.2.2.2; omega) _, (HD.out.2.2.1.other (by have := HD.out.2.2.2.2.2; omega) _).other (by have := HD.out.2.2.2.2.2; omega) _⟩ (fun hHeld => ?_)
      clear hK K
      try simp only [put_laws]
      refine wpAnyH_ready (rs := [7]) (by kernel_rfl) (by simp) ?_
      refine AllReadyH.cons rfl (fun K hK => ?_) AllReadyH.nil
      go_simp
      refine hK.out _ _ hHeld (fun hHeld => ?_)
      clear hK K
      try simp only [put_laws]
      refine wpAnyH_done (by kernel_rfl) ?_ _
      go_wp2_with fail
      refine bodyPost_ret (results_cct rfl _ _ _ _ _ _ rfl rfl (HD.out.1.res (sA_len _ _) (sA_len _ _)).1 (HD.out.1.res (sA_len _ _) (sA_len _ _)).2) rfl ?_
      rw [HZ2.out]
      first | exact HD.out.1.fin HD.out.2.1.2.1 HD.out.2.2.2.1 HD.out.2.1.2.2.1 HD.out.2.2.2.2.1 | (cases d <;> exact HD.out.1.fin HD.out.2.1.2.1 HD.out.2.2.2.1 HD.out.2.1.2.2.1 HD.out.2.2.2.2.1)
    case neg =>
      have h4 : (kd == 4) = false := by simpa using k4
      go_wp2_with (first | fail | rw [HA.out] | refine ld31 rfl (.tmp 4) rfl _ rfl _ H1.out.b2 ?_)
      refine Calls.mono (kept_at s r2 ky (by have := rg_len HR.out.1; omega) w1 H1.out.k2) ?_
      rintro e w2 ⟨rfl, hb2⟩
      have H2 := Lib.hid (H1.out.keep hb2)
      clear HA H1 hb2 i0 i1 i2 i3 i4 i5 h5 h4
      have i0 := H2.out.i0
      have i1 := H2.out.i1
      rw [← HDD.out]
      by_cases k2 : kd = 2
      case pos =>
        subst k2
        have HZ2 : Hid (z = touchW s ky) := Lib.hid (by rw [HZ.out, if_neg (by decide), if_neg (by decide), if_pos (.inl rfl)])
        go_wp2_with (first | fail | refine ld31 rfl (.tmp 3) rfl _ rfl _ H2.out.b1 ?_)
        clear HZ i0 i1 k5 k4
        obtain ⟨y, hy⟩ : ∃ y, y = touchW s ky := ⟨_, rfl⟩
        have CA := ptouch_at s r1 ky HR.out.1 (rg_lim' HR.out.1) HR.out.2 w2 H2.out.k1
        have CB := Lib.hid (fun V (hV : SR V s r2) => touch_at s r2 ky (by have := rg_len HR.out.1; omega) V hV)
        rw [← HDD.out, ← hy] at CA CB
        have HZ2 : Hid (z = y) := Lib.hid (by rw [hy]; exact HZ2.out)
        clear hy
        refine CA.mono ?_
        rintro e w3 ⟨r3, rfl, hr3, hf3, hb3⟩
        obtain ⟨w4, hw4⟩ : ∃ w4, w4 = w3.alloc (.cells (sA y r3) 31) := ⟨_, rfl⟩
        obtain ⟨b9, hb9⟩ : ∃ b, b = w3.heap.size := ⟨_, rfl⟩
        have hb34 : Below w3.heap.size w3 w4 := by rw [hw4]; exact alloc_below _ _
        have hb24 := hb3.trans (hb34.mono hb3.size)
        have H4 : Hid (F5 w s r1 r2 (acL 2 ky p c q gg) 45 w4 ∧ (Box w4 b9 (sA y r3) ∧ SR w4 y r3 ∧ Frm (w.heap.size + 5) r1 r3 ∧ w.heap.size + 5 ≤ b9)) := Lib.hid ⟨H2.out.keep hb24, by rw [hw4, hb9]; exact box_alloc w3 _ (sA_len _ _), hr3.kept hb34, hf3.weak H2.out.lt, by rw [hb9]; exact Nat.le_trans H2.out.lt hb3.size⟩
        have HW4 := Lib.hid (And.intro hw4 hb9)
        have i1 := H4.out.1.i1
        clear hw4 hb9 hb34 hb24 hb3 hf3 hr3 H2 CA
        go_wp2_with (first | fail | (refine st31n rfl (.tmp 14) (.tmp 77) rfl y r3 rfl rfl _ rfl ?_; rw [← HW4.out.1, ← HW4.out.2]) | refine ld31 rfl (.tmp 4) rfl _ rfl _ H4.out.1.b2 ?_)
        refine (CB.out w4 H4.out.1.k2).mono ?_
        rintro e w6 ⟨r4, rfl, hr4, hf4, hb6⟩
        obtain ⟨w7, hw7⟩ : ∃ w7, w7 = w6.alloc (.cells (sA y r4) 31) := ⟨_, rfl⟩
        obtain ⟨b12, hb12⟩ : ∃ b, b = w6.heap.size := ⟨_, rfl⟩
        have hb67 : Below w6.heap.size w6 w7 := by rw [hw7]; exact alloc_below _ _
        have hb57 := hb6.trans (hb67.mono hb6.size)
        have H7 : Hid (F5 w s r1 r2 (acL 2 ky p c q gg) 45 w7 ∧ (Box w7 b9 (sA y r3) ∧ SR w7 y r3 ∧ Frm (w.heap.size + 5) r1 r3 ∧ w.heap.size + 5 ≤ b9) ∧ (Box w7 b12 (sA y r4) ∧ SR w7 y r4 ∧ Frm (w.heap.size + 5) r2 r4 ∧ w.heap.size + 5 ≤ b12)) := Lib.hid ⟨H4.out.1.keep hb57, ⟨H4.out.2.1.kept hb57 H4.out.2.1.lt, H4.out.2.2.1.kept hb57, H4.out.2.2.2.1, H4.out.2.2.2.2⟩, by rw [hw7, hb12]; exact box_alloc w6 _ (sA_len _ _), hr4.kept hb67, hf4.weak H4.out.1.lt, by rw [hb12]; exact Nat.le_trans H4.out.1.lt hb6.size⟩
        have HW7 := Lib.hid (And.intro hw7 hb12)
        clear hw7 hb12 hb67 hb57 hb6 hf4 hr4 H4 CB i1 HW4
        go_wp2_with (first | fail | (refine st31n rfl (.tmp 16) (.tmp 84) rfl y r4 rfl rfl _ rfl ?_; rw [← HW7.out.1, ← HW7.out.2]))
        have hbd : Below w7.heap.size w7 w7.drew := below_drew (Below.refl _ _) 1
        have HD : Hid (F5 w s r1 r2 (acL 2 ky p c q gg) 45 w7.drew ∧ (Box w7.drew b9 (sA y r3) ∧ SR w7.drew y r3 ∧ Frm (w.heap.size + 5) r1 r3 ∧ w.heap.size + 5 ≤ b9) ∧ (Box w7.drew b12 (sA y r4) ∧ SR w7.drew y r4 ∧ Frm (w.heap.size + 5) r2 r4 ∧ w.heap.size + 5 ≤ b12)) := Lib.hid ⟨H7.out.1.keep hbd, ⟨H7.out.2.1.1.kept hbd H7.out.2.1.1.lt, H7.out.2.1.2.1.kept hbd, H7.out.2.1.2.2.1, H7.out.2.1.2.2.2⟩, ⟨H7.out.2.2.1.kept hbd H7.out.2.2.1.lt, H7.out.2.2.2.1.kept hbd, H7.out.2.2.2.2.1, H7.out.2.2.2.2.2⟩⟩
        clear hbd H7 HW7
        refine wp_region_held_drew (S := fun V => Box V b9 (sA y r3) ∧ Box V b12 (sA y r4)) (by kernel_rfl) ⟨HD.out.2.1.1, HD.out.2.2.1⟩ (fun hHeld => ?_)
        generalize World.drew w7 = wd at hHeld HD ⊢
        refine wpAnyH_take (i := 0) (v := ?tval106) (by simp only [get_laws]; rfl) (by kernel_rfl) (by kernel_rfl) (by kernel_rfl) (by intro _ _ _ h; exact h) (Or.inl ⟨by rfl, ?teq106⟩) (by assumption) ?trest106
        case teq106 => (intro w0 q; refine exec31 (.tmp 14) ?_ ?_ q.1 <;> rfl)
        try simp only [put_laws]
        refine wpAnyH_take (i := 1) (v := ?tval107) (by simp only [get_laws]; rfl) (by kernel_rfl) (by kernel_rfl) (by kernel_rfl) (by intro _ _ _ h; exact h) (Or.inl ⟨by rfl, ?teq107⟩) (by assumption) ?trest107
        case teq107 => (intro w0 q; refine exec31 (.tmp 16) ?_ ?_ q.2 <;> rfl)
        try simp only [put_laws]
        refine wpAnyH_take (i := 2) (v := ?tval108) (by simp only [get_laws]; rfl) (by kernel_rfl) (by kernel_rfl) (by kernel_rfl) (by intro _ _ _ h; exact h) (Or.inl ⟨by rfl, ?teq108⟩) (by assumption) ?trest108
        case teq108 => (intro w0 _; go_simp; with_reducible rfl)
        try simp only [put_laws]
        refine wpAnyH_take (i := 3) (v := ?tval109) (by simp only [get_laws]; rfl) (by kernel_rfl) (by kernel_rfl) (by kernel_rfl) (by intro _ _ _ h; exact h) (Or.inl ⟨by rfl, ?teq109⟩) (by assumption) ?trest109
        case teq109 => (intro w0 _; go_simp; with_reducible rfl)
        try simp only [put_laws]
        refine wpAnyH_take (i := 4) (v := ?tval110) (by simp only [get_laws]; rfl) (by kernel_rfl) (by kernel_rfl) (by kernel_rfl) (by intro _ _ _ h; exact h) (Or.inl ⟨by rfl, ?teq110⟩) (by assumption) ?trest110
        case teq110 => (intro w0 _; go_simp; with_reducible rfl)
        try simp only [put_laws]
        refine wpAnyH_ready (rs := [5]) (by kernel_rfl) (by simp) ?_
        refine AllReadyH.cons rfl (fun K hK => ?_) AllReadyH.nil
        refine step31 rfl (.tmp 6) (.tmp 86) rfl _ y r3 rfl rfl _ HD.out.1.b4 ?_
        refine hK.out _ _ ⟨HD.out.2.1.1.other (by have := HD.out.2.1.2.2.2; omega) _, HD.out.2.2.1.other (by have := HD.out.2.2.2.2.2; omega) _⟩ (fun hHeld => ?_)
        clear hK K
        try simp only [put_laws]
        refine wpAnyH_ready (rs := [6]) (by kernel_rfl) (by simp) ?_
        refine AllReadyH.cons rfl (fun K hK => ?_) AllReadyH.nil
        refine step31 rfl (.tmp 7) (.tmp 87) rfl _ y r4 rfl rfl _ HD.out.1.box4 ?_
        refine hK.out _ _ ⟨(HD.out.2.1.1.other (by have := HD.out.2.1.2.2.2; omega) _).other (by have := HD.out.2.1.2.2.2; omega) _, (HD.out.2.2.1.other (by have := HD.out.2.2.2.2.2; omega) _).other (by have := HD.out.2.2.2.2.2; omega) _⟩ (fun hHeld => ?_)
        clear hK K
        try simp only [put_laws]
        refine wpAnyH_ready (rs := [7]) (by kernel_rfl) (by simp) ?_
        refine AllReadyH.cons rfl (fun K hK => ?_) AllReadyH.nil
        go_simp
        refine hK.out _ _ hHeld (fun hHeld => ?_)
        clear hK K
        try simp only [put_laws]
        refine wpAnyH_done (by kernel_rfl) ?_ _
        go_wp2_with fail
        refine bodyPost_ret (results_cct rfl _ _ _ _ _ _ rfl rfl (HD.out.1.res (sA_len _ _) (sA_len _ _)).1 (HD.out.1.res (sA_len _ _) (sA_len _ _)).2) rfl ?_
        rw [HZ2.out]
        first | exact HD.out.1.fin HD.out.2.1.2.1 HD.out.2.2.2.1 HD.out.2.1.2.2.1 HD.out.2.2.2.2.1 | (cases d <;> exact HD.out.1.fin HD.out.2.1.2.1 HD.out.2.2.2.1 HD.out.2.1.2.2.1 HD.out.2.2.2.2.1)
      case neg =>
        have h2 : (kd == 2) = false := by simpa using k2
        by_cases k3 : kd < 2
        case pos =>
          have h3 : decide (kd < 2) = true := decide_eq_true k3
          by_cases hkp : KptW s ky
          case pos =>
            have HZ2 : Hid (z = touchW s ky) := Lib.hid (by rw [HZ.out, if_neg k5, if_neg k4, if_pos (.inr ⟨k3, hkp⟩)])
            obtain rfl : d = true := by rw [HDD.out]; exact decide_eq_true hkp
            go_wp2_with (first | fail | refine ld31 rfl (.tmp 3) rfl _ rfl _ H2.out.b1 ?_)
            clear HZ i0 i1 h2 h3 k5 k4 k2 k3 hkp
            obtain ⟨y, hy⟩ : ∃ y, y = touchW s ky := ⟨_, rfl⟩
            have CA := ptouch_at s r1 ky HR.out.1 (rg_lim' HR.out.1) HR.out.2 w2 H2.out.k1
            have CB := Lib.hid (fun V (hV : SR V s r2) => touch_at s r2 ky (by have := rg_len HR.out.1; omega) V hV)
            rw [← HDD.out, ← hy] at CA CB
            have HZ2 : Hid (z = y) := Lib.hid (by rw [hy]; exact HZ2.out)
            clear hy
            refine CA.mono ?_
            rintro e w3 ⟨r3, rfl, hr3, hf3, hb3⟩
            obtain ⟨w4, hw4⟩ : ∃ w4, w4 = w3.alloc (.cells (sA y r3) 31) := ⟨_, rfl⟩
            obtain ⟨b9, hb9⟩ : ∃ b, b = w3.heap.size := ⟨_, rfl⟩
            have hb34 : Below w3.heap.size w3 w4 := by rw [hw4]; exact alloc_below _ _
            have hb24 := hb3.trans (hb34.mono hb3.size)
            have H4 : Hid (F5 w s r1 r2 (acL kd ky p c q gg) 45 w4 ∧ (Box w4 b9 (sA y r3) ∧ SR w4 y r3 ∧ Frm (w.heap.size + 5) r1 r3 ∧ w.heap.size + 5 ≤ b9)) := Lib.hid ⟨H2.out.keep hb24, by rw [hw4, hb9]; exact box_alloc w3 _ (sA_len _ _), hr3.kept hb34, hf3.weak H2.out.lt, by rw [hb9]; exact Nat.le_trans H2.out.lt hb3.size⟩
            have HW4 := Lib.hid (And.intro hw4 hb9)
            have i1 := H4.out.1.i1
            clear hw4 hb9 hb34 hb24 hb3 hf3 hr3 H2 CA
            go_wp2_with (first | fail | (refine st31n rfl (.tmp 14) (.tmp 77) rfl y r3 rfl rfl _ rfl ?_; rw [← HW4.out.1, ← HW4.out.2]) | refine ld31 rfl (.tmp 4) rfl _ rfl _ H4.out.1.b2 ?_)
            refine (CB.out w4 H4.out.1.k2).mono ?_
            rintro e w6 ⟨r4, rfl, hr4, hf4, hb6⟩
            obtain ⟨w7, hw7⟩ : ∃ w7, w7 = w6.alloc (.cells (sA y r4) 31) := ⟨_, rfl⟩
            obtain ⟨b12, hb12⟩ : ∃ b, b = w6.heap.size := ⟨_, rfl⟩
            have hb67 : Below w6.heap.size w6 w7 := by rw [hw7]; exact alloc_below _ _
            have hb57 := hb6.trans (hb67.mono hb6.size)
            have H7 : Hid (F5 w s r1 r2 (acL kd ky p c q gg) 45 w7 ∧ (Box w7 b9 (sA y r3) ∧ SR w7 y r3 ∧ Frm (w.heap.size + 5) r1 r3 ∧ w.heap.size + 5 ≤ b9) ∧ (Box w7 b12 (sA y r4) ∧ SR w7 y r4 ∧ Frm (w.heap.size + 5) r2 r4 ∧ w.heap.size + 5 ≤ b12)) := Lib.hid ⟨H4.out.1.keep hb57, ⟨H4.out.2.1.kept hb57 H4.out.2.1.lt, H4.out.2.2.1.kept hb57, H4.out.2.2.2.1, H4.out.2.2.2.2⟩, by rw [hw7, hb12]; exact box_alloc w6 _ (sA_len _ _), hr4.kept hb67, hf4.weak H4.out.1.lt, by rw [hb12]; exact Nat.le_trans H4.out.1.lt hb6.size⟩
            have HW7 := Lib.hid (And.intro hw7 hb12)
            clear hw7 hb12 hb67 hb57 hb6 hf4 hr4 H4 CB i1 HW4
            go_wp2_with (first | fail | (refine st31n rfl (.tmp 16) (.tmp 84) rfl y r4 rfl rfl _ rfl ?_; rw [← HW7.out.1, ← HW7.out.2]))
            have hbd : Below w7.heap.size w7 w7.drew := below_drew (Below.refl _ _) 1
            have HD : Hid (F5 w s r1 r2 (acL kd ky p c q gg) 45 w7.drew ∧ (Box w7.drew b9 (sA y r3) ∧ SR w7.drew y r3 ∧ Frm (w.heap.size + 5) r1 r3 ∧ w.heap.size + 5 ≤ b9) ∧ (Box w7.drew b12 (sA y r4) ∧ SR w7.drew y r4 ∧ Frm (w.heap.size + 5) r2 r4 ∧ w.heap.size + 5 ≤ b12)) := Lib.hid ⟨H7.out.1.keep hbd, ⟨H7.out.2.1.1.kept hbd H7.out.2.1.1.lt, H7.out.2.1.2.1.kept hbd, H7.out.2.1.2.2.1, H7.out.2.1.2.2.2⟩, ⟨H7.out.2.2.1.kept hbd H7.out.2.2.1.lt, H7.out.2.2.2.1.kept hbd, H7.out.2.2.2.2.1, H7.out.2.2.2.2.2⟩⟩
            clear hbd H7 HW7
            refine wp_region_held_drew (S := fun V => Box V b9 (sA y r3) ∧ Box V b12 (sA y r4)) (by kernel_rfl) ⟨HD.out.2.1.1, HD.out.2.2.1⟩ (fun hHeld => ?_)
            generalize World.drew w7 = wd at hHeld HD ⊢
            refine wpAnyH_take (i := 0) (v := ?tval111) (by simp only [get_laws]; rfl) (by kernel_rfl) (by kernel_rfl) (by kernel_rfl) (by intro _ _ _ h; exact h) (Or.inl ⟨by rfl, ?teq111⟩) (by assumption) ?trest111
            case teq111 => (intro w0 q; refine exec31 (.tmp 14) ?_ ?_ q.1 <;> rfl)
            try simp only [put_laws]
            refine wpAnyH_take (i := 1) (v := ?tval112) (by simp only [get_laws]; rfl) (by kernel_rfl) (by kernel_rfl) (by kernel_rfl) (by intro _ _ _ h; exact h) (Or.inl ⟨by rfl, ?teq112⟩) (by assumption) ?trest112
            case teq112 => (intro w0 q; refine exec31 (.tmp 16) ?_ ?_ q.2 <;> rfl)
            try simp only [put_laws]
            refine wpAnyH_take (i := 2) (v := ?tval113) (by simp only [get_laws]; rfl) (by kernel_rfl) (by kernel_rfl) (by kernel_rfl) (by intro _ _ _ h; exact h) (Or.inl ⟨by rfl, ?teq113⟩) (by assumption) ?trest113
            case teq113 => (intro w0 _; go_simp; with_reducible rfl)
            try simp only [put_laws]
            refine wpAnyH_take (i := 3) (v := ?tval114) (by simp only [get_laws]; rfl) (by kernel_rfl) (by kernel_rfl) (by kernel_rfl) (by intro _ _ _ h; exact h) (Or.inl ⟨by rfl, ?teq114⟩) (by assumption) ?trest114
            case teq114 => (intro w0 _; go_simp; with_reducible rfl)
            try simp only [put_laws]
            refine wpAnyH_take (i := 4) (v := ?tval115) (by simp only [get_laws]; rfl) (by kernel_rfl) (by kernel_rfl) (by kernel_rfl) (by intro _ _ _ h; exact h) (Or.inl ⟨by rfl, ?teq115⟩) (by assumption) ?trest115
            case teq115 => (intro w0 _; go_simp; with_reducible rfl)
            try simp only [put_laws]
            refine wpAnyH_ready (rs := [5]) (by kernel_rfl) (by simp) ?_
            refine AllReadyH.cons rfl (fun K hK => ?_) AllReadyH.nil
            refine step31 rfl (.tmp 6) (.tmp 86) rfl _ y r3 rfl rfl _ HD.out.1.b4 ?_
            refine hK.out _ _ ⟨HD.out.2.1.1.other (by have := HD.out.2.1.2.2.2; omega) _, HD.out.2.2.1.other (by have := HD.out.2.2.2.2.2; omega) _⟩ (fun hHeld => ?_)
            clear hK K
            try simp only [put_laws]
            refine wpAnyH_ready (rs := [6]) (by kernel_rfl) (by simp) ?_
            refine AllReadyH.cons rfl (fun K hK => ?_) AllReadyH.nil
            refine step31 rfl (.tmp 7) (.tmp 87) rfl _ y r4 rfl rfl _ HD.out.1.box4 ?_
            refine hK.out _ _ ⟨(HD.out.2.1.1.other (by have := HD.out.2.1.2.2.2; omega) _).other (by have := HD.out.2.1.2.2.2; omega) _, (HD.out.2.2.1.other (by have := HD.out.2.2.2.2.2; omega) _).other (by have := HD.out.2.2.2.2.2; omega) _⟩ (fun hHeld => ?_)
            clear hK K
            try simp only [put_laws]
            refine wpAnyH_ready (rs := [7]) (by kernel_rfl) (by simp) ?_
            refine AllReadyH.cons rfl (fun K hK => ?_) AllReadyH.nil
            go_simp
            refine hK.out _ _ hHeld (fun hHeld => ?_)
            clear hK K
            try simp only [put_laws]
            refine wpAnyH_done (by kernel_rfl) ?_ _
            go_wp2_with fail
            refine bodyPost_ret (results_cct rfl _ _ _ _ _ _ rfl rfl (HD.out.1.res (sA_len _ _) (sA_len _ _)).1 (HD.out.1.res (sA_len _ _) (sA_len _ _)).2) rfl ?_
            rw [HZ2.out]
            first | exact HD.out.1.fin HD.out.2.1.2.1 HD.out.2.2.2.1 HD.out.2.1.2.2.1 HD.out.2.2.2.2.1 | (cases d <;> exact HD.out.1.fin HD.out.2.1.2.1 HD.out.2.2.2.1 HD.out.2.1.2.2.1 HD.out.2.2.2.2.1)
          case neg =>
            have HZ2 : Hid (z = admitW s ky) := Lib.hid (by rw [HZ.out, if_neg k5, if_neg k4, if_neg (fun h => h.elim k2 (fun h => hkp h.2))])
            obtain rfl : d = false := by rw [HDD.out]; exact decide_eq_false hkp
            go_wp2_with (first | fail | refine ld31 rfl (.tmp 3) rfl _ rfl _ H2.out.b1 ?_)
            clear HZ i0 i1 h2 h3 k5 k4 k2 k3 hkp
            obtain ⟨y, hy⟩ : ∃ y, y = admitW s ky := ⟨_, rfl⟩
            obtain ⟨out, hout⟩ : ∃ y, y = admOutW s ky := ⟨_, rfl⟩
            have hol : out.length ≤ 100000 := by have := admOut_len HR.out.1 ky; rw [hout]; omega
            have CA := padmit_at s r1 ky HR.out.1 (rg_lim' HR.out.1) HR.out.2 w2 H2.out.k1
            have CB := Lib.hid (fun V (hV : SR V s r2) => admit_at s r2 ky HR.out.1 V hV)
            rw [← HDD.out, ← hy, ← hout] at CA CB
            have HZ2 : Hid (z = y) := Lib.hid (by rw [hy]; exact HZ2.out)
            clear hy hout
            refine CA.mono ?_
            rintro e w3 ⟨r3, A3, n3, cc3, rfl, hn3, hr3, hu3, hA3, hf3, hb3⟩
            obtain ⟨w4, hw4⟩ : ∃ w4, w4 = w3.alloc (.cells (sA y r3) 31) := ⟨_, rfl⟩
            obtain ⟨b9, hb9⟩ : ∃ b, b = w3.heap.size := ⟨_, rfl⟩
            have hb34 : Below w3.heap.size w3 w4 := by rw [hw4]; exact alloc_below _ _
            have hb24 := hb3.trans (hb34.mono hb3.size)
            have H4 : Hid (F5 w s r1 r2 (acL kd ky p c q gg) 45 w4 ∧ (Box w4 b9 (sA y r3) ∧ SR w4 y r3 ∧ Frm (w.heap.size + 5) r1 r3 ∧ w.heap.size + 5 ≤ b9 ∧ UR w4 A3 cc3 out)) := Lib.hid ⟨H2.out.keep hb24, by rw [hw4, hb9]; exact box_alloc w3 _ (sA_len _ _), hr3.kept hb34, hf3.weak H2.out.lt, by rw [hb9]; exact Nat.le_trans H2.out.lt hb3.size, hu3.kept hb34⟩
            have HW4 := Lib.hid (And.intro hw4 hb9)
            have HO := Lib.hid (And.intro hn3 hol)
            have i1 := H4.out.1.i1
            clear hw4 hb9 hb34 hb24 hb3 hf3 hr3 H2 CA hA3 hu3 hn3 hol
            go_wp2_with (first | fail | (refine st31n rfl (.tmp 18) (.tmp 96) rfl y r3 rfl rfl _ rfl ?_; rw [← HW4.out.1, ← HW4.out.2]) | refine ld31 rfl (.tmp 4) rfl _ rfl _ H4.out.1.b2 ?_)
            refine (CB.out w4 H4.out.1.k2).mono ?_
            rintro e w6 ⟨r4, A4, n4, cc4, rfl, hn4, hr4, hu4, hA4, hf4, hb6⟩
            obtain ⟨w7, hw7⟩ : ∃ w7, w7 = w6.alloc (.cells (sA y r4) 31) := ⟨_, rfl⟩
            obtain ⟨b12, hb12⟩ : ∃ b, b = w6.heap.size := ⟨_, rfl⟩
            have hb67 : Below w6.heap.size w6 w7 := by rw [hw7]; exact alloc_below _ _
            have hb57 := hb6.trans (hb67.mono hb6.size)
            have H7 : Hid (F5 w s r1 r2 (acL kd ky p c q gg) 45 w7 ∧ (Box w7 b9 (sA y r3) ∧ SR w7 y r3 ∧ Frm (w.heap.size + 5) r1 r3 ∧ w.heap.size + 5 ≤ b9 ∧ UR w7 A3 cc3 out) ∧ (Box w7 b12 (sA y r4) ∧ SR w7 y r4 ∧ Frm (w.heap.size + 5) r2 r4 ∧ w.heap.size + 5 ≤ b12 ∧ UR w7 A4 cc4 out)) := Lib.hid ⟨H4.out.1.keep hb57, ⟨H4.out.2.1.kept hb57 H4.out.2.1.lt, H4.out.2.2.1.kept hb57, H4.out.2.2.2.1, H4.out.2.2.2.2.1, H4.out.2.2.2.2.2.kept hb57⟩, by rw [hw7, hb12]; exact box_alloc w6 _ (sA_len _ _), hr4.kept hb67, hf4.weak H4.out.1.lt, by rw [hb12]; exact Nat.le_trans H4.out.1.lt hb6.size, hu4.kept hb67⟩
            have HW7 := Lib.hid (And.intro hw7 hb12)
            have HO4 := Lib.hid hn4
            clear hw7 hb12 hb67 hb57 hb6 hf4 hr4 H4 CB i1 HW4 hA4 hu4 hn4
            go_wp2_with (first | fail | (refine st31n rfl (.tmp 21) (.tmp 104) rfl y r4 rfl rfl _ rfl ?_; rw [← HW7.out.1, ← HW7.out.2]))
            have hbd : Below w7.heap.size w7 w7.drew := below_drew (Below.refl _ _) 1
            have HD : Hid (F5 w s r1 r2 (acL kd ky p c q gg) 45 w7.drew ∧ (Box w7.drew b9 (sA y r3) ∧ SR w7.drew y r3 ∧ Frm (w.heap.size + 5) r1 r3 ∧ w.heap.size + 5 ≤ b9 ∧ UR w7.drew A3 cc3 out) ∧ (Box w7.drew b12 (sA y r4) ∧ SR w7.drew y r4 ∧ Frm (w.heap.size + 5) r2 r4 ∧ w.heap.size + 5 ≤ b12 ∧ UR w7.drew A4 cc4 out)) := Lib.hid ⟨H7.out.1.keep hbd, ⟨H7.out.2.1.1.kept hbd H7.out.2.1.1.lt, H7.out.2.1.2.1.kept hbd, H7.out.2.1.2.2.1, H7.out.2.1.2.2.2.1, H7.out.2.1.2.2.2.2.kept hbd⟩, ⟨H7.out.2.2.1.kept hbd H7.out.2.2.1.lt, H7.out.2.2.2.1.kept hbd, H7.out.2.2.2.2.1, H7.out.2.2.2.2.2.1, H7.out.2.2.2.2.2.2.kept hbd⟩⟩
            clear hbd H7 HW7
            refine wp_region_held_drew (S := fun V => Box V b9 (sA y r3) ∧ Box V b12 (sA y r4)) (by kernel_rfl) ⟨HD.out.2.1.1, HD.out.2.2.1⟩ (fun hHeld => ?_)
            generalize World.drew w7 = wd at hHeld HD ⊢
            refine wpAnyH_take (i := 0) (v := ?tval116) (by simp only [get_laws]; rfl) (by kernel_rfl) (by kernel_rfl) (by kernel_rfl) (by intro _ _ _ h; exact h) (Or.inl ⟨by rfl, ?teq116⟩) (by assumption) ?trest116
            case teq116 => (intro w0 q; refine exec31 (.tmp 18) ?_ ?_ q.1 <;> rfl)
            try simp only [put_laws]
            refine wpAnyH_take (i := 1) (v := ?tval117) (by simp only [get_laws]; rfl) (by kernel_rfl) (by kernel_rfl) (by kernel_rfl) (by intro _ _ _ h; exact h) (Or.inl ⟨by rfl, ?teq117⟩) (by assumption) ?trest117
            case teq117 => (intro w0 q; refine exec31 (.tmp 21) ?_ ?_ q.2 <;> rfl)
            try simp only [put_laws]
            refine wpAnyH_take (i := 2) (v := ?tval118) (by simp only [get_laws]; rfl) (by kernel_rfl) (by kernel_rfl) (by kernel_rfl) (by intro _ _ _ h; exact h) (Or.inl ⟨by rfl, ?teq118⟩) (by assumption) ?trest118
            case teq118 => (intro w0 _; go_simp; with_reducible rfl)
            try simp only [put_laws]
            refine wpAnyH_take (i := 3) (v := ?tval119) (by simp only [get_laws]; rfl) (by kernel_rfl) (by kernel_rfl) (by kernel_rfl) (by intro _ _ _ h; exact h) (Or.inl ⟨by rfl, ?teq119⟩) (by assumption) ?trest119
            case teq119 => (intro w0 _; go_simp; with_reducible rfl)
            try simp only [put_laws]
            refine wpAnyH_take (i := 4) (v := ?tval120) (by simp only [get_laws]; rfl) (by kernel_rfl) (by kernel_rfl) (by kernel_rfl) (by intro _ _ _ h; exact h) (Or.inl ⟨by rfl, ?teq120⟩) (by assumption) ?trest120
            case teq120 => (intro w0 _; go_simp; with_reducible rfl)
            try simp only [put_laws]
            refine wpAnyH_take (i := 5) (v := ?tval121) (by simp only [get_laws]; rfl) (by kernel_rfl) (by kernel_rfl) (by kernel_rfl) (by intro _ _ _ h; exact h) (Or.inl ⟨by rfl, ?teq121⟩) (by assumption) ?trest121
            case teq121 => (intro w0 _; go_simp; with_reducible rfl)
            try simp only [put_laws]
            refine wpAnyH_take (i := 6) (v := ?tval122) (by simp only [get_laws]; rfl) (by kernel_rfl) (by kernel_rfl) (by kernel_rfl) (by intro _ _ _ h; exact h) (Or.inl ⟨by rfl, ?teq122⟩) (by assumption) ?trest122
            case teq122 => (intro w0 _; go_simp; with_reducible rfl)
            try simp only [put_laws]
            refine wpAnyH_take (i := 7) (v := ?tval123) (by simp only [get_laws]; rfl) (by kernel_rfl) (by kernel_rfl) (by kernel_rfl) (by intro _ _ _ h; exact h) (Or.inl ⟨by rfl, ?teq123⟩) (by assumption) ?trest123
            case teq123 => (intro w0 _; go_simp; with_reducible rfl)
            try simp only [put_laws]
            refine wpAnyH_ready (rs := [8]) (by kernel_rfl) (by simp) ?_
            refine AllReadyH.cons rfl (fun K hK => ?_) AllReadyH.nil
            have HS2 := Lib.hid (same_at out out A3 A4 n3 n4 cc3 cc4 HO.out.1 HO4.out (by have := HO.out.1; have := HO.out.2; omega) (by have := HO4.out; have := HO.out.2; omega) wd HD.out.2.1.2.2.2.2.row HD.out.2.2.2.2.2.2.row)
            go_simp
            refine HS2.out.mono ?_
            rintro e ws ⟨rfl, hbs⟩
            rw [decide_eq_true (rfl : out = out)]
            have HE : Hid (F5 w s r1 r2 (acL kd ky p c q gg) 45 ws ∧ (Box ws b9 (sA y r3) ∧ SR ws y r3 ∧ Frm (w.heap.size + 5) r1 r3 ∧ w.heap.size + 5 ≤ b9 ∧ UR ws A3 cc3 out) ∧ (Box ws b12 (sA y r4) ∧ SR ws y r4 ∧ Frm (w.heap.size + 5) r2 r4 ∧ w.heap.size + 5 ≤ b12 ∧ UR ws A4 cc4 out)) := Lib.hid ⟨HD.out.1.keep hbs, ⟨HD.out.2.1.1.kept hbs HD.out.2.1.1.lt, HD.out.2.1.2.1.kept hbs, HD.out.2.1.2.2.1, HD.out.2.1.2.2.2.1, HD.out.2.1.2.2.2.2.kept hbs⟩, ⟨HD.out.2.2.1.kept hbs HD.out.2.2.1.lt, HD.out.2.2.2.1.kept hbs, HD.out.2.2.2.2.1, HD.out.2.2.2.2.2.1, HD.out.2.2.2.2.2.2.kept hbs⟩⟩
            refine hK.out _ _ ⟨HE.out.2.1.1, HE.out.2.2.1⟩ (fun hHeld => ?_)
            clear hK K HD HS2 hbs
            obtain ⟨wd, rfl⟩ : ∃ wd, wd = ws := ⟨_, rfl⟩
            have HD := HE
            clear HE
            try simp only [put_laws]
            refine wpAnyH_take (i := 9) (v := ?tval124) (by simp only [get_laws]; rfl) (by kernel_rfl) (by kernel_rfl) (by kernel_rfl) (by intro _ _ _ h; exact h) (Or.inl ⟨by rfl, ?teq124⟩) (by assumption) ?trest124
            case teq124 => (intro w0 _; go_simp; with_reducible rfl)
            try simp only [put_laws]
            refine wpAnyH_ready (rs := [10]) (by kernel_rfl) (by simp) ?_
            refine AllReadyH.cons rfl (fun K hK => ?_) AllReadyH.nil
            refine step31 rfl (.tmp 6) (.tmp 107) rfl _ y r3 rfl rfl _ HD.out.1.b4 ?_
            refine hK.out _ _ ⟨HD.out.2.1.1.other (by have := HD.out.2.1.2.2.2.1; omega) _, HD.out.2.2.1.other (by have := HD.out.2.2.2.2.2.1; omega) _⟩ (fun hHeld => ?_)
            clear hK K
            try simp only [put_laws]
            refine wpAnyH_ready (rs := [11]) (by kernel_rfl) (by simp) ?_
            refine AllReadyH.cons rfl (fun K hK => ?_) AllReadyH.nil
            refine step31 rfl (.tmp 7) (.tmp 108) rfl _ y r4 rfl rfl _ HD.out.1.box4 ?_
            refine hK.out _ _ ⟨(HD.out.2.1.1.other (by have := HD.out.2.1.2.2.2.1; omega) _).other (by have := HD.out.2.1.2.2.2.1; omega) _, (HD.out.2.2.1.other (by have := HD.out.2.2.2.2.2.1; omega) _).other (by have := HD.out.2.2.2.2.2.1; omega) _⟩ (fun hHeld => ?_)
            clear hK K
            try simp only [put_laws]
            refine wpAnyH_ready (rs := [12]) (by kernel_rfl) (by simp) ?_
            refine AllReadyH.cons rfl (fun K hK => ?_) AllReadyH.nil
            go_simp
            refine hK.out _ _ hHeld (fun hHeld => ?_)
            clear hK K
            try simp only [put_laws]
            refine wpAnyH_done (by kernel_rfl) ?_ _
            go_wp2_with fail
            refine bodyPost_ret (results_cct rfl _ _ _ _ _ _ rfl rfl (HD.out.1.res (sA_len _ _) (sA_len _ _)).1 (HD.out.1.res (sA_len _ _) (sA_len _ _)).2) rfl ?_
            rw [HZ2.out]
            first | exact HD.out.1.fin HD.out.2.1.2.1 HD.out.2.2.2.1 HD.out.2.1.2.2.1 HD.out.2.2.2.2.1 | (cases d <;> exact HD.out.1.fin HD.out.2.1.2.1 HD.out.2.2.2.1 HD.out.2.1.2.2.1 HD.out.2.2.2.2.1)
        case neg =>
          have h3 : decide (kd < 2) = false := decide_eq_false k3
          have HZ2 : Hid (z = admitW s ky) := Lib.hid (by rw [HZ.out, if_neg k5, if_neg k4, if_neg (fun h => h.elim k2 (fun h => k3 h.1))])
          go_wp2_with (first | fail | refine ld31 rfl (.tmp 3) rfl _ rfl _ H2.out.b1 ?_)
          clear HZ i0 i1 h2 h3 k5 k4 k2 k3
          obtain ⟨y, hy⟩ : ∃ y, y = admitW s ky := ⟨_, rfl⟩
          obtain ⟨out, hout⟩ : ∃ y, y = admOutW s ky := ⟨_, rfl⟩
          have hol : out.length ≤ 100000 := by have := admOut_len HR.out.1 ky; rw [hout]; omega
          have CA := padmit_at s r1 ky HR.out.1 (rg_lim' HR.out.1) HR.out.2 w2 H2.out.k1
          have CB := Lib.hid (fun V (hV : SR V s r2) => admit_at s r2 ky HR.out.1 V hV)
          rw [← HDD.out, ← hy, ← hout] at CA CB
          have HZ2 : Hid (z = y) := Lib.hid (by rw [hy]; exact HZ2.out)
          clear hy hout
          refine CA.mono ?_
          rintro e w3 ⟨r3, A3, n3, cc3, rfl, hn3, hr3, hu3, hA3, hf3, hb3⟩
          obtain ⟨w4, hw4⟩ : ∃ w4, w4 = w3.alloc (.cells (sA y r3) 31) := ⟨_, rfl⟩
          obtain ⟨b9, hb9⟩ : ∃ b, b = w3.heap.size := ⟨_, rfl⟩
          have hb34 : Below w3.heap.size w3 w4 := by rw [hw4]; exact alloc_below _ _
          have hb24 := hb3.trans (hb34.mono hb3.size)
          have H4 : Hid (F5 w s r1 r2 (acL kd ky p c q gg) 45 w4 ∧ (Box w4 b9 (sA y r3) ∧ SR w4 y r3 ∧ Frm (w.heap.size + 5) r1 r3 ∧ w.heap.size + 5 ≤ b9 ∧ UR w4 A3 cc3 out)) := Lib.hid ⟨H2.out.keep hb24, by rw [hw4, hb9]; exact box_alloc w3 _ (sA_len _ _), hr3.kept hb34, hf3.weak H2.out.lt, by rw [hb9]; exact Nat.le_trans H2.out.lt hb3.size, hu3.kept hb34⟩
          have HW4 := Lib.hid (And.intro hw4 hb9)
          have HO := Lib.hid (And.intro hn3 hol)
          have i1 := H4.out.1.i1
          clear hw4 hb9 hb34 hb24 hb3 hf3 hr3 H2 CA hA3 hu3 hn3 hol
          go_wp2_with (first | fail | (refine st31n rfl (.tmp 18) (.tmp 96) rfl y r3 rfl rfl _ rfl ?_; rw [← HW4.out.1, ← HW4.out.2]) | refine ld31 rfl (.tmp 4) rfl _ rfl _ H4.out.1.b2 ?_)
          refine (CB.out w4 H4.out.1.k2).mono ?_
          rintro e w6 ⟨r4, A4, n4, cc4, rfl, hn4, hr4, hu4, hA4, hf4, hb6⟩
          obtain ⟨w7, hw7⟩ : ∃ w7, w7 = w6.alloc (.cells (sA y r4) 31) := ⟨_, rfl⟩
          obtain ⟨b12, hb12⟩ : ∃ b, b = w6.heap.size := ⟨_, rfl⟩
          have hb67 : Below w6.heap.size w6 w7 := by rw [hw7]; exact alloc_below _ _
          have hb57 := hb6.trans (hb67.mono hb6.size)
          have H7 : Hid (F5 w s r1 r2 (acL kd ky p c q gg) 45 w7 ∧ (Box w7 b9 (sA y r3) ∧ SR w7 y r3 ∧ Frm (w.heap.size + 5) r1 r3 ∧ w.heap.size + 5 ≤ b9 ∧ UR w7 A3 cc3 out) ∧ (Box w7 b12 (sA y r4) ∧ SR w7 y r4 ∧ Frm (w.heap.size + 5) r2 r4 ∧ w.heap.size + 5 ≤ b12 ∧ UR w7 A4 cc4 out)) := Lib.hid ⟨H4.out.1.keep hb57, ⟨H4.out.2.1.kept hb57 H4.out.2.1.lt, H4.out.2.2.1.kept hb57, H4.out.2.2.2.1, H4.out.2.2.2.2.1, H4.out.2.2.2.2.2.kept hb57⟩, by rw [hw7, hb12]; exact box_alloc w6 _ (sA_len _ _), hr4.kept hb67, hf4.weak H4.out.1.lt, by rw [hb12]; exact Nat.le_trans H4.out.1.lt hb6.size, hu4.kept hb67⟩
          have HW7 := Lib.hid (And.intro hw7 hb12)
          have HO4 := Lib.hid hn4
          clear hw7 hb12 hb67 hb57 hb6 hf4 hr4 H4 CB i1 HW4 hA4 hu4 hn4
          go_wp2_with (first | fail | (refine st31n rfl (.tmp 21) (.tmp 104) rfl y r4 rfl rfl _ rfl ?_; rw [← HW7.out.1, ← HW7.out.2]))
          have hbd : Below w7.heap.size w7 w7.drew := below_drew (Below.refl _ _) 1
          have HD : Hid (F5 w s r1 r2 (acL kd ky p c q gg) 45 w7.drew ∧ (Box w7.drew b9 (sA y r3) ∧ SR w7.drew y r3 ∧ Frm (w.heap.size + 5) r1 r3 ∧ w.heap.size + 5 ≤ b9 ∧ UR w7.drew A3 cc3 out) ∧ (Box w7.drew b12 (sA y r4) ∧ SR w7.drew y r4 ∧ Frm (w.heap.size + 5) r2 r4 ∧ w.heap.size + 5 ≤ b12 ∧ UR w7.drew A4 cc4 out)) := Lib.hid ⟨H7.out.1.keep hbd, ⟨H7.out.2.1.1.kept hbd H7.out.2.1.1.lt, H7.out.2.1.2.1.kept hbd, H7.out.2.1.2.2.1, H7.out.2.1.2.2.2.1, H7.out.2.1.2.2.2.2.kept hbd⟩, ⟨H7.out.2.2.1.kept hbd H7.out.2.2.1.lt, H7.out.2.2.2.1.kept hbd, H7.out.2.2.2.2.1, H7.out.2.2.2.2.2.1, H7.out.2.2.2.2.2.2.kept hbd⟩⟩
          clear hbd H7 HW7
          refine wp_region_held_drew (S := fun V => Box V b9 (sA y r3) ∧ Box V b12 (sA y r4)) (by kernel_rfl) ⟨HD.out.2.1.1, HD.out.2.2.1⟩ (fun hHeld => ?_)
          generalize World.drew w7 = wd at hHeld HD ⊢
          refine wpAnyH_take (i := 0) (v := ?tval125) (by simp only [get_laws]; rfl) (by kernel_rfl) (by kernel_rfl) (by kernel_rfl) (by intro _ _ _ h; exact h) (Or.inl ⟨by rfl, ?teq125⟩) (by assumption) ?trest125
          case teq125 => (intro w0 q; refine exec31 (.tmp 18) ?_ ?_ q.1 <;> rfl)
          try simp only [put_laws]
          refine wpAnyH_take (i := 1) (v := ?tval126) (by simp only [get_laws]; rfl) (by kernel_rfl) (by kernel_rfl) (by kernel_rfl) (by intro _ _ _ h; exact h) (Or.inl ⟨by rfl, ?teq126⟩) (by assumption) ?trest126
          case teq126 => (intro w0 q; refine exec31 (.tmp 21) ?_ ?_ q.2 <;> rfl)
          try simp only [put_laws]
          refine wpAnyH_take (i := 2) (v := ?tval127) (by simp only [get_laws]; rfl) (by kernel_rfl) (by kernel_rfl) (by kernel_rfl) (by intro _ _ _ h; exact h) (Or.inl ⟨by rfl, ?teq127⟩) (by assumption) ?trest127
          case teq127 => (intro w0 _; go_simp; with_reducible rfl)
          try simp only [put_laws]
          refine wpAnyH_take (i := 3) (v := ?tval128) (by simp only [get_laws]; rfl) (by kernel_rfl) (by kernel_rfl) (by kernel_rfl) (by intro _ _ _ h; exact h) (Or.inl ⟨by rfl, ?teq128⟩) (by assumption) ?trest128
          case teq128 => (intro w0 _; go_simp; with_reducible rfl)
          try simp only [put_laws]
          refine wpAnyH_take (i := 4) (v := ?tval129) (by simp only [get_laws]; rfl) (by kernel_rfl) (by kernel_rfl) (by kernel_rfl) (by intro _ _ _ h; exact h) (Or.inl ⟨by rfl, ?teq129⟩) (by assumption) ?trest129
          case teq129 => (intro w0 _; go_simp; with_reducible rfl)
          try simp only [put_laws]
          refine wpAnyH_take (i := 5) (v := ?tval130) (by simp only [get_laws]; rfl) (by kernel_rfl) (by kernel_rfl) (by kernel_rfl) (by intro _ _ _ h; exact h) (Or.inl ⟨by rfl, ?teq130⟩) (by assumption) ?trest130
          case teq130 => (intro w0 _; go_simp; with_reducible rfl)
          try simp only [put_laws]
          refine wpAnyH_take (i := 6) (v := ?tval131) (by simp only [get_laws]; rfl) (by kernel_rfl) (by kernel_rfl) (by kernel_rfl) (by intro _ _ _ h; exact h) (Or.inl ⟨by rfl, ?teq131⟩) (by assumption) ?trest131
          case teq131 => (intro w0 _; go_simp; with_reducible rfl)
          try simp only [put_laws]
          refine wpAnyH_take (i := 7) (v := ?tval132) (by simp only [get_laws]; rfl) (by kernel_rfl) (by kernel_rfl) (by kernel_rfl) (by intro _ _ _ h; exact h) (Or.inl ⟨by rfl, ?teq132⟩) (by assumption) ?trest132
          case teq132 => (intro w0 _; go_simp; with_reducible rfl)
          try simp only [put_laws]
          refine wpAnyH_ready (rs := [8]) (by kernel_rfl) (by simp) ?_
          refine AllReadyH.cons rfl (fun K hK => ?_) AllReadyH.nil
          have HS2 := Lib.hid (same_at out out A3 A4 n3 n4 cc3 cc4 HO.out.1 HO4.out (by have := HO.out.1; have := HO.out.2; omega) (by have := HO4.out; have := HO.out.2; omega) wd HD.out.2.1.2.2.2.2.row HD.out.2.2.2.2.2.2.row)
          go_simp
          refine HS2.out.mono ?_
          rintro e ws ⟨rfl, hbs⟩
          rw [decide_eq_true (rfl : out = out)]
          have HE : Hid (F5 w s r1 r2 (acL kd ky p c q gg) 45 ws ∧ (Box ws b9 (sA y r3) ∧ SR ws y r3 ∧ Frm (w.heap.size + 5) r1 r3 ∧ w.heap.size + 5 ≤ b9 ∧ UR ws A3 cc3 out) ∧ (Box ws b12 (sA y r4) ∧ SR ws y r4 ∧ Frm (w.heap.size + 5) r2 r4 ∧ w.heap.size + 5 ≤ b12 ∧ UR ws A4 cc4 out)) := Lib.hid ⟨HD.out.1.keep hbs, ⟨HD.out.2.1.1.kept hbs HD.out.2.1.1.lt, HD.out.2.1.2.1.kept hbs, HD.out.2.1.2.2.1, HD.out.2.1.2.2.2.1, HD.out.2.1.2.2.2.2.kept hbs⟩, ⟨HD.out.2.2.1.kept hbs HD.out.2.2.1.lt, HD.out.2.2.2.1.kept hbs, HD.out.2.2.2.2.1, HD.out.2.2.2.2.2.1, HD.out.2.2.2.2.2.2.kept hbs⟩⟩
          refine hK.out _ _ ⟨HE.out.2.1.1, HE.out.2.2.1⟩ (fun hHeld => ?_)
          clear hK K HD HS2 hbs
          obtain ⟨wd, rfl⟩ : ∃ wd, wd = ws := ⟨_, rfl⟩
          have HD := HE
          clear HE
          try simp only [put_laws]
          refine wpAnyH_take (i := 9) (v := ?tval133) (by simp only [get_laws]; rfl) (by kernel_rfl) (by kernel_rfl) (by kernel_rfl) (by intro _ _ _ h; exact h) (Or.inl ⟨by rfl, ?teq133⟩) (by assumption) ?trest133
          case teq133 => (intro w0 _; go_simp; with_reducible rfl)
          try simp only [put_laws]
          refine wpAnyH_ready (rs := [10]) (by kernel_rfl) (by simp) ?_
          refine AllReadyH.cons rfl (fun K hK => ?_) AllReadyH.nil
          refine step31 rfl (.tmp 6) (.tmp 107) rfl _ y r3 rfl rfl _ HD.out.1.b4 ?_
          refine hK.out _ _ ⟨HD.out.2.1.1.other (by have := HD.out.2.1.2.2.2.1; omega) _, HD.out.2.2.1.other (by have := HD.out.2.2.2.2.2.1; omega) _⟩ (fun hHeld => ?_)
          clear hK K
          try simp only [put_laws]
          refine wpAnyH_ready (rs := [11]) (by kernel_rfl) (by simp) ?_
          refine AllReadyH.cons rfl (fun K hK => ?_) AllReadyH.nil
          refine step31 rfl (.tmp 7) (.tmp 108) rfl _ y r4 rfl rfl _ HD.out.1.box4 ?_
          refine hK.out _ _ ⟨(HD.out.2.1.1.other (by have := HD.out.2.1.2.2.2.1; omega) _).other (by have := HD.out.2.1.2.2.2.1; omega) _, (HD.out.2.2.1.other (by have := HD.out.2.2.2.2.2.1; omega) _).other (by have := HD.out.2.2.2.2.2.1; omega) _⟩ (fun hHeld => ?_)
          clear hK K
          try simp only [put_laws]
          refine wpAnyH_ready (rs := [12]) (by kernel_rfl) (by simp) ?_
          refine AllReadyH.cons rfl (fun K hK => ?_) AllReadyH.nil
          go_simp
          refine hK.out _ _ hHeld (fun hHeld => ?_)
          clear hK K
          try simp only [put_laws]
          refine wpAnyH_done (by kernel_rfl) ?_ _
          go_wp2_with fail
          refine bodyPost_ret (results_cct rfl _ _ _ _ _ _ rfl rfl (HD.out.1.res (sA_len _ _) (sA_len _ _)).1 (HD.out.1.res (sA_len _ _) (sA_len _ _)).2) rfl ?_
          rw [HZ2.out]
          first | exact HD.out.1.fin HD.out.2.1.2.1 HD.out.2.2.2.1 HD.out.2.1.2.2.1 HD.out.2.2.2.2.1 | (cases d <;> exact HD.out.1.fin HD.out.2.1.2.1 HD.out.2.2.2.1 HD.out.2.1.2.2.1 HD.out.2.2.2.2.1)
end Go.Proofs.Ytejcahkkpednfaa
namespace Go.Proofs.Ytejcahkkpednfaa
open Go.RowKit
open Go.Proofs.StackM (Pg Cf Ct St up many fnd fnd_at fnd_no)
open Go.Proofs.WheelM
set_option linter.unusedVariables false
/-- one state in two boxes -/
structure D2 (w0 w : World) (b5 b7 : Nat) (s : St) (r1 r2 : R3) : Prop where
  one : BS w0 w b5 s r1
  two : BS w0 w b7 s r2
  a1 : Ap b5 r2
  a2 : Ap b7 r1
  ne : b5 ≠ b7
  rg : Rg s
  kw : Kw s
theorem D2.keep {w0 w w' : World} {b5 b7 : Nat} {s : St} {r1 r2 : R3} (h : D2 w0 w b5 b7 s r1 r2) (hb : Below w.heap.size w w') : D2 w0 w' b5 b7 s r1 r2 := ⟨h.one.keep hb, h.two.keep hb, h.a1, h.a2, h.ne, h.rg, h.kw⟩
theorem D2.put {w0 w w1 : World} {b5 b7 : Nat} {s y : St} {r1 r2 q1 q2 : R3} (h : D2 w0 w b5 b7 s r1 r2) (hb : Below w.heap.size w w1) (h1 : SR w1 y q1) (h2 : SR w1 y q2) (f1 : Frm w.heap.size r1 q1) (f2 : Frm w.heap.size r2 q2) (hg : Rg y) (hk : Kw y) :
    D2 w0 ((w1.setRow b5 (sA y q1)).setRow b7 (sA y q2)) b5 b7 y q1 q2 := by
  have e51 : Ap b5 q1 := h.one.ap.frm f1 h.one.box.lt
  have e52 : Ap b5 q2 := h.a1.frm f2 h.one.box.lt
  have e71 : Ap b7 q1 := h.a2.frm f1 h.two.box.lt
  have e72 : Ap b7 q2 := h.two.ap.frm f2 h.two.box.lt
  have k5 := h.one.box.kept hb h.one.box.lt
  have k7 := h.two.box.kept hb h.two.box.lt
  have hbel := below_setRow (below_setRow (h.one.bel.trans (hb.mono h.one.bel.size)) h.one.lo (cs := sA y q1)) h.two.lo (cs := sA y q2)
  exact ⟨⟨(k5.rowSet (sA_len _ _)).other (Ne.symm h.ne) _, (h1.apRow e51).apRow e71, e51, hbel, h.one.lo⟩, ⟨(k7.other h.ne _).rowSet (sA_len _ _), (h2.apRow e52).apRow e72, e72, hbel, h.two.lo⟩, e52, e71, h.ne, hg, hk⟩
end Go.Proofs.Ytejcahkkpednfaa
