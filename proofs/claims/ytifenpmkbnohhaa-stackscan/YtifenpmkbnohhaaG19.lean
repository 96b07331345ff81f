/-
  Keys stay numbers of sixty-four bits; the document's example: plain.
  The document's example is run.
  Small helpers of the laws' walks: New of the document exactly; which configs may be.
  A state that is handed in, a config, a row of acts.
-/
import Derived.Test.YtifenpmkbnohhaaG18
import Derived.Test.YtifenpmkbnohhaaG08
import Derived.WalkKit
import Derived.ProofKit
import Derived.OpenShut
import Derived.ChangeOld
import Derived.Below
import Derived.ChangeSame
import Derived.Deep.Slices
import Derived.Lib.SmallJoins
namespace Go.Proofs.Ytifenpmkbnohhaa
open Go.RowKit
open Go.Proofs.StackM
set_option linter.unusedVariables false
theorem new_rg {c : Cf} (h : Cl c) : Rg (newS c) :=
  ⟨h, rfl, rfl, rfl, ⟨List.nodup_nil, List.nodup_nil, List.nodup_nil, (fun p hp => nomatch hp), (fun k hk => nomatch hk)⟩, (fun p hp => nomatch hp), by have := h.2.2.1; show ((0 : Nat) : Int) ≤ c.c - c.q; omega, by have := h.2.1; show ((0 : Nat) : Int) + ((0 : Nat) : Int) ≤ c.c; omega, by have := h.2.2.2; show ((0 : Nat) : Int) ≤ c.g; omega⟩
theorem kw_new (c : Cf) : Kw (newS c) := ⟨(fun p hp => nomatch hp), (fun k hk => nomatch hk), (fun k hk => nomatch hk)⟩
theorem kw_prS {s : St} (h : Kw s) (p : Pg) : Kw (prS s p) := ⟨fun q hq => h.1 q (wo_mem.1 hq).1, h.2.1, fun x hx => h.2.2 x (ls_mem.1 hx).1⟩
theorem kw_prune {s : St} (h : Kw s) : Kw (prune s) := prune_ind (P := Kw) (fun t p _ _ ht => kw_prS ht p) s h
theorem kw_loS {s : St} (h : Kw s) {p : Pg} (hp : p ∈ s.pg) : Kw (loS s p) := kw_prune ⟨fun q hq => h.1 q (wo_mem.1 hq).1, fun x hx => by
  rcases List.mem_append.1 hx with hx | hx
  · exact h.2.1 x hx
  · rw [List.mem_singleton.1 hx]; exact h.1 p hp, h.2.2⟩
theorem kw_lower {s : St} (h : Kw s) : Kw (lower s) := lower_ind (P := Kw) (fun t p _ hp ht => kw_loS ht (List.mem_of_getLast? hp)) s h
theorem kw_spS {s : St} (h : Kw s) {k : Int} (hk : k ∈ s.qu) : Kw (spS s k) := by
  unfold spS
  split
  · refine ⟨fun p hp => ?_, fun x hx => h.2.1 x (ls_mem.1 hx).1, fun x hx => ?_⟩
    · rcases List.mem_or_eq_of_mem_set hp with hp | rfl
      · exact h.1 p hp
      · exact h.2.1 k hk
    · rcases List.mem_append.1 hx with hx | hx
      · exact h.2.2 x hx
      · rw [List.mem_singleton.1 hx]; exact h.2.1 k hk
  · exact ⟨h.1, fun x hx => h.2.1 x (ls_mem.1 hx).1, h.2.2⟩
theorem kw_spill {s : St} (most : Int) (h : Kw s) : Kw (spill most s).1 := spill_ind (P := Kw) (fun t k r _ hq ht => kw_spS ht (by rw [hq]; simp)) s h
theorem kw_trim {s : St} (h : Kw s) : Kw (trim s) := trim_ind (P := Kw) (fun t k r _ _ ht => ⟨fun q hq => ht.1 q (wo_mem.1 hq).1, ht.2.1, fun x hx => ht.2.2 x (ls_mem.1 hx).1⟩) s h
theorem kw_gone {s : St} (h : Kw s) (k : Int) : Kw (gone s k) := ⟨fun q hq => h.1 q (wo_mem.1 hq).1, fun x hx => h.2.1 x (ls_mem.1 hx).1, fun x hx => h.2.2 x (ls_mem.1 hx).1⟩
theorem kw_top {s : St} (h : Kw s) {k : Int} (hk : K64 k) (d : Int) : Kw (top s k d) := ⟨fun p hp => by
  rcases List.mem_cons.1 hp with rfl | hp
  · exact hk
  · exact h.1 p hp, h.2.1, h.2.2⟩
theorem kw_raise {s : St} (h : Kw s) {k : Int} (hk : K64 k) : Kw (raise s k) := kw_lower (s := { top (gone s k) k 1 with ct := { s.ct with ra := up s.ct.ra } }) (kw_top (kw_gone h k) hk 1)
theorem kw_cool {s : St} (h : Kw s) {k : Int} (hk : K64 k) : Kw (cool s k) := by
  have h1 := kw_top (kw_gone h k) hk 2
  exact ⟨h1.1, fun x hx => by
    rcases List.mem_append.1 hx with hx | hx
    · exact h1.2.1 x hx
    · rw [List.mem_singleton.1 hx]; exact hk, h1.2.2⟩
theorem kw_touch {s : St} (h : Kw s) {k : Int} (hk : K64 k) : Kw (touch s k) := by
  have hh : Kw (hit s) := h
  unfold touch
  split
  · split
    · exact kw_prune ⟨fun p hp => by
        rcases List.mem_cons.1 hp with rfl | hp
        · exact hk
        · exact h.1 p (wo_mem.1 hp).1, h.2.1, h.2.2⟩
    · split
      · exact kw_prune (kw_raise hh hk)
      · exact kw_prune (kw_cool hh hk)
  · exact h
theorem kw_admit {s : St} (h : Kw s) {k : Int} (hk : K64 k) : Kw (admit s k) := by
  have hh : Kw (mis s) := h
  have h3 : Kw (trim (adm s k).1) := kw_trim (kw_spill _ (kw_gone hh k))
  unfold admit
  split
  · exact h
  · split
    · exact kw_prune (kw_raise h3 hk)
    · exact kw_prune (kw_cool h3 hk)
theorem kw_drop {s : St} (h : Kw s) (k : Int) : Kw (drop s k) := kw_prune (kw_gone h k)
theorem kw_resize {s : St} (h : Kw s) (c : Cf) : Kw (resize s c) := kw_trim (kw_spill _ (kw_lower (s := { s with cf := c }) h))
/-- the document's example -/
def exC : Cf := ⟨1, 3, 1, 2⟩
def ex1 : St := { newS exC with pg := [⟨1, 1, false, false⟩], ct := ⟨0, 1, 1, 0, 0, 0, 0, 0, 0, 0⟩ }
def ex2 : St := { newS exC with pg := [⟨2, 1, false, false⟩, ⟨1, 1, false, false⟩], ct := ⟨0, 2, 2, 0, 0, 0, 0, 0, 0, 0⟩ }
def ex3 : St := { newS exC with pg := [⟨3, 2, false, false⟩, ⟨2, 1, false, false⟩, ⟨1, 1, false, false⟩], qu := [3], ct := ⟨0, 3, 2, 0, 0, 0, 0, 0, 0, 0⟩ }
def ex4 : St := { newS exC with pg := [⟨4, 2, false, false⟩, ⟨3, 3, false, false⟩, ⟨2, 1, false, false⟩, ⟨1, 1, false, false⟩], qu := [4], gh := [3], ct := ⟨0, 4, 2, 0, 0, 1, 0, 0, 0, 0⟩ }
def ex5 : St := { newS exC with pg := [⟨4, 1, false, false⟩, ⟨3, 3, false, false⟩, ⟨2, 1, false, false⟩], qu := [1], gh := [3], ct := ⟨1, 4, 3, 1, 0, 1, 0, 0, 0, 0⟩ }
theorem exC_cl : Cl exC := by unfold Cl exC; decide
theorem ex_1 : admit (newS exC) 1 = ex1 ∧ admOut (newS exC) 1 = [] := by
  have hk : ¬ Kpt (newS exC) 1 := by decide
  have hs : adm (newS exC) 1 = (gone (mis (newS exC)) 1, []) := spill_done (by decide)
  unfold admit admOut
  rw [if_neg hk, if_neg hk, hs]
  have ht : trim (gone (mis (newS exC)) 1) = gone (mis (newS exC)) 1 := trim_done (by decide)
  dsimp only
  rw [ht, if_pos (Or.inr (by decide))]
  have hr : raise (gone (mis (newS exC)) 1) 1 = ex1 := by
    unfold raise
    rw [lower_done (by decide)]
    rfl
  rw [hr]
  exact ⟨prune_hot (p := ⟨1, 1, false, false⟩) rfl rfl, rfl⟩
theorem ex_2 : admit ex1 2 = ex2 ∧ admOut ex1 2 = [] := by
  have hk : ¬ Kpt ex1 2 := by decide
  have hs : adm ex1 2 = (gone (mis ex1) 2, []) := spill_done (by decide)
  unfold admit admOut
  rw [if_neg hk, if_neg hk, hs]
  have ht : trim (gone (mis ex1) 2) = gone (mis ex1) 2 := trim_done (by decide)
  dsimp only
  rw [ht, if_pos (Or.inr (by decide))]
  have hr : raise (gone (mis ex1) 2) 2 = ex2 := by
    unfold raise
    rw [lower_done (by decide)]
    rfl
  rw [hr]
  exact ⟨prune_hot (p := ⟨1, 1, false, false⟩) rfl rfl, rfl⟩
theorem ex_3 : admit ex2 3 = ex3 ∧ admOut ex2 3 = [] := by
  have hk : ¬ Kpt ex2 3 := by decide
  have hs : adm ex2 3 = (gone (mis ex2) 3, []) := spill_done (by decide)
  unfold admit admOut
  rw [if_neg hk, if_neg hk, hs]
  have ht : trim (gone (mis ex2) 3) = gone (mis ex2) 3 := trim_done (by decide)
  dsimp only
  rw [ht, if_neg (by decide)]
  have hr : cool (gone (mis ex2) 3) 3 = ex3 := rfl
  rw [hr]
  exact ⟨prune_hot (p := ⟨1, 1, false, false⟩) rfl rfl, rfl⟩
theorem ex_4 : admit ex3 4 = ex4 ∧ admOut ex3 4 = [3] := by
  have hk : ¬ Kpt ex3 4 := by decide
  have hs : adm ex3 4 = (spS (gone (mis ex3) 4) 3, [3]) := by
    unfold adm
    rw [spill_step (k := 3) (r := []) (by decide) rfl, spill_done (by decide)]
  unfold admit admOut
  rw [if_neg hk, if_neg hk, hs]
  have ht : trim (spS (gone (mis ex3) 4) 3) = spS (gone (mis ex3) 4) 3 := trim_done (by decide)
  dsimp only
  rw [ht, if_neg (by decide)]
  have hr : cool (spS (gone (mis ex3) 4) 3) 4 = ex4 := rfl
  rw [hr]
  exact ⟨prune_hot (p := ⟨1, 1, false, false⟩) rfl rfl, rfl⟩
theorem ex_5 : touch ex4 4 = ex5 ∧ Kpt ex4 4 := by
  have hk : Kpt ex4 4 := by decide
  refine ⟨?_, hk⟩
  unfold touch
  rw [if_pos hk, if_neg (by decide), if_pos (Or.inl (by decide))]
  have hr : raise (hit ex4) 4 = ex5 := by
    unfold raise
    rw [lower_step (p := ⟨1, 1, false, false⟩) (by decide) rfl]
    unfold loS
    rw [prune_hot (p := ⟨2, 1, false, false⟩) rfl rfl, lower_done (by decide)]
    rfl
  rw [hr]
  exact prune_hot (p := ⟨2, 1, false, false⟩) rfl rfl
end Go.Proofs.Ytifenpmkbnohhaa
namespace Go.Proofs.Ytifenpmkbnohhaa
open Go.RowKit
open Go.Proofs.StackM
set_option linter.unusedVariables false
def exS : Nat → St | 0 => newS exC | 1 => ex1 | 2 => ex2 | 3 => ex3 | _ => ex4
def exO : Nat → List Int | 4 => [3] | _ => []
theorem ex_step {n : Nat} (h : n < 4) : admit (exS n) ((n : Int) + 1) = exS (n + 1) ∧ admOut (exS n) ((n : Int) + 1) = exO (n + 1) := by
  have : n = 0 ∨ n = 1 ∨ n = 2 ∨ n = 3 := by omega
  rcases this with rfl | rfl | rfl | rfl
  · exact ex_1
  · exact ex_2
  · exact ex_3
  · exact ex_4
theorem ex_rg : ∀ {n : Nat}, n ≤ 4 → Rg (exS n) ∧ Kw (exS n)
  | 0, _ => ⟨new_rg exC_cl, kw_new _⟩
  | n + 1, h => by
    obtain ⟨h1, h2⟩ := ex_rg (n := n) (by omega)
    have e := (ex_step (n := n) (by omega)).1
    rw [← e]
    exact ⟨admit_rg h1 _, kw_admit h2 ⟨by omega, by omega⟩⟩
theorem rg_lim' {s : St} (h : Rg s) : Lim s 10000 := (rg_lim h).up (by omega)
theorem new_ex (w : World) : Calls Try.prog 19 #[.agg #[.int .i64 1, .int .i64 3, .int .i64 1, .int .i64 2]] w fun e w' => ∃ r', e = .returned (.tuple #[sV (newS exC) r', .int .i64 0]) ∧ SR w' (newS exC) r' ∧ Below w.heap.size w w' := by
  have h := pnew_at exC w
  simp only [if_pos exC_cl] at h
  exact h.mono fun e w' ⟨⟨r', h1, h2, _⟩, h3⟩ => ⟨r', h1, h2, h3⟩
/-- a box of a state, and its rows -/
structure BS (w0 : World) (w : World) (b : Nat) (s : St) (r : R3) : Prop where
  box : Box w b (sA s r)
  rows : SR w s r
  ap : Ap b r
  bel : Below w0.heap.size w0 w
  lo : w0.heap.size ≤ b
theorem BS.keep {w0 w w' : World} {b : Nat} {s : St} {r : R3} (x : BS w0 w b s r) (hb : Below w.heap.size w w') : BS w0 w' b s r := ⟨x.box.kept hb x.box.lt, x.rows.kept hb, x.ap, x.bel.trans (hb.mono x.bel.size), x.lo⟩
theorem BS.new {w0 w : World} {s : St} {r : R3} (hr : SR w s r) (hb : Below w0.heap.size w0 w) : BS w0 (w.alloc (.cells (sA s r) 31)) w.heap.size s r :=
  ⟨box_alloc w (sA s r) (sA_len _ _), hr.kept (alloc_below w _), hr.old.ap (Nat.le_refl _), hb.trans ((alloc_below w _).mono hb.size), hb.size⟩
theorem BS.put {w0 w w1 : World} {b : Nat} {s s1 : St} {r r1 : R3} (x : BS w0 w b s r) (hb : Below w.heap.size w w1) (hr : SR w1 s1 r1) (hf : Frm w.heap.size r r1) : BS w0 (w1.setRow b (sA s1 r1)) b s1 r1 :=
  ⟨(x.box.kept hb x.box.lt).rowSet (sA_len _ _), hr.apRow (x.ap.frm hf x.box.lt), x.ap.frm hf x.box.lt, below_setRow (x.bel.trans (hb.mono x.bel.size)) x.lo, x.lo⟩
theorem urow_lit (w : World) (k : Int) : URow (w.alloc (.cells #[.int .u64 k] 27)) (some ⟨w.heap.size, 0, none⟩) 1 [k] := alloc_vrow w (uvals [k]) 27 1
set_option maxHeartbeats 2000000 in
set_option maxRecDepth 100000 in
theorem alive_at (w : World) : Calls Try.prog 9 #[] w fun e w' => e = .returned (.bool true) ∧ Below w.heap.size w w' := by
  go_enter Try.func9, Try.ntmps9
  go_wp2_with fail
  refine (new_ex w).mono ?_
  rintro e w1 ⟨r0, rfl, hr0, hb0⟩
  obtain ⟨b1, hb1e⟩ : ∃ b, b = w1.heap.size := ⟨_, rfl⟩
  obtain ⟨w2, hw2⟩ : ∃ w2, w2 = w1.alloc (.cells (sA (newS exC) r0) 31) := ⟨_, rfl⟩
  have H2 : Hid (BS w w2 b1 (newS exC) r0) := Lib.hid (by rw [hw2, hb1e]; exact BS.new hr0 hb0)
  have HW2 := Lib.hid (And.intro hw2 hb1e)
  clear hr0 hb0 hb1e hw2
  go_wp2_with (first | fail | (refine st31n rfl (.tmp 1) (.tmp 10) rfl (newS exC) r0 rfl rfl _ rfl ?_; rw [← HW2.out.1, ← HW2.out.2]))
  go_loopw [3, 4] (fun o k wr => ∃ (n : Nat) (r : R3) (A : Option Addr) (c : Nat), n ≤ 4 ∧ k = .int .u64 ((n : Int) + 1) ∧ o = .slice A (exO n).length c ∧ Hid (BS w wr b1 (exS n) r ∧ UR wr A c (exO n))) (fun _ k _ => 6 - (intOf k).toNat)
  case atStart => exact ⟨0, r0, none, 0, by omega, by go_num, rfl, Lib.hid ⟨H2.out, ur_nil _⟩⟩
  case round =>
    clear H2 HW2
    obtain ⟨n, r, A, c, hn, rfl, rfl, HB⟩ := hrel
    by_cases hlt : n < 4
    · have hle : (n : Int) + 1 ≤ 4 := by omega
      have hwr : IntKind.u64.wrap ((n : Int) + 1 + 1) = (n : Int) + 1 + 1 := by rw [wrap_up]; unfold up; omega
      have C12 := Lib.hid (fun V (hV : BS w V b1 (exS n) r) => padmit_at (exS n) r ((n : Int) + 1) (ex_rg (by omega)).1 (rg_lim' (ex_rg (by omega)).1) (ex_rg (by omega)).2 V hV.rows)
      obtain ⟨e1, e2⟩ := ex_step hlt
      rw [e1, e2] at C12
      clear e1 e2
      go_wp2_with (first | fail | refine ld31 rfl (.tmp 1) rfl _ rfl _ HB.out.1.box ?_)
      refine (C12.out _ HB.out.1).mono ?_
      rintro e w3 ⟨r3, A3, n3, c3, rfl, hn3, hr3, hu3, hA3, hf3, hb3⟩
      have x3 := HB.out.1.put hb3 hr3 hf3
      have HB3 := Lib.hid (HB.out.1.box.kept hb3 HB.out.1.box.lt)
      have hlt1 := HB.out.1.box.lt
      have H4 : Hid (BS w (w3.setRow b1 (sA (exS (n + 1)) r3)) b1 (exS (n + 1)) r3 ∧ UR (w3.setRow b1 (sA (exS (n + 1)) r3)) A3 c3 (exO (n + 1))) := Lib.hid ⟨x3, ⟨vrow_row hu3.row (fun a e => by have := hA3 a e; omega), fun a e => by rw [size_setRow]; exact hu3.lt a e, hu3.le⟩⟩
      subst hn3
      clear hr3 hu3 hA3 hf3 hb3 x3 hlt1 C12
      go_wp2_with (first | fail | refine st31 rfl (.tmp 1) (.tmp 20) rfl _ (exS (n + 1)) r3 rfl rfl _ HB3.out ?_)
      go_round
      case rel => exact ⟨n + 1, r3, A3, c3, by omega, by go_num, rfl, H4⟩
      case measure => simp only [intOf]; omega
    · obtain rfl : n = 4 := by omega
      have C11 := Lib.hid (fun V (hV : BS w V b1 ex4 r) => ptouch_at ex4 r 4 (ex_rg (n := 4) (by omega)).1 (rg_lim' (ex_rg (n := 4) (by omega)).1) (ex_rg (n := 4) (by omega)).2 V hV.rows)
      rw [ex_5.1, decide_eq_true ex_5.2] at C11
      have HB4 : Hid (BS w wr b1 ex4 r ∧ UR wr A c [3]) := HB
      clear HB
      go_wp2_with (first | fail | refine ld31 rfl (.tmp 1) rfl _ rfl _ HB4.out.1.box ?_)
      refine (C11.out _ HB4.out.1).mono ?_
      rintro e w3 ⟨r3, rfl, hr3, hf3, hb3⟩
      obtain ⟨b2, hb2e⟩ : ∃ b, b = w3.heap.size := ⟨_, rfl⟩
      obtain ⟨w4, hw4⟩ : ∃ w4, w4 = w3.alloc (.cells (sA ex5 r3) 31) := ⟨_, rfl⟩
      have H4 : Hid (BS w w4 b2 ex5 r3 ∧ UR w4 A c [3]) := Lib.hid (by
        rw [hw4, hb2e]
        exact ⟨BS.new hr3 (HB4.out.1.bel.trans (hb3.mono HB4.out.1.bel.size)), (HB4.out.2.kept hb3).kept (alloc_below _ _)⟩)
      have HW4 := Lib.hid (And.intro hw4 hb2e)
      clear hr3 hf3 hb3 hb2e hw4 HB4 C11
      go_wp2_with (first | fail | (refine st31n rfl (.tmp 5) (.tmp 26) rfl ex5 r3 rfl rfl _ rfl ?_; rw [← HW4.out.1, ← HW4.out.2]))
      have h5r : Rg ex5 := ex_5.1 ▸ touch_rg (ex_rg (n := 4) (by omega)).1 4
      have h5k : Kw ex5 := ex_5.1 ▸ kw_touch (ex_rg (n := 4) (by omega)).2 ⟨by omega, by omega⟩
      have HR := Lib.hid (And.intro h5r h5k)
      clear h5r h5k HW4
      refine Calls.mono (same_at [3] [3] A (some ⟨w4.heap.size, 0, none⟩) (exO 4).length 1 c 1 rfl rfl (by decide) (by decide) (w4.alloc (.cells #[.int .u64 3] 27)) (H4.out.2.kept (alloc_below _ _)).row (urow_lit w4 3)) ?_
      rintro e w5 ⟨rfl, hb5⟩
      rw [show decide (([3] : List Int) = [3]) = true from rfl]
      have H5 := Lib.hid ((H4.out.1.keep (alloc_below w4 (.cells #[.int .u64 3] 27))).keep hb5)
      clear hb5 H4
      go_wp2_with (first | fail | refine ld31g rfl (.tmp 5) rfl _ rfl _ H5.out.box ?_)
      refine (right_yes ex5 r3 HR.out.1 ((rg_lim HR.out.1).up (by omega)) HR.out.2 w5 H5.out.rows).mono ?_
      rintro e w6 ⟨rfl, hb6⟩
      have H6 := Lib.hid (H5.out.keep hb6)
      clear hb6 H5
      have d5 := at5 H6.out.box
      have d6 := at6 H6.out.box
      have h3 : 0 < ex5.pg.length := by decide
      obtain ⟨b, off, ha, hc⟩ := H6.out.rows.pg.row.at h3
      obtain ⟨c0, c1, c2, c3⟩ := hc 0 h3
      have e0 : ex5.pg[0] = ⟨4, 1, false, false⟩ := rfl
      have el : ex5.pg.length = 3 := rfl
      have eq1 : ex5.qu.length = 1 := rfl
      rw [e0] at c0 c1 c2 c3
      simp only [Nat.zero_mul, Nat.add_zero] at c0 c1 c2 c3
      rw [ha, el] at d5
      rw [eq1] at d6
      clear hc ha h3 e0 el eq1
      go_wp2_with fail
      refine Calls.mono (same_at [1] [1] r3.a2 (some ⟨w6.heap.size, 0, none⟩) 1 1 r3.c2 1 rfl rfl (by decide) (by decide) (w6.alloc (.cells #[.int .u64 1] 27)) (H6.out.keep (alloc_below _ _)).rows.qu.row (urow_lit w6 1)) ?_
      rintro e w7 ⟨rfl, hb7⟩
      rw [show decide (([1] : List Int) = [1]) = true from rfl]
      have H7 := Lib.hid ((H6.out.keep (alloc_below w6 (.cells #[.int .u64 1] 27))).keep hb7)
      clear hb7 H6 d5 d6 c0 c1 c2 c3
      have d13 : w7.cell? ⟨b2, 13, none⟩ = some (.int .u64 1) := at13 H7.out.box
      have d7 : w7.cell? ⟨b2, 7, none⟩ = some (.slice r3.a3 1 r3.c3) := at7 H7.out.box
      go_wp2_with fail
      refine Calls.mono (same_at [3] [3] r3.a3 (some ⟨w7.heap.size, 0, none⟩) 1 1 r3.c3 1 rfl rfl (by decide) (by decide) (w7.alloc (.cells #[.int .u64 3] 27)) (H7.out.keep (alloc_below _ _)).rows.gh.row (urow_lit w7 3)) ?_
      rintro e w8 ⟨rfl, hb8⟩
      rw [show decide (([3] : List Int) = [3]) = true from rfl]
      have H8 := Lib.hid ((H7.out.keep (alloc_below w7 (.cells #[.int .u64 3] 27))).keep hb8)
      clear hb8 H7 d13 d7
      go_wp2_with fail
      go_ret
      exact ⟨rfl, H8.out.bel⟩
end Go.Proofs.Ytifenpmkbnohhaa
namespace Go.Proofs.Ytifenpmkbnohhaa
open Go.RowKit
open Go.Proofs.StackM
set_option linter.unusedVariables false
theorem mby_cl (c : Cf) : Mby c ↔ Cl c := by
  unfold Mby Mb Cl
  constructor
  · rintro ⟨⟨h1, h2, h3, h4⟩, h5⟩; exact ⟨h5, h2, h3, h4⟩
  · rintro ⟨h5, h2, h3, h4⟩; exact ⟨⟨by omega, h2, h3, h4⟩, h5⟩
theorem lawMay_cl (c : Cf) (b : Bool) (hb : b = true ↔ Cl c) (w : World) : Calls Try.prog 20 #[cV c] w fun e w' => e = .returned (.bool b) ∧ Below w.heap.size w w' :=
  (lawMay_at c w).mono fun e w' ⟨h1, h2⟩ => ⟨by
    rw [h1]
    have : decide (Mby c) = b := by
      cases b with
      | true => exact decide_eq_true ((mby_cl c).2 (hb.1 rfl))
      | false => exact decide_eq_false fun h => by have := hb.2 ((mby_cl c).1 h); cases this
    rw [this], h2⟩
set_option maxHeartbeats 2000000 in
set_option maxRecDepth 100000 in
theorem new_at0 (c : Cf) (w : World) : Calls Try.prog 21 #[cV c] w fun e w' => e = .returned (sV (newS c) R0) ∧ Below w.heap.size w w' := by
  obtain ⟨w1, hw1⟩ : ∃ w1, w1 = (w.alloc (.cells (cA c) 24)).alloc (.cells (sA S0 R0) 31) := ⟨_, rfl⟩
  have hb1 := alloc_below w (.cells (cA c) 24)
  have hb2 := alloc_below (w.alloc (.cells (cA c) 24)) (.cells (sA S0 R0) 31)
  have hc : w1.heap[w.heap.size]? = some (.cells (cA c) 24 (0, 0)) := by
    rw [hw1, hb2.block _ (by simp)]
    exact heap_alloc_new _ _
  have hx : Box w1 (w.heap.size + 1) (sA S0 R0) := by
    have := box_alloc (w.alloc (.cells (cA c) 24)) (sA S0 R0) rfl
    rw [hw1]; simpa using this
  have hb : Below w.heap.size w w1 := by rw [hw1]; exact hb1.trans (hb2.mono hb1.size)
  have hA : (w.alloc (.cells #[.int .i64 c.p, .int .i64 c.c, .int .i64 c.q, .int .i64 c.g] 24)).alloc (.cells #[.int .i64 0, .int .i64 0, .int .i64 0, .int .i64 0, .int .i64 0, .slice none 0 0, .slice none 0 0, .slice none 0 0, .int .i64 0, .int .i64 0, .int .u64 0, .int .u64 0, .int .u64 0, .int .u64 0, .int .u64 0, .int .u64 0, .int .u64 0, .int .u64 0, .int .u64 0, .int .u64 0] 31) = w1 := hw1.symm
  have HA := Lib.hid hA
  have HC := Lib.hid hc
  have HX := Lib.hid hx
  have HB := Lib.hid hb
  clear hw1 hb1 hb2 hc hx hb hA
  go_enter Try.func21, Try.ntmps21
  go_wp2_with (first | fail | (rw [HA.out]; refine wpList_load_row rfl 24 (.tmp 1) rfl w.heap.size rfl 24 (cA c) (0, 0) _ HC.out Try.underlying24 rfl info24 ?_) | refine bld31 rfl (.tmp 3) rfl c rfl ?_ | refine st31 rfl (.tmp 2) (.tmp 4) rfl _ (newS c) R0 rfl rfl _ HX.out ?_)
  refine bodyPost_ret (results_s rfl _ _ _ _ rfl (HX.out.rowSet (sA_len _ _))) rfl ?_
  exact ⟨rfl, below_setRow HB.out (Nat.le_succ _)⟩
/-- what the calls of a region need -/
theorem lim_new (c : Cf) : Lim (newS c) 100000 := ⟨Nat.zero_le _, Nat.zero_le _, Nat.zero_le _⟩
theorem lim_zero : Lim S0 100000 := ⟨Nat.zero_le _, Nat.zero_le _, Nat.zero_le _⟩
theorem kw_zero : Kw S0 := ⟨(fun p hp => nomatch hp), (fun k hk => nomatch hk), (fun k hk => nomatch hk)⟩
/-- a config's box -/
def CB (w : World) (g : Nat) (c : Cf) : Prop := w.heap[g]? = some (.cells (cA c) 24 (0, 0))
theorem CB.kept {w w' : World} {g B : Nat} {c : Cf} (h : CB w g c) (hb : Below B w w') (hB : g < B) : CB w' g c := by unfold CB at *; rw [hb.block g hB]; exact h
theorem CB.lt {w : World} {g : Nat} {c : Cf} (h : CB w g c) : g < w.heap.size := (Array.getElem?_eq_some_iff.1 h).1
theorem CB.load {ops : Array Oper} {rest : List Oper} {o : Oper} {a : Act} {w : World} {Q : Exit → Act → World → Prop} (hgd : o.guard = none) (x : Operand) (ho : o.op = .load 24 x) (g : Nat) (hx : a.eval x = .pointer (some ⟨g, 0, none⟩)) (c : Cf) (h : CB w g c)
    (hK : wpList Try.prog ops Q rest (a.put o.dst (cV c)) w) : wpList Try.prog ops Q (o :: rest) a w :=
  wpList_load_row hgd 24 x ho g hx 24 (cA c) (0, 0) _ h Try.underlying24 rfl info24 hK
theorem CB.loadI {w : World} {g : Nat} {c : Cf} (h : CB w g c) : (Instr.loadAt 24 (.pointer (some ⟨g, 0, none⟩))).run Try.prog w = .ok (cV c) w := by
  have h2 : (loadVar 24 ⟨g, 0, none⟩).run Try.prog w = .ok (cV c) w := run_loadVar_row (P := Try.prog) w g 24 24 (cA c) (0, 0) _ h Try.underlying24 rfl (by kernel_rfl)
  simp [Instr.loadAt, Instr.sureAddr, h2]
theorem qld24 {ops : Array Oper} {rest : List Oper} {o : Oper} {a : Act} {C : World → Prop} {Q : Act → Prop} (x : Operand) (ho : o.op = .load 24 x) (hw : Region.wanted o (yielded ops a.tmps) = true) (g : Nat) (hx : a.eval x = .pointer (some ⟨g, 0, none⟩)) (c : Cf) (h : ∀ w, C w → CB w g c)
    (hK : wpQuiet Try.prog ops C Q rest (a.put o.dst (cV c))) : wpQuiet Try.prog ops C Q (o :: rest) a := by
  refine wpQuiet_step fun K hK2 => ?_
  rw [if_pos hw]
  refine ⟨cV c, fun w hC => ?_, hK2 _ hK⟩
  unfold Oper.quietAt
  have hb := h w hC
  simp [execOp, ho, hx, hb.loadI, Oper.quietUpon]
theorem qbld31z {ops : Array Oper} {rest : List Oper} {o : Oper} {a : Act} {C : World → Prop} {Q : Act → Prop} (ho : o.op = .build 31 #[]) (hw : Region.wanted o (yielded ops a.tmps) = true)
    (hK : wpQuiet Try.prog ops C Q rest (a.put o.dst (sV S0 R0))) : wpQuiet Try.prog ops C Q (o :: rest) a := by
  refine wpQuiet_step fun K hK2 => ?_
  rw [if_pos hw]
  refine ⟨sV S0 R0, fun w hC => ?_, hK2 _ hK⟩
  unfold Oper.quietAt
  have := bld31z w
  simp [execOp, ho, this, Oper.quietUpon]
end Go.Proofs.Ytifenpmkbnohhaa
namespace Go.Proofs.Ytifenpmkbnohhaa
open Go.ChangeShapes Go.WideShapes Go.ChangeAt Go.RowKit
open Go.Proofs.StackM
set_option linter.unusedVariables false
theorem cells59 : Try.prog.cellsOf 59 = 4 := by kernel_rfl
theorem cells45 : Try.prog.cellsOf 45 = 6 := by kernel_rfl
theorem cells24 : Try.prog.cellsOf 24 = 4 := by kernel_rfl
theorem cells25 : Try.prog.cellsOf 25 = 1 := by kernel_rfl
theorem cells26 : Try.prog.cellsOf 26 = 1 := by kernel_rfl
theorem cells27 : Try.prog.cellsOf 27 = 1 := by kernel_rfl
theorem cells56 : Try.prog.cellsOf 56 = 1 := by kernel_rfl
theorem cells4 : Try.prog.cellsOf 4 = 1 := by kernel_rfl
theorem cells3 : Try.prog.cellsOf 3 = 1 := by kernel_rfl
theorem cells22 : Try.prog.cellsOf 22 = 1 := by kernel_rfl
theorem list4 {α : Type} {l : List α} (h : l.length = 4) : ∃ a0 a1 a2 a3, l = [a0, a1, a2, a3] := by
  match l, h with
  | [a0, a1, a2, a3], _ => exact ⟨a0, a1, a2, a3, rfl⟩
theorem wf_u64 {n : Int} (h : (Lit.int .u64 n).wf = true) : K64 n := by
  have := Go.bounds_u64 h; unfold K64; omega
theorem wide_int {P : Program} {w : World} {r : Reach} {base : Nat} {t : TypeId} {k : IntKind} {v : Value} (ht : P.underlying t = some (.int k)) (h : Cell.okWide P w r base t v) : ∃ n, v = .int k n := by
  unfold Cell.okWide Cell.ok at h
  rw [ht] at h
  cases v <;> simp at h
  obtain ⟨rfl, _⟩ := h
  exact ⟨_, rfl⟩
theorem wide_slice {P : Program} {w : World} {r : Reach} {base : Nat} {t e : TypeId} {v : Value} (ht : P.underlying t = some (.slice e)) (h : Cell.okWide P w r base t v) :
    v = .slice none 0 0 ∨ ∃ b off len cap, v = .slice (some ⟨b, off, none⟩) len cap ∧ len ≤ cap ∧ b < w.heap.size := by
  unfold Cell.okWide Cell.ok at h
  rw [ht] at h
  cases v <;> simp at h
  rename_i A len cap
  cases A with
  | none =>
    left
    cases len <;> cases cap <;> simp at h
    rfl
  | some a =>
    right
    simp only at h
    obtain ⟨h1, _, _, h3, row, cells, h4, _⟩ := h
    obtain ⟨b, off, sp⟩ := a
    simp only at h3 h4
    subst h3
    refine ⟨b, off, len, cap, rfl, h1, ?_⟩
    unfold World.shape? at h4
    cases hb : w.heap[b]? with
    | none => rw [hb] at h4; simp at h4
    | some o => exact (Array.getElem?_eq_some_iff.1 hb).1
theorem pick_list {α : Type} {φ : Nat → α → Prop} : ∀ (n : Nat), (∀ i, i < n → ∃ a, φ i a) → ∃ l : List α, l.length = n ∧ ∀ i (hi : i < l.length), φ i l[i]
  | 0, _ => ⟨[], rfl, fun i hi => absurd hi (Nat.not_lt_zero _)⟩
  | n + 1, h => by
    obtain ⟨l, hl, hφ⟩ := pick_list n fun i hi => h i (by omega)
    obtain ⟨a, ha⟩ := h n (by omega)
    refine ⟨l ++ [a], by simp [hl], fun i hi => ?_⟩
    by_cases hin : i < l.length
    · rw [List.getElem_append_left hin]; exact hφ i hin
    · have : i = n := by simp at hi; omega
      subst this
      rw [List.getElem_append_right (by omega)]
      simpa [hl] using ha
theorem cell_row {w : World} {base b off i n : Nat} {cs : List Value} (h : w.cells? base ((⟨b, off, none⟩ : Addr).add i) n = some cs) : cs.length = n ∧ ∀ j u, cs[j]? = some u → w.cell? ⟨b, off + i + j, none⟩ = some u := by
  obtain ⟨_, h2, h3⟩ := World.cells?_some h
  refine ⟨h2, fun j u hj => ?_⟩
  have := h3 j (by have := (List.getElem?_eq_some_iff.1 hj).1; omega)
  rw [hj, Lib.add_plain, Lib.add_plain] at this
  exact this
section
variable {H : Type} {enc : TypeId × Value → H} {w : World} {base : Nat} {spare : Nat → Bool} {held : Bool}
theorem open_pages {b off len cap fuel : Nat} {x : DataW H × List MemPlace} (h : DataW.trod enc Try.prog w base spare held fuel 25 [Value.slice (some ⟨b, off, none⟩) len cap] = some x) :
    ∃ l : List Pg, l.length = len ∧ (∀ p ∈ l, K64 p.key) ∧ ∀ j (hj : j < (pvals l).length), w.cell? ⟨b, off + j, none⟩ = some (pvals l)[j] := by
  rcases Go.Deep.open_slice Try.underlying25 h with ⟨hcs, _⟩ | ⟨a, l, c, m, n, D, Pl, hcs, _, hl, hm, hmm, _, hel⟩
  · simp at hcs
  · simp only [List.cons.injEq, Value.slice.injEq, Option.some.injEq, and_true] at hcs
    obtain ⟨rfl, rfl, rfl⟩ := hcs
    have hml : len ≤ m := by rw [hmm]; split <;> omega
    have key : ∀ i, i < len → ∃ p : Pg, K64 p.key ∧ ∀ j u, ([.int .u64 p.key, .int .i64 p.kind, .bool p.test, .bool p.mark] : List Value)[j]? = some u → w.cell? ⟨b, off + i * 4 + j, none⟩ = some u := by
      intro i hi
      obtain ⟨cs', hc, ht⟩ := hel i (by omega)
      rw [cells59] at hc
      obtain ⟨hlen, hcc⟩ := cell_row hc
      obtain ⟨xs, n', _, _, _, hxl, hf⟩ := DataW.trod_struct Try.underlying59 ht
      have hxl' : xs.length = 4 := hxl
      obtain ⟨v0, v1, v2, v3, rfl⟩ := list4 hlen
      have g0 : DataW.trod enc Try.prog w base spare held n' 27 ((([v0, v1, v2, v3] : List Value).drop 0).take (Try.prog.cellsOf 27)) = xs[0]? := hf 0 _ rfl
      have g1 : DataW.trod enc Try.prog w base spare held n' 56 ((([v0, v1, v2, v3] : List Value).drop 1).take (Try.prog.cellsOf 56)) = xs[1]? := hf 1 _ rfl
      have g2 : DataW.trod enc Try.prog w base spare held n' 4 ((([v0, v1, v2, v3] : List Value).drop 2).take (Try.prog.cellsOf 4)) = xs[2]? := hf 2 _ rfl
      have g3 : DataW.trod enc Try.prog w base spare held n' 4 ((([v0, v1, v2, v3] : List Value).drop 3).take (Try.prog.cellsOf 4)) = xs[3]? := hf 3 _ rfl
      have ex : ∀ i : Nat, i < 4 → ∃ y, xs[i]? = some y := fun i hi => ⟨_, List.getElem?_eq_getElem (by omega)⟩
      obtain ⟨y0, e0⟩ := ex 0 (by omega)
      obtain ⟨y1, e1⟩ := ex 1 (by omega)
      obtain ⟨y2, e2⟩ := ex 2 (by omega)
      obtain ⟨y3, e3⟩ := ex 3 (by omega)
      rw [e0] at g0; rw [e1] at g1; rw [e2] at g2; rw [e3] at g3
      simp only [cells27, cells56, cells4, List.drop_zero, List.drop_succ_cons, List.take_succ_cons, List.take_zero] at g0 g1 g2 g3
      obtain ⟨k, hk, _, wk⟩ := DataW.trod_int Try.underlying27 g0
      obtain ⟨d, hd, _, _⟩ := DataW.trod_int Try.underlying56 g1
      obtain ⟨t, ht2, _⟩ := DataW.trod_bool Try.underlying4 g2
      obtain ⟨u, hu, _⟩ := DataW.trod_bool Try.underlying4 g3
      cases hk; cases hd; cases ht2; cases hu
      exact ⟨⟨k, d, t, u⟩, wf_u64 wk, hcc⟩
    obtain ⟨l, hl2, hφ⟩ := pick_list len key
    refine ⟨l, hl2, fun p hp => ?_, fun j hj => ?_⟩
    · obtain ⟨i, hi, rfl⟩ := List.getElem_of_mem hp
      exact (hφ i hi).1
    · have hj4 : j < l.length * 4 := by rw [← pvals_len]; exact hj
      have hi : j / 4 < l.length := by omega
      have hm := (hφ (j / 4) hi).2
      obtain ⟨p0, p1, p2, p3⟩ := pvals_at l (j / 4) hi
      have hjj : j = j / 4 * 4 + j % 4 := by omega
      have h4 : j % 4 = 0 ∨ j % 4 = 1 ∨ j % 4 = 2 ∨ j % 4 = 3 := by omega
      have hv : ∀ u, (pvals l)[j]? = some u → (pvals l)[j] = u := fun u hu => (List.getElem?_eq_some_iff.1 hu).2
      rcases h4 with e | e | e | e
      · have e2 : j / 4 * 4 + 0 = j := by omega
        have e3 : off + j / 4 * 4 + 0 = off + j := by omega
        have hq := p0
        rw [show j / 4 * 4 = j by omega] at hq
        have := hm 0 _ rfl
        rw [e3] at this
        rw [hv _ hq]
        exact this
      · have e2 : j / 4 * 4 + 1 = j := by omega
        have e3 : off + j / 4 * 4 + 1 = off + j := by omega
        have hq := p1
        rw [show j / 4 * 4 + 1 = j by omega] at hq
        have := hm 1 _ rfl
        rw [e3] at this
        rw [hv _ hq]
        exact this
      · have e2 : j / 4 * 4 + 2 = j := by omega
        have e3 : off + j / 4 * 4 + 2 = off + j := by omega
        have hq := p2
        rw [show j / 4 * 4 + 2 = j by omega] at hq
        have := hm 2 _ rfl
        rw [e3] at this
        rw [hv _ hq]
        exact this
      · have e2 : j / 4 * 4 + 3 = j := by omega
        have e3 : off + j / 4 * 4 + 3 = off + j := by omega
        have hq := p3
        rw [show j / 4 * 4 + 3 = j by omega] at hq
        have := hm 3 _ rfl
        rw [e3] at this
        rw [hv _ hq]
        exact this
theorem open_keys {b off len cap fuel : Nat} {x : DataW H × List MemPlace} (h : DataW.trod enc Try.prog w base spare held fuel 26 [Value.slice (some ⟨b, off, none⟩) len cap] = some x) :
    ∃ l : List Int, l.length = len ∧ (∀ k ∈ l, K64 k) ∧ ∀ j (hj : j < (uvals l).length), w.cell? ⟨b, off + j, none⟩ = some (uvals l)[j] := by
  rcases Go.Deep.open_slice1 Try.underlying26 cells27 h with ⟨hcs, _⟩ | ⟨a, l, c, m, n, V, D, Pl, hcs, _, hl, hm, hmm, _, hel⟩
  · simp at hcs
  · simp only [List.cons.injEq, Value.slice.injEq, Option.some.injEq, and_true] at hcs
    obtain ⟨rfl, rfl, rfl⟩ := hcs
    have hml : len ≤ m := by rw [hmm]; split <;> omega
    have key : ∀ i, i < len → ∃ k : Int, K64 k ∧ w.cell? ⟨b, off + i, none⟩ = some (.int .u64 k) := by
      intro i hi
      obtain ⟨hc, ht⟩ := hel i (by omega)
      obtain ⟨k, hk, _, wk⟩ := DataW.trod_int Try.underlying27 ht
      rw [Lib.add_plain] at hc
      simp only [List.cons.injEq, and_true] at hk
      exact ⟨k, wf_u64 wk, by rw [hc, hk]⟩
    obtain ⟨l, hl2, hφ⟩ := pick_list len key
    refine ⟨l, hl2, fun p hp => ?_, fun j hj => ?_⟩
    · obtain ⟨i, hi, rfl⟩ := List.getElem_of_mem hp
      exact (hφ i hi).1
    · have hj2 : j < l.length := by rw [← uvals_len]; exact hj
      rw [(hφ j hj2).2]
      simp [uvals]
set_option maxRecDepth 100000 in
theorem open_prow {r : Reach} {b0 fuel : Nat} {v : Value} {x : DataW H × List MemPlace} (hc : Cell.okWide Try.prog w r b0 25 v) (h : DataW.trod enc Try.prog w base spare held fuel 25 [v] = some x) :
    ∃ A cap l, v = .slice A l.length cap ∧ PR w A cap l ∧ ∀ p ∈ l, K64 p.key := by
  rcases wide_slice Try.underlying25 hc with rfl | ⟨b, off, len, cap, rfl, hle, hlt⟩
  · exact ⟨none, 0, [], rfl, ⟨.inl ⟨rfl, rfl, rfl⟩, fun a e => (by cases e), Nat.le_refl _⟩, fun p hp => nomatch hp⟩
  · obtain ⟨l, rfl, hk, hr⟩ := open_pages h
    exact ⟨_, cap, l, rfl, ⟨.inr ⟨b, off, rfl, hr⟩, fun a e => by cases e; exact hlt, hle⟩, hk⟩
set_option maxRecDepth 100000 in
theorem open_urow {r : Reach} {b0 fuel : Nat} {v : Value} {x : DataW H × List MemPlace} (hc : Cell.okWide Try.prog w r b0 26 v) (h : DataW.trod enc Try.prog w base spare held fuel 26 [v] = some x) :
    ∃ A cap l, v = .slice A l.length cap ∧ UR w A cap l ∧ ∀ k ∈ l, K64 k := by
  rcases wide_slice Try.underlying26 hc with rfl | ⟨b, off, len, cap, rfl, hle, hlt⟩
  · exact ⟨none, 0, [], rfl, ⟨.inl ⟨rfl, rfl, rfl⟩, fun a e => (by cases e), Nat.le_refl _⟩, fun p hp => nomatch hp⟩
  · obtain ⟨l, rfl, hk, hr⟩ := open_keys h
    exact ⟨_, cap, l, rfl, ⟨.inr ⟨b, off, rfl, hr⟩, fun a e => by cases e; exact hlt, hle⟩, hk⟩
theorem list20 {α : Type} {l : List α} (h : l.length = 20) : ∃ v0 v1 v2 v3 v4 v5 v6 v7 v8 v9 v10 v11 v12 v13 v14 v15 v16 v17 v18 v19, l = [v0, v1, v2, v3, v4, v5, v6, v7, v8, v9, v10, v11, v12, v13, v14, v15, v16, v17, v18, v19] := by
  match l, h with
  | [v0, v1, v2, v3, v4, v5, v6, v7, v8, v9, v10, v11, v12, v13, v14, v15, v16, v17, v18, v19], _ => exact ⟨v0, v1, v2, v3, v4, v5, v6, v7, v8, v9, v10, v11, v12, v13, v14, v15, v16, v17, v18, v19, rfl⟩
theorem types31 : Try.prog.cellTypes Try.prog.depth 31 = some [22, 3, 3, 3, 3, 25, 26, 26, 3, 3, 27, 27, 27, 27, 27, 27, 27, 27, 27, 27] := by kernel_rfl
theorem types24 : Try.prog.cellTypes Try.prog.depth 24 = some [22, 3, 3, 3] := by kernel_rfl
set_option maxRecDepth 100000 in
theorem open_state {r : Reach} {b0 fuel : Nat} {v : Value} {x : DataW H × List MemPlace} (hv : Value.okWide Try.prog w r b0 31 v) (h : DataW.trod enc Try.prog w base spare held fuel 31 v.cells.toList = some x) :
    ∃ s r', v = sV s r' ∧ SR w s r' ∧ Kw s := by
  unfold Value.okWide at hv
  rw [Try.underlying31] at hv
  obtain ⟨cs, rfl, hsz, ts, hts, _, hc⟩ := hv
  rw [types31] at hts
  cases hts
  rw [show Try.prog.cellsOf 31 = 20 by kernel_rfl] at hsz
  obtain ⟨l⟩ := cs
  obtain ⟨v0, v1, v2, v3, v4, v5, v6, v7, v8, v9, v10, v11, v12, v13, v14, v15, v16, v17, v18, v19, rfl⟩ := list20 hsz
  have g : ∀ (i : Nat) (T : TypeId) (u : Value), i < 20 → ([v0, v1, v2, v3, v4, v5, v6, v7, v8, v9, v10, v11, v12, v13, v14, v15, v16, v17, v18, v19] : List Value)[i]? = some u → ([22, 3, 3, 3, 3, 25, 26, 26, 3, 3, 27, 27, 27, 27, 27, 27, 27, 27, 27, 27] : List TypeId)[i]? = some T → Cell.okWide Try.prog w r b0 T u := by
    intro i T u hi hu hT
    obtain ⟨T', h1, h2⟩ := hc i u (by simpa using hu)
    rw [show i % ([22, 3, 3, 3, 3, 25, 26, 26, 3, 3, 27, 27, 27, 27, 27, 27, 27, 27, 27, 27] : List TypeId).length = i from Nat.mod_eq_of_lt hi, hT] at h1
    cases h1
    exact h2
  obtain ⟨p, rfl⟩ := wide_int Try.underlying22 (g 0 22 _ (by omega) rfl rfl)
  obtain ⟨c, rfl⟩ := wide_int Try.underlying3 (g 1 3 _ (by omega) rfl rfl)
  obtain ⟨q, rfl⟩ := wide_int Try.underlying3 (g 2 3 _ (by omega) rfl rfl)
  obtain ⟨gg, rfl⟩ := wide_int Try.underlying3 (g 3 3 _ (by omega) rfl rfl)
  obtain ⟨tg, rfl⟩ := wide_int Try.underlying3 (g 4 3 _ (by omega) rfl rfl)
  obtain ⟨co, rfl⟩ := wide_int Try.underlying3 (g 8 3 _ (by omega) rfl rfl)
  obtain ⟨te, rfl⟩ := wide_int Try.underlying3 (g 9 3 _ (by omega) rfl rfl)
  obtain ⟨hi, rfl⟩ := wide_int Try.underlying27 (g 10 27 _ (by omega) rfl rfl)
  obtain ⟨mi, rfl⟩ := wide_int Try.underlying27 (g 11 27 _ (by omega) rfl rfl)
  obtain ⟨ra, rfl⟩ := wide_int Try.underlying27 (g 12 27 _ (by omega) rfl rfl)
  obtain ⟨lo, rfl⟩ := wide_int Try.underlying27 (g 13 27 _ (by omega) rfl rfl)
  obtain ⟨prn, rfl⟩ := wide_int Try.underlying27 (g 14 27 _ (by omega) rfl rfl)
  obtain ⟨ev, rfl⟩ := wide_int Try.underlying27 (g 15 27 _ (by omega) rfl rfl)
  obtain ⟨fo, rfl⟩ := wide_int Try.underlying27 (g 16 27 _ (by omega) rfl rfl)
  obtain ⟨cl, rfl⟩ := wide_int Try.underlying27 (g 17 27 _ (by omega) rfl rfl)
  obtain ⟨en, rfl⟩ := wide_int Try.underlying27 (g 18 27 _ (by omega) rfl rfl)
  obtain ⟨st, rfl⟩ := wide_int Try.underlying27 (g 19 27 _ (by omega) rfl rfl)
  obtain ⟨xs, n, _, _, _, hxl, hf⟩ := DataW.trod_struct Try.underlying31 h
  have hxl' : xs.length = 8 := hxl
  have ex : ∀ i : Nat, i < 8 → ∃ y, xs[i]? = some y := fun i hi => ⟨_, List.getElem?_eq_getElem (by omega)⟩
  obtain ⟨y2, e2⟩ := ex 2 (by omega)
  obtain ⟨y3, e3⟩ := ex 3 (by omega)
  obtain ⟨y4, e4⟩ := ex 4 (by omega)
  have g2 : DataW.trod enc Try.prog w base spare held n 25 ((([.int .i64 p, .int .i64 c, .int .i64 q, .int .i64 gg, .int .i64 tg, v5, v6, v7, .int .i64 co, .int .i64 te, .int .u64 hi, .int .u64 mi, .int .u64 ra, .int .u64 lo, .int .u64 prn, .int .u64 ev, .int .u64 fo, .int .u64 cl, .int .u64 en, .int .u64 st] : List Value).drop 5).take (Try.prog.cellsOf 25)) = xs[2]? := hf 2 _ rfl
  rw [e2, cells25] at g2
  have g3 : DataW.trod enc Try.prog w base spare held n 26 ((([.int .i64 p, .int .i64 c, .int .i64 q, .int .i64 gg, .int .i64 tg, v5, v6, v7, .int .i64 co, .int .i64 te, .int .u64 hi, .int .u64 mi, .int .u64 ra, .int .u64 lo, .int .u64 prn, .int .u64 ev, .int .u64 fo, .int .u64 cl, .int .u64 en, .int .u64 st] : List Value).drop 6).take (Try.prog.cellsOf 26)) = xs[3]? := hf 3 _ rfl
  rw [e3, cells26] at g3
  have g4 : DataW.trod enc Try.prog w base spare held n 26 ((([.int .i64 p, .int .i64 c, .int .i64 q, .int .i64 gg, .int .i64 tg, v5, v6, v7, .int .i64 co, .int .i64 te, .int .u64 hi, .int .u64 mi, .int .u64 ra, .int .u64 lo, .int .u64 prn, .int .u64 ev, .int .u64 fo, .int .u64 cl, .int .u64 en, .int .u64 st] : List Value).drop 7).take (Try.prog.cellsOf 26)) = xs[4]? := hf 4 _ rfl
  rw [e4, cells26] at g4
  obtain ⟨A1, c1, l1, rfl, r1, k1⟩ := open_prow (g 5 25 _ (by omega) rfl rfl) g2
  obtain ⟨A2, c2, l2, rfl, r2, k2⟩ := open_urow (g 6 26 _ (by omega) rfl rfl) g3
  obtain ⟨A3, c3, l3, rfl, r3, k3⟩ := open_urow (g 7 26 _ (by omega) rfl rfl) g4
  exact ⟨⟨⟨p, c, q, gg⟩, tg, l1, l2, l3, co, te, ⟨hi, mi, ra, lo, prn, ev, fo, cl, en, st⟩⟩, ⟨A1, c1, A2, c2, A3, c3⟩, rfl, ⟨r1, r2, r3⟩, ⟨k1, k2, k3⟩⟩
set_option maxRecDepth 100000 in
theorem open_config {r : Reach} {b0 : Nat} {v : Value} (hv : Value.okWide Try.prog w r b0 24 v) : ∃ c : Cf, v = cV c := by
  unfold Value.okWide at hv
  rw [Try.underlying24] at hv
  obtain ⟨cs, rfl, hsz, ts, hts, _, hc⟩ := hv
  rw [types24] at hts
  cases hts
  rw [cells24] at hsz
  obtain ⟨l⟩ := cs
  obtain ⟨v0, v1, v2, v3, rfl⟩ := list4 hsz
  have g : ∀ (i : Nat) (T : TypeId) (u : Value), i < 4 → ([v0, v1, v2, v3] : List Value)[i]? = some u → ([22, 3, 3, 3] : List TypeId)[i]? = some T → Cell.okWide Try.prog w r b0 T u := by
    intro i T u hi hu hT
    obtain ⟨T', h1, h2⟩ := hc i u (by simpa using hu)
    rw [show i % ([22, 3, 3, 3] : List TypeId).length = i from Nat.mod_eq_of_lt hi, hT] at h1
    cases h1
    exact h2
  obtain ⟨p, rfl⟩ := wide_int Try.underlying22 (g 0 22 _ (by omega) rfl rfl)
  obtain ⟨c, rfl⟩ := wide_int Try.underlying3 (g 1 3 _ (by omega) rfl rfl)
  obtain ⟨q, rfl⟩ := wide_int Try.underlying3 (g 2 3 _ (by omega) rfl rfl)
  obtain ⟨gg, rfl⟩ := wide_int Try.underlying3 (g 3 3 _ (by omega) rfl rfl)
  exact ⟨⟨p, c, q, gg⟩, rfl⟩
end
end Go.Proofs.Ytifenpmkbnohhaa
