/-
  Some keys are moved, where some wait: moveSome's loop.
-/
import Derived.Test.YtnhjnciadmgkeaaDoorSome
namespace Go.Proofs.YtnhjnciadmgkeaaDoor
open Go.ChangeShapes Go.WideShapes Go.ChangeAt Go.RowKit
set_option linter.unusedVariables false

/-- what holds at the head of moveSome's loop -/
structure LR (w : World) (lo b gN gO : Nat) (T : Tb) (j E left : Nat) (Tc : Tb) (wr : World) : Prop where
  at_ : TAt wr lo b gN gO Tc
  keep : Keep lo w wr
  tab : Tab wr
  k : Tc.k = T.k
  o : Tc.o = some j
  cnt : Tc.cnt = T.cnt
  fnd : ∀ key, Wd key → Tc.fnd key = T.fnd key
  mv : Tc.mv + left = T.mv + 4
  l4 : left ≤ 4
  tot : tot Tc.bo (2 ^ j) + 4 = tot T.bo (2 ^ j) + left
  nx0 : T.nx ≤ Tc.nx
  nxE : Tc.nx ≤ E
section
variable {w wr : World} {lo b gN gO : Nat} {T Tc : Tb} {j E left : Nat}
theorem LR.drew (h : LR w lo b gN gO T j E left Tc wr) : LR w lo b gN gO T j E left Tc wr.drew :=
  ⟨h.at_.drew, h.keep.drew, h.tab.drew, h.k, h.o, h.cnt, h.fnd, h.mv, h.l4, h.tot, h.nx0, h.nxE⟩
theorem LR.skip (h : LR w lo b gN gO T j E left Tc wr) (hE : E ≤ 2 ^ j) (hn : Tc.nx < E) (he : Tc.bo Tc.nx = []) (hlo : 1 < lo) :
    LR w lo b gN gO T j E left { Tc with nx := Tc.nx + 1 } (wr.setCell ⟨b, 2, none⟩ (.int .i64 ((Tc.nx + 1 : Nat) : Int))) := by
  have hk : Keep lo wr (wr.setCell ⟨b, 2, none⟩ (.int .i64 ((Tc.nx + 1 : Nat) : Int))) := Keep.of_block (grown_setCell wr b 2 _) h.at_.blo h.at_.head rfl
  have hb := h.at_.nxb
  have k30 := h.at_.k30
  have ho := h.at_.old j h.o
  have hp : 2 ^ j ≤ 2 ^ 29 := Nat.pow_le_pow_right (by decide) (by have := ho.jk; omega)
  refine ⟨h.at_.setNx _ (by omega) ?_, h.keep.trans hk, h.tab.keep hk hlo, h.k, h.o, h.cnt, fun key hw => ?_, h.mv, h.l4, h.tot, by have := h.nx0; show T.nx ≤ Tc.nx + 1; omega, hn⟩
  · intro j' hj'
    obtain rfl : j = j' := by have := h.o; rw [hj'] at this; exact (Option.some.inj this).symm
    refine ⟨by omega, fun i hi => ?_⟩
    by_cases hin : i = Tc.nx
    · rw [hin]; exact he
    · exact ho.gone i (by omega)
  · rw [← h.fnd key hw]; rfl
theorem LR.move (h : LR w lo b gN gO T j E (left + 1) Tc wr) (hE : E ≤ 2 ^ j) (hn : Tc.nx < E) {x : Ent} {t : List Ent} (hl : Tc.bo Tc.nx = x :: t) (hlo : 1 < lo) (hm : T.mv + 4 ≤ 1099511627776) {r : Ending} {w2 : World}
    (hp : LayPost (wr.setCell ⟨gO, Tc.nx, none⟩ (.pointer (hd t))) lo gN Tc.k Tc.bn x r w2) :
    TAt w2 lo b gN gO (Tc.moved x t) ∧ LR w lo b gN gO T j E left { Tc.moved x t with mv := Tc.mv + 1 } (w2.setCell ⟨b, 4, none⟩ (.int .u64 ((Tc.mv + 1 : Nat) : Int))) := by
  have hn' : Tc.nx < 2 ^ j := by omega
  obtain ⟨h1, h2⟩ := move_at h.at_ h.o hn' hl hp
  have hk1 : Keep lo wr w2 := h.at_.keep_of h2 fun _ _ hx => hx
  have hk : Keep lo w2 (w2.setCell ⟨b, 4, none⟩ (.int .u64 ((Tc.mv + 1 : Nat) : Int))) := Keep.of_block (grown_setCell w2 b 4 _) h.at_.blo h1.head rfl
  have hmv := h.mv
  refine ⟨h1, h1.setMv (Tc.mv + 1) (by omega), (h.keep.trans hk1).trans hk, (h.tab.keep hk1 hlo).keep hk hlo, h.k, h.o, h.cnt, fun key hw => ?_, by show Tc.mv + 1 + left = _; omega, by have := h.l4; omega, ?_, h.nx0, h.nxE⟩
  · rw [← h.fnd key hw, ← moved_fnd h.at_ h.o hn' hl hw]; rfl
  · have h3 := tot_put Tc.bo Tc.nx t (2 ^ j) hn'
    have h4 := h.tot
    rw [hl] at h3
    simp only [List.length_cons] at h3
    show YtnhjnciadmgkeaaDoor.tot (put Tc.bo Tc.nx t) (2 ^ j) + 4 = _
    omega
/-- the loop's end -/
theorem LR.fin (h : LR w lo b gN gO T j E left Tc wr) (hT : T.o = some j) (hTn : T.nx ≤ 2 ^ j) (hE : E = min (T.nx + 32) (2 ^ j)) (hend : left = 0 ∨ Tc.nx = E) (hne : Tc.nx ≠ 2 ^ j) : SomePost w lo b gN gO T wr := by
  refine ⟨Tc, h.at_, ⟨h.k, h.cnt, h.fnd, by have := h.mv; have := h.l4; omega, by have := h.mv; omega, .inr ⟨h.o.trans hT.symm, ?_⟩, fun hn => by rw [hT] at hn; cases hn⟩, h.keep⟩
  unfold Tb.pot
  rw [h.o, hT]
  dsimp only
  have h1 := h.tot
  have h2 := h.nx0
  have h3 := h.nxE
  have h4 := h.l4
  have h5 := (h.at_.old j h.o).nx
  refine ⟨?_, by omega⟩
  rcases hend with he | he <;> omega
theorem LR.dropped (h : LR w lo b gN gO T j E left Tc wr) (hT : T.o = some j) (he : Tc.nx = 2 ^ j) : SomePost w lo b gN gO T (wr.setCell ⟨b, 1, none⟩ (.slice none 0 0)) := by
  have ho : ∀ j', Tc.o = some j' → Tc.nx = 2 ^ j' := by intro j' hj'; have := h.o; rw [hj'] at this; rw [Option.some.inj this]; exact he
  obtain ⟨T', h1, h2, h3⟩ := some_drop h.at_ ho
  refine ⟨_, h.at_.drop ho, ⟨h.k, h.cnt, fun key hw => ?_, by have := h.mv; have := h.l4; show T.mv ≤ Tc.mv; omega, by have := h.mv; show Tc.mv ≤ _; omega, .inl rfl, fun hn => by rw [hT] at hn; cases hn⟩, h.keep.trans h3⟩
  rw [← h.fnd key hw]; exact drop_fnd h.at_ ho hw
set_option maxHeartbeats 2000000 in
theorem some_some (u : FrameMode) (h : TAt w lo b gN gO T) (ht : Tab w) (hlo : 1 < lo) (hj : T.o = some j) (hm : T.mv + 4 ≤ 1099511627776) :
    CallsD Tryd.prog 24 #[.pointer (some ⟨b, 0, none⟩)] u w fun e u' w' => u' = u ∧ (e = .returned (.tuple #[]) ∧ SomePost w lo b gN gO T w') := by
  have c1 := h.c1
  rw [vold_some hj] at c1
  have c2 := h.c2
  have ho := h.old j hj
  have k30 := h.k30
  have hp : 2 ^ j ≤ 2 ^ 29 := Nat.pow_le_pow_right (by decide) (by have := ho.jk; omega)
  obtain ⟨E, hE⟩ : ∃ E, E = min (T.nx + 32) (2 ^ j) := ⟨_, rfl⟩
  have HE := Lib.hid (⟨hE, ho.nx, hj, hlo, hm⟩ : E = min (T.nx + 32) (2 ^ j) ∧ T.nx ≤ 2 ^ j ∧ T.o = some j ∧ 1 < lo ∧ T.mv + 4 ≤ 1099511627776)
  have HL0 : Hid (LR w lo b gN gO T j E 4 T w.drew) := Lib.hid (LR.drew ⟨h, Keep.refl _ _, ht, rfl, hj, rfl, fun _ _ => rfl, rfl, Nat.le_refl _, rfl, Nat.le_refl _, by rw [hE]; have := ho.nx; omega⟩)
  have HP := Lib.hid hp
  obtain ⟨n, hn⟩ : ∃ n, n = 2 ^ j := ⟨_, rfl⟩
  obtain ⟨nx, hnx⟩ : ∃ nx, nx = T.nx := ⟨_, rfl⟩
  rw [← hn] at c1
  rw [← hnx] at c2
  have e1 : (if (n : Int) < (nx : Int) + 32 then (n : Int) else (nx : Int) + 32) = (E : Int) := by
    rw [hE, ← hn, ← hnx]
    by_cases h3 : (n : Int) < (nx : Int) + 32
    · rw [if_pos h3]; omega
    · rw [if_neg h3]; omega
  have b1 : nx ≤ 536870912 := by have := ho.nx; omega
  have HN := Lib.hid hn
  clear h ht hj hE hp hn hnx ho k30 hm
  go_enter_d Tryd.func24, Tryd.ntmps24
  go_wp2_with fail
  go_region
  go_wp2_with fail
  clear c1 c2 e1 b1
  go_loopg [2] (4 + (E - T.nx)) (fun m v wr => ∃ (left : Nat) (Tc : Tb), v = .int .i64 (left : Int) ∧ Hid (LR w lo b gN gO T j E left Tc wr) ∧ Hid (m = left + (E - Tc.nx)) ∧ left ≤ 4)
  case atStart => exact ⟨4, T, by go_num, HL0, Lib.hid rfl, by omega⟩
  case round =>
    obtain ⟨left, Tc, rfl, HL, HM, hl4⟩ := hrel
    clear HL0
    have c1 := HL.out.at_.c1
    rw [vold_some HL.out.o, ← HN.out] at c1
    have c2 := HL.out.at_.c2
    have nxb := HL.out.at_.nxb
    by_cases hgo : 0 < left ∧ Tc.nx < E
    · obtain ⟨g1, g2⟩ := hgo
      have hj2 : Tc.nx < 2 ^ j := by have := HE.out.1; omega
      have hn2 : Tc.nx < n := by rw [HN.out]; exact hj2
      have d := (HL.out.at_.old j HL.out.o).arr.row.cell hj2
      have hix := ix47 gO Tc.nx n n hn2
      have HD : Hid (Tc.nx < 2 ^ j) := Lib.hid hj2
      clear hj2
      cases hl : Tc.bo Tc.nx with
      | nil =>
        rw [hl, hd_nil] at d
        have HLL := Lib.hid hl
        clear hl
        go_wp2_with fail
        go_region
        have HL1 := Lib.hid HL.out.drew
        clear HL c1 c2 d hix
        generalize wr.drew = w1 at *
        have c2 := HL1.out.at_.c2
        have f2 := HL1.out.at_.free 2
        go_wp2_with (refine wpList_store_cell rfl 3 _ _ rfl rfl rfl rfl size3 c2 f2 ?_)
        go_roundg (left + (E - (Tc.nx + 1)))
        case measure => rw [HM.out]; omega
        case rel =>
          refine ⟨left, { Tc with nx := Tc.nx + 1 }, rfl, Lib.hid ?_, Lib.hid rfl, hl4⟩
          exact HL1.out.skip (by have := HE.out.1; omega) g2 HLL.out HE.out.2.2.2.1
      | cons x t =>
        rw [hl, hd_cons] at d
        obtain ⟨l1, hl1⟩ : ∃ l1, left = l1 + 1 := ⟨left - 1, by omega⟩
        have HLF := Lib.hid hl1
        have HLL := Lib.hid hl
        clear hl hl1
        obtain ⟨xb, xk, xn⟩ := x
        dsimp only at d
        go_wp2_with fail
        go_region
        have HL1 := Lib.hid HL.out.drew
        clear HL c1 c2 d
        generalize wr.drew = w1 at *
        go_wp2_with fail
        refine region_tail 13 (by kernel_rfl) (by kernel_rfl) ?_
        intro w2 hw2
        have HL2 : Hid (LR w lo b gN gO T j E left Tc w2) := Lib.hid (by rw [hw2]; exact HL1.out.drew)
        clear hw2 HL1
        have c1 := HL2.out.at_.c1
        rw [vold_some HL2.out.o, ← HN.out] at c1
        have c2 := HL2.out.at_.c2
        have HA2 := Lib.hid (HL2.out.at_.old j HL2.out.o).arr
        have d := HA2.out.row.cell HD.out
        rw [HLL.out, hd_cons] at d
        have f := HA2.out.row.free Tc.nx
        have hx : EntAt w2 ⟨xb, xk, xn⟩ (hd t) := by have := HA2.out.ch _ HD.out; rw [HLL.out] at this; exact this.1
        have d2 := hx.cell2
        clear hx
        dsimp only at d d2
        obtain ⟨ut, hut⟩ : ∃ u, hd t = u := ⟨_, rfl⟩
        rw [hut] at d2
        have HUT := Lib.hid hut
        clear hut
        simp only [List.take_succ_cons, List.take_zero, List.drop_succ_cons, List.drop_zero]
        repeat still_step
        refine wpStill_nil ?_
        refine wpList_store_cell rfl 59 _ _ rfl rfl rfl rfl size59 d f ?_
        clear c1 c2 d f d2 hix
        have hpop := pop_arr HL2.out.at_ HL2.out.o HD.out HLL.out
        have hlay := lay_at hpop.2.1 (by have := HL2.out.at_.k3; omega) HL2.out.at_.k30 (HL2.out.tab.but (X := fun y => y = gO) (But.of_set w2 gO _ _ rfl) (by have := HA2.out.glo; have := HE.out.2.2.2.1; omega))
          ⟨xb, xk, xn⟩ _ hpop.2.2 (HA2.out.ok _ HD.out ⟨xb, xk, xn⟩ (by rw [HLL.out]; simp)).1 (HA2.out.ok _ HD.out ⟨xb, xk, xn⟩ (by rw [HLL.out]; simp)).2.1 (HA2.out.ok _ HD.out ⟨xb, xk, xn⟩ (by rw [HLL.out]; simp)).2.2
          (fun y hy => (HL2.out.at_.old j HL2.out.o).dis y ⟨xb, xk, xn⟩ hy ⟨_, HD.out, by rw [HLL.out]; simp⟩)
        have c0 : (w2.setCell ⟨gO, Tc.nx, none⟩ (.pointer (hd t))).cell? ⟨b, 0, none⟩ = some (.slice (some ⟨gN, 0, none⟩) (2 ^ Tc.k) (2 ^ Tc.k)) := by
          rw [World.cell?_setCell_other _ _ _ _ (by intro h; injection h with h; exact HL2.out.at_.old_ne HL2.out.o h)]; exact HL2.out.at_.c0
        rw [HUT.out] at hlay c0
        have HLAY := Lib.hid hlay
        have HL3 : Hid (LR w lo b gN gO T j E (l1 + 1) Tc w2) := Lib.hid (by rw [← HLF.out]; exact HL2.out)
        have mb := HL2.out.at_.mb
        clear hlay hpop HA2
        generalize 2 ^ Tc.k = nn at *
        go_wp2_with (go_at_call 27; refine HLAY.out.mono ?_)
        rintro r w4 hp4
        obtain rfl := hp4.1
        have hp5 := hp4
        rw [← HUT.out] at hp5
        have hmv := HL3.out.move (by have := HE.out.1; omega) g2 HLL.out HE.out.2.2.2.1 HE.out.2.2.2.2 hp5
        have c4 : w4.cell? ⟨b, 4, none⟩ = some (.int .u64 (Tc.mv : Int)) := hmv.1.c4
        have f4 := hmv.1.free 4
        have ew : IntKind.u64.wrap ((Tc.mv : Int) + 1) = ((Tc.mv + 1 : Nat) : Int) := by rw [IntKind.wrap_u64]; omega
        have HMV := Lib.hid hmv
        clear hp4 hp5 hmv HLAY HL2 HL3 c0
        go_wp2_with (refine wpList_store_cell rfl 23 _ _ rfl rfl rfl rfl size23 c4 f4 ?_)
        go_roundg (l1 + (E - Tc.nx))
        case measure => rw [HM.out, HLF.out]; omega
        case rel =>
          refine ⟨l1, { Tc.moved ⟨xb, xk, xn⟩ t with mv := Tc.mv + 1 }, ?_, Lib.hid HMV.out.2, Lib.hid rfl, by have := HLF.out; omega⟩
          rw [show ((left : Int) - 1) = (l1 : Int) by have := HLF.out; omega]
    · have hd0 : left = 0 ∨ Tc.nx = E := by have := HL.out.nxE; omega
      have HQ := Lib.hid hd0
      have hfin : ∀ q, Tc.nx ≠ n → SomePost w lo b gN gO T (wr.drewN q) := fun q hq => LR.fin (left := left) (Tc := Tc) ⟨HL.out.at_.kept (grown_drewN wr q none), HL.out.keep.trans (Keep.of_new (grown_drewN wr q none)), HL.out.tab.keep (Keep.of_new (lo := lo) (grown_drewN wr q none)) HE.out.2.2.2.1, HL.out.k, HL.out.o, HL.out.cnt, HL.out.fnd, HL.out.mv, HL.out.l4, HL.out.tot, HL.out.nx0, HL.out.nxE⟩ HE.out.2.2.1 HE.out.2.1 HE.out.1 HQ.out (by rw [← HN.out]; exact hq)
      have hdrop : Tc.nx = n → SomePost w lo b gN gO T (wr.drew.setCell ⟨b, 1, none⟩ (.slice none 0 0)) := fun hq => HL.out.drew.dropped HE.out.2.2.1 (by rw [hq, HN.out])
      have HF := Lib.hid hfin
      have HDR := Lib.hid hdrop
      have f1 := HL.out.at_.free 1
      have nE := HL.out.nxE
      clear hfin hdrop HL HM hd0
      by_cases h0 : left = 0
      · subst h0
        by_cases hq : Tc.nx = n
        · rw [hq] at c2
          have HQ2 := Lib.hid hq
          clear hq hgo nE nxb
          go_wp2_with fail
          go_region
          go_wp2
          go_end0
          exact ⟨rfl, HDR.out HQ2.out⟩
        · have hb0 : (Tc.nx == n) = false := beq_eq_false_iff_ne.2 hq
          have hb1 : ((Tc.nx : Int) == (n : Int)) = false := beq_eq_false_iff_ne.2 (by omega)
          have HQ2 := Lib.hid hq
          clear hq hgo nE nxb
          go_wp2_with fail
          go_region
          go_wp2
          go_end0
          exact ⟨rfl, HF.out 1 HQ2.out⟩
      · have hx : Tc.nx = E := by omega
        rw [hx] at c2
        have l0 : 0 < left := by omega
        have HX := Lib.hid hx
        by_cases hq : Tc.nx = n
        · have hEn : E = n := by omega
          have HQ2 := Lib.hid hq
          clear hq hx hgo nE nxb h0
          subst hEn
          go_wp2_with fail
          go_region
          go_wp2
          go_end0
          exact ⟨rfl, HDR.out HQ2.out⟩
        · have hb0 : (E == n) = false := beq_eq_false_iff_ne.2 (by omega)
          have hb1 : ((E : Int) == (n : Int)) = false := beq_eq_false_iff_ne.2 (by omega)
          have HQ2 := Lib.hid hq
          clear hq hx hgo nE nxb h0
          go_wp2_with fail
          go_region
          go_wp2
          go_end0
          exact ⟨rfl, HF.out 1 HQ2.out⟩
end
end Go.Proofs.YtnhjnciadmgkeaaDoor
