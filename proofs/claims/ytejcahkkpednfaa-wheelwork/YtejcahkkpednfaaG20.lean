/-
  The ring: which states are right: the document's; New.
  The ring: New; which states are right, in two ways.
  The document's states: two states are the same.
  The ring's words as stage 12's law texts have them; all keys are numbers of sixty-four bits.
  Maps of keys: is no key there twice? Do the rows agree?
-/
import Derived.Test.YtejcahkkpednfaaG19
import Derived.Test.YtejcahkkpednfaaG05
import Derived.Test.YtejcahkkpednfaaG06
import Derived.Test.YtejcahkkpednfaaG02
import Derived.Test.YtejcahkkpednfaaG04
import Derived.Test.YtejcahkkpednfaaG12
import Derived.Maps.Own
import Derived.Maps.OwnOps
import Derived.Maps.OwnSet
import Derived.Maps.Views
import Derived.DataShut
namespace Go.Proofs.Ytejcahkkpednfaa
open Go.RowKit
open Go.Proofs.StackM (Pg Cf Ct St up many fnd fnd_at fnd_no)
open Go.Proofs.WheelM
set_option linter.unusedVariables false
/-- of the document, condition by condition -/
def Rp1 (s : St) : Prop := Mb s.cf.p s.cf.c s.cf.q s.cf.g ∧ s.cf.p = 2 ∧ 1 ≤ s.tg ∧ s.tg < s.cf.c ∧ s.qu.length = 0 ∧ s.gh.length = 0 ∧ s.pg.length ≤ 768
def Rp2 (s : St) : Prop := ∀ j (h : j < s.pg.length), Pok s.pg[j]
def Rp3 (s : St) : Prop := OnceP s.pg ∧ Hd s.co s.pg.length ∧ Hd s.te s.pg.length
def Rp4 (s : St) : Prop := (many s.pg 1 : Int) ≤ s.cf.c - s.tg ∧ (kps s.pg : Int) ≤ s.cf.c ∧ (many s.pg 3 : Int) ≤ s.cf.g
def RtW (s : St) : Prop := Rp1 s ∧ Rp2 s ∧ Rp3 s ∧ Rp4 s
open Classical in
noncomputable def rBW (s : St) : Bool := decide (RtW s)
theorem rBW_false {s : St} (h : ¬ RtW s) : rBW s = false := by simp [rBW, h]
theorem rBW_true {s : St} (h : RtW s) : rBW s = true := by simp [rBW, h]
theorem rBW_iff {s : St} : rBW s = true ↔ RtW s := by simp [rBW]
/-- the frame of Right: the state's box, the config's -/
structure RF (w : World) (r : R3) (w' : World) (s : St) : Prop where
  fr : Fr w (w.heap.size + 2) r w' w.heap.size s r
  cb : w'.heap[w.heap.size + 1]? = some (.cells (cA s.cf) 24 (0, 0))
theorem RF.keep {w w1 w2 : World} {r : R3} {s : St} (x : RF w r w1 s) (hb : Below w1.heap.size w1 w2) : RF w r w2 s := ⟨x.fr.keep hb, by rw [hb.block _ (Array.getElem?_eq_some_iff.1 x.cb).1]; exact x.cb⟩
theorem RF.cfg {w w1 : World} {r : R3} {s : St} (x : RF w r w1 s) : w1.cell? ⟨w.heap.size + 1, 0, none⟩ = some (.int .i64 s.cf.p) ∧ w1.cell? ⟨w.heap.size + 1, 1, none⟩ = some (.int .i64 s.cf.c) ∧ w1.cell? ⟨w.heap.size + 1, 3, none⟩ = some (.int .i64 s.cf.g) := by
  have h := x.cb
  refine ⟨?_, ?_, ?_⟩ <;> simp [World.cell?, h, cA]
set_option maxHeartbeats 4000000 in
set_option maxRecDepth 100000 in
theorem right_at (s : St) (r : R3) (hl : s.pg.length ≤ 100000 ∧ s.qu.length ≤ 100000 ∧ s.gh.length ≤ 100000) (w : World) (hr : SR w s r) : Calls Try.prog 10 #[sV s r] w fun e w' => e = .returned (.bool (rBW s)) ∧ Below w.heap.size w w' := by
  have B0 := box_alloc w (sA s r) (sA_len _ _)
  have x := Fr.start hr (.cells (cA s.cf) 24)
  have d0 := at0 B0
  have d1 := at1 B0
  have d2 := at2 B0
  have d3 := at3 B0
  obtain ⟨w1, hw1⟩ : ∃ w1, w1 = (w.alloc (.cells (sA s r) 31)).alloc (.cells (cA s.cf) 24) := ⟨_, rfl⟩
  have hcb : w1.heap[w.heap.size + 1]? = some (.cells (cA s.cf) 24 (0, 0)) := by
    rw [hw1, show w.heap.size + 1 = (w.alloc (.cells (sA s r) 31)).heap.size from by simp]
    exact heap_alloc_new _ _
  rw [← hw1] at x
  have H1 : Hid (RF w r w1 s) := Lib.hid ⟨x, hcb⟩
  have CM := may_at s.cf.p s.cf.c s.cf.q s.cf.g w1
  obtain ⟨m, hm⟩ : ∃ b, b = decide (Mb s.cf.p s.cf.c s.cf.q s.cf.g) := ⟨_, rfl⟩
  rw [← hm] at CM
  obtain ⟨cp, hcp⟩ : ∃ z, z = s.cf.p := ⟨_, rfl⟩
  obtain ⟨cc, hcc⟩ : ∃ z, z = s.cf.c := ⟨_, rfl⟩
  obtain ⟨cq, hcq⟩ : ∃ z, z = s.cf.q := ⟨_, rfl⟩
  obtain ⟨cg, hcg⟩ : ∃ z, z = s.cf.g := ⟨_, rfl⟩
  have hA : (w.alloc (.cells (sA s r) 31)).alloc (.cells #[.int .i64 cp, .int .i64 cc, .int .i64 cq, .int .i64 cg] 24) = w1 := by rw [hcp, hcc, hcq, hcg]; exact hw1.symm
  rw [← hcp, ← hcc, ← hcq, ← hcg] at CM
  rw [← hcp] at d0
  rw [← hcc] at d1
  rw [← hcq] at d2
  rw [← hcg] at d3
  obtain ⟨rb, hrb⟩ : ∃ b, b = rBW s := ⟨_, rfl⟩
  rw [← hrb]
  have HA := Lib.hid hA
  have HM := Lib.hid (And.intro hm (And.intro hcp (And.intro hcc hcg)))
  have HR := Lib.hid hrb
  have HL := Lib.hid hl
  have HCM := Lib.hid CM
  clear B0 x hw1 hcb CM hm hcp hcc hcq hcg hA hrb hl hr
  go_enter Try.func10, Try.ntmps10
  go_wp2_with fail
  rw [HA.out]
  refine HCM.out.mono ?_
  rintro e w2 ⟨rfl, hb2⟩
  have x2 := H1.out.keep hb2
  have H2 := Lib.hid x2
  clear hb2 H1 HA HCM d0 d1 d2 d3
  obtain ⟨c0, c1, c3⟩ := x2.cfg
  rw [← HM.out.2.1] at c0
  rw [← HM.out.2.2.1] at c1
  rw [← HM.out.2.2.2] at c3
  have d4 := at4 x2.fr.box
  have d5 := at5 x2.fr.box
  have d6 := at6 x2.fr.box
  have d7 := at7 x2.fr.box
  obtain ⟨tg, htg⟩ : ∃ z, z = s.tg := ⟨_, rfl⟩
  obtain ⟨n, hn⟩ : ∃ z, z = s.pg.length := ⟨_, rfl⟩
  obtain ⟨nq, hnq⟩ : ∃ z, z = s.qu.length := ⟨_, rfl⟩
  obtain ⟨ng, hng⟩ : ∃ z, z = s.gh.length := ⟨_, rfl⟩
  rw [← htg] at d4
  rw [← hn] at d5
  rw [← hnq] at d6
  rw [← hng] at d7
  have hnl : n ≤ 100000 := by rw [hn]; exact HL.out.1
  have hql : nq ≤ 100000 := by rw [hnq]; exact HL.out.2.1
  have hgl : ng ≤ 100000 := by rw [hng]; exact HL.out.2.2
  have HN := Lib.hid (And.intro htg (And.intro hn (And.intro hnq hng)))
  clear x2 htg hn hnq hng
  cases m
  case false =>
    have HE : Hid (rb = false) := Lib.hid (by rw [HR.out]; exact rBW_false (fun h => absurd HM.out.1 (by rw [decide_eq_true h.1.1]; decide)))
    go_wp2_with fail
    go_ret
    exact ⟨by rw [HE.out]; rfl, H2.out.fr.bel⟩
  by_cases k0 : cp = 2
  case neg =>
    have k0b : (cp == 2) = false := by simpa using k0
    have HE : Hid (rb = false) := Lib.hid (by rw [HR.out]; exact rBW_false (fun h => k0 (by rw [HM.out.2.1]; exact h.1.2.1)))
    go_wp2_with fail
    go_ret
    exact ⟨by rw [HE.out]; rfl, H2.out.fr.bel⟩
  subst k0
  by_cases k1 : 1 ≤ tg
  case neg =>
    have HE : Hid (rb = false) := Lib.hid (by rw [HR.out]; exact rBW_false (fun h => k1 (by rw [HN.out.1]; exact h.1.2.2.1)))
    go_wp2_with fail
    go_ret
    exact ⟨by rw [HE.out]; rfl, H2.out.fr.bel⟩
  by_cases k2 : tg < cc
  case neg =>
    have HE : Hid (rb = false) := Lib.hid (by rw [HR.out]; exact rBW_false (fun h => k2 (by rw [HN.out.1, HM.out.2.2.1]; exact h.1.2.2.2.1)))
    go_wp2_with fail
    go_ret
    exact ⟨by rw [HE.out]; rfl, H2.out.fr.bel⟩
  by_cases k3 : nq = 0
  case neg =>
    have k3b : (0 : Int) < (nq : Int) := by omega
    have HE : Hid (rb = false) := Lib.hid (by rw [HR.out]; exact rBW_false (fun h => k3 (by rw [HN.out.2.2.1]; exact h.1.2.2.2.2.1)))
    go_wp2_with fail
    go_ret
    exact ⟨by rw [HE.out]; rfl, H2.out.fr.bel⟩
  subst k3
  by_cases k4 : ng = 0
  case neg =>
    have k4b : (0 : Int) < (ng : Int) := by omega
    have HE : Hid (rb = false) := Lib.hid (by rw [HR.out]; exact rBW_false (fun h => k4 (by rw [HN.out.2.2.2]; exact h.1.2.2.2.2.2.1)))
    go_wp2_with fail
    go_ret
    exact ⟨by rw [HE.out]; rfl, H2.out.fr.bel⟩
  subst k4
  by_cases k5 : n ≤ 768
  case neg =>
    have k5b : (768 : Int) < (n : Int) := by omega
    have HE : Hid (rb = false) := Lib.hid (by rw [HR.out]; exact rBW_false (fun h => k5 (by rw [HN.out.2.1]; exact h.1.2.2.2.2.2.2)))
    go_wp2_with fail
    go_ret
    exact ⟨by rw [HE.out]; rfl, H2.out.fr.bel⟩
  have k5b : (n : Int) ≤ 768 := by omega
  have hmb : Mb s.cf.p s.cf.c s.cf.q s.cf.g := of_decide_eq_true HM.out.1.symm
  have hcb : cc ≤ 256 := by rw [HM.out.2.2.1]; exact hmb.2.1.2
  have hgb : 0 ≤ cg ∧ cg ≤ 512 := by rw [HM.out.2.2.2]; exact hmb.2.2.2
  obtain ⟨hgb1, hgb2⟩ := hgb
  have HR1 : Hid (Rp1 s) := Lib.hid ⟨hmb, HM.out.2.1.symm, by rw [← HN.out.1]; exact k1, by rw [← HN.out.1, ← HM.out.2.2.1]; exact k2, HN.out.2.2.1.symm, HN.out.2.2.2.symm, by rw [← HN.out.2.1]; exact k5⟩
  clear hmb
  go_wp2_with fail
  clear c0 c1 c3 d4 d5 d6 d7
  go_loopw [4] (fun i wr => ∃ j : Nat, j ≤ n ∧ i = .int .i64 (j : Int) ∧ Hid (RF w r wr s) ∧ Hid (∀ a (h1 : a < j) (h2 : a < s.pg.length), Pok s.pg[a])) (fun i _ => n - (intOf i).toNat)
  case atStart => exact ⟨0, by omega, by go_num, H2, Lib.hid (fun a h1 => absurd h1 (by omega))⟩
  case round =>
    obtain ⟨j, hj, rfl, HF, HK⟩ := hrel
    have d5 := at5 HF.out.fr.box
    rw [← HN.out.2.1] at d5
    by_cases hlt : j < n
    · have hjl : j < s.pg.length := by rw [← HN.out.2.1]; exact hlt
      obtain ⟨b, off, ha, hcells⟩ := HF.out.fr.rows.pg.row.at hjl
      obtain ⟨k0, k1', k2', k3'⟩ := hcells j hjl
      obtain ⟨y, hy⟩ : ∃ y, y = s.pg[j] := ⟨_, rfl⟩
      rw [← hy] at k0 k1' k2' k3'
      obtain ⟨p0, p1, p2, p3⟩ := y
      dsimp only at k0 k1' k2' k3'
      rw [ha] at d5
      obtain ⟨pk, hpk⟩ : ∃ b, b = decide (Pok ⟨p0, p1, p2, p3⟩) := ⟨_, rfl⟩
      have CP := page_at p0 p1 p2 p3 wr
      rw [← hpk] at CP
      have HCP := Lib.hid CP
      have z0 : (0 : Int) ≤ (j : Int) := by omega
      have z1 : (j : Int) < (n : Int) := by omega
      have HY := Lib.hid (show ∀ h : j < s.pg.length, s.pg[j] = ⟨p0, p1, p2, p3⟩ from fun _ => hy.symm)
      have HPK := Lib.hid hpk
      clear hcells ha hy CP hpk
      go_wp2_with fail
      refine HCP.out.mono ?_
      rintro e w3 ⟨rfl, hb3⟩
      have H3 := Lib.hid (HF.out.keep hb3)
      clear hb3 HF HCP d5 k0 k1' k2' k3'
      cases pk
      · have HE : Hid (rb = false) := Lib.hid (by rw [HR.out]; exact rBW_false (fun h => absurd HPK.out (by rw [decide_eq_true (by rw [← HY.out (by rw [← HN.out.2.1]; exact hlt)]; exact h.2.1 j (by rw [← HN.out.2.1]; exact hlt))]; decide)))
        go_wp2_with fail
        go_ret
        exact ⟨by rw [HE.out]; rfl, H3.out.fr.bel⟩
      · go_wp2_with fail
        go_round
        case rel => exact ⟨j + 1, by omega, by go_num, H3, Lib.hid (fun a h1 h2 => by
          rcases Nat.lt_succ_iff_lt_or_eq.1 h1 with h | rfl
          · exact HK.out a h h2
          · rw [HY.out h2]; exact of_decide_eq_true HPK.out.symm)⟩
        case measure => simp only [intOf]; omega
    · obtain rfl : j = n := by omega
      have HR2 : Hid (Rp2 s) := Lib.hid (fun a h => HK.out a (by rw [HN.out.2.1]; exact h) h)
      have HO := oncep_at s.pg r.a1 s.pg.length r.c1 rfl (by have := HL.out.1; omega) wr HF.out.fr.rows.pg.row
      obtain ⟨ob, hob⟩ : ∃ b, b = decide (OnceP s.pg) := ⟨_, rfl⟩
      rw [← hob, ← HN.out.2.1] at HO
      have HOO := Lib.hid HO
      have HOB := Lib.hid hob
      have d8 := at8 HF.out.fr.box
      have d9 := at9 HF.out.fr.box
      obtain ⟨co, hco⟩ : ∃ z, z = s.co := ⟨_, rfl⟩
      obtain ⟨te, hte⟩ : ∃ z, z = s.te := ⟨_, rfl⟩
      rw [← hco] at d8
      rw [← hte] at d9
      have HH := Lib.hid (And.intro hco hte)
      obtain ⟨h1b, hh1⟩ : ∃ b, b = decide (0 ≤ co ∧ (co < (j : Int) ∨ co = 0)) := ⟨_, rfl⟩
      obtain ⟨h2b, hh2⟩ : ∃ b, b = decide (0 ≤ te ∧ (te < (j : Int) ∨ te = 0)) := ⟨_, rfl⟩
      have C1 := hand_at co (j : Int) wr
      have C2 := hand_at te (j : Int) wr
      rw [← hh1] at C1
      rw [← hh2] at C2
      have HC1 := Lib.hid (And.intro C1 hh1)
      have HC2 := Lib.hid (And.intro C2 hh2)
      clear HO hob hco hte C1 C2 hh1 hh2 hlt
      go_wp2_with fail
      refine HOO.out.mono ?_
      rintro e w3 ⟨rfl, h3⟩
      subst h3
      clear HOO
      cases ob
      · have HE : Hid (rb = false) := Lib.hid (by rw [HR.out]; exact rBW_false (fun h => absurd HOB.out (by rw [decide_eq_true h.2.2.1.1]; decide)))
        go_wp2_with fail
        go_ret
        exact ⟨by rw [HE.out]; rfl, HF.out.fr.bel⟩
      · go_wp2_with fail
        refine HC1.out.1.mono ?_
        rintro e w3 ⟨rfl, h3⟩
        subst h3
        cases h1b
        · have HE : Hid (rb = false) := Lib.hid (by rw [HR.out]; exact rBW_false (fun h => by have h9 := HC1.out.2; rw [HH.out.1, HN.out.2.1, decide_eq_true (show 0 ≤ s.co ∧ (s.co < (s.pg.length : Int) ∨ s.co = 0) from h.2.2.1.2.1)] at h9; exact absurd h9 (by decide)))
          go_wp2_with fail
          go_ret
          exact ⟨by rw [HE.out]; rfl, HF.out.fr.bel⟩
        · go_wp2_with fail
          refine HC2.out.1.mono ?_
          rintro e w3 ⟨rfl, h3⟩
          subst h3
          cases h2b
          · have HE : Hid (rb = false) := Lib.hid (by rw [HR.out]; exact rBW_false (fun h => by have h9 := HC2.out.2; rw [HH.out.2, HN.out.2.1, decide_eq_true (show 0 ≤ s.te ∧ (s.te < (s.pg.length : Int) ∨ s.te = 0) from h.2.2.1.2.2)] at h9; exact absurd h9 (by decide)))
            go_wp2_with fail
            go_ret
            exact ⟨by rw [HE.out]; rfl, HF.out.fr.bel⟩
          · have HR3 : Hid (Rp3 s) := Lib.hid ⟨of_decide_eq_true HOB.out.symm, by have h9 := of_decide_eq_true HC1.out.2.symm; rw [HH.out.1, HN.out.2.1] at h9; exact h9, by have h9 := of_decide_eq_true HC2.out.2.symm; rw [HH.out.2, HN.out.2.1] at h9; exact h9⟩
            obtain ⟨nh, hnh⟩ : ∃ n, n = many s.pg 1 := ⟨_, rfl⟩
            obtain ⟨nk, hnk⟩ : ∃ n, n = kps s.pg := ⟨_, rfl⟩
            obtain ⟨nn, hnn⟩ : ∃ n, n = many s.pg 3 := ⟨_, rfl⟩
            have b1 : nh ≤ 100000 := by rw [hnh]; have := many_le s.pg 1; have := HL.out.1; omega
            have b3 : nn ≤ 100000 := by rw [hnn]; have := many_le s.pg 3; have := HL.out.1; omega
            have b2 : nk ≤ 200000 := by rw [hnk]; have := many_le s.pg 1; have := many_le s.pg 2; have := HL.out.1; unfold kps; omega
            have x1 : ∀ W : GrB w3, W.v.cell? ⟨w.heap.size + 1, 1, none⟩ = some (.int .i64 cc) := fun W => by rw [HM.out.2.2.1]; exact (HF.out.keep W.h).cfg.2.1
            have x3 : ∀ W : GrB w3, W.v.cell? ⟨w.heap.size + 1, 3, none⟩ = some (.int .i64 cg) := fun W => by rw [HM.out.2.2.2]; exact (HF.out.keep W.h).cfg.2.2
            have x4 : ∀ W : GrB w3, W.v.cell? ⟨w.heap.size, 4, none⟩ = some (.int .i64 tg) := fun W => by rw [HN.out.1]; exact at4 (HF.out.keep W.h).fr.box
            have x5 : ∀ W : GrB w3, W.v.cell? ⟨w.heap.size, 5, none⟩ = some (.slice r.a1 s.pg.length r.c1) := fun W => at5 (HF.out.keep W.h).fr.box
            have xb : Hid (∀ W : World, (∃ p : GrB w3, W = p.v) → Box W w.heap.size (sA s r)) := Lib.hid (fun W ⟨p, hp⟩ => hp ▸ (HF.out.keep p.h).fr.box)
            have K1 : Hid (∀ W : GrB w3, Calls Try.prog 30 #[.slice r.a1 s.pg.length r.c1, .int .i64 1] W.v fun e w' => e = .returned (.int .i64 (nh : Int)) ∧ ∃ W' : GrB w3, w' = W'.v) := Lib.hid (grown_call (w := w3) fun V hV => (many_at s.pg 1 r.a1 s.pg.length r.c1 rfl (by have := HL.out.1; omega) V (HF.out.keep hV).fr.rows.pg.row).mono fun e w' ⟨e1, e2⟩ => ⟨by rw [hnh]; exact e1, e2 ▸ Below.refl _ _⟩)
            have K3 : Hid (∀ W : GrB w3, Calls Try.prog 30 #[.slice r.a1 s.pg.length r.c1, .int .i64 3] W.v fun e w' => e = .returned (.int .i64 (nn : Int)) ∧ ∃ W' : GrB w3, w' = W'.v) := Lib.hid (grown_call (w := w3) fun V hV => (many_at s.pg 3 r.a1 s.pg.length r.c1 rfl (by have := HL.out.1; omega) V (HF.out.keep hV).fr.rows.pg.row).mono fun e w' ⟨e1, e2⟩ => ⟨by rw [hnn]; exact e1, e2 ▸ Below.refl _ _⟩)
            have K2 : Hid (∀ W : GrB w3, Calls Try.prog 31 #[sV s r] W.v fun e w' => e = .returned (.int .i64 (nk : Int)) ∧ ∃ W' : GrB w3, w' = W'.v) := Lib.hid (grown_call (w := w3) fun V hV => by rw [hnk]; exact kepts_at s r HL.out.1 V (HF.out.keep hV).fr.rows)
            have HZ := Lib.hid (And.intro hnh (And.intro hnk hnn))
            clear hnh hnk hnn d5 d8 d9
            by_cases g1 : (nh : Int) ≤ cc - tg
            · by_cases g2 : (nk : Int) ≤ cc
              · by_cases g3 : (nn : Int) ≤ cg
                · have HE : Hid (rb = true) := Lib.hid (by rw [HR.out]; exact rBW_true ⟨HR1.out, HR2.out, HR3.out, by rw [← HZ.out.1, ← HM.out.2.2.1, ← HN.out.1]; exact g1, by rw [← HZ.out.2.1, ← HM.out.2.2.1]; exact g2, by rw [← HZ.out.2.2, ← HM.out.2.2.2]; exact g3⟩)
                  go_wp2_with fail
                  refine region_grown (by kernel_rfl) (by kernel_rfl) ?_
                  repeat (first | go_big_quiet_skip | (refine qld31q (.tmp 1) rfl (by kernel_rfl) _ rfl _ xb.out ?_; simp only [Act.put, List.setIfInBounds_toArray, List.set_cons_succ, List.set_cons_zero]) | go_big_quiet_step (first | (go_at_call 30; with_reducible (first | exact K1.out _ | exact K3.out _)) | (go_at_call 31; exact K2.out _)))
                  refine wpQuiet_nil ?_
                  rintro w' ⟨⟨w9, hgl⟩, rfl⟩
                  go_wp2_with fail
                  go_ret
                  exact ⟨by rw [HE.out]; rfl, (HF.out.keep hgl).fr.bel⟩
                · have g3d : decide ((nn : Int) ≤ cg) = false := decide_eq_false g3
                  have HE : Hid (rb = false) := Lib.hid (by rw [HR.out]; exact rBW_false (fun h => g3 (by rw [HZ.out.2.2, HM.out.2.2.2]; exact h.2.2.2.2.2)))
                  go_wp2_with fail
                  refine region_grown (by kernel_rfl) (by kernel_rfl) ?_
                  repeat (first | go_big_quiet_skip | (refine qld31q (.tmp 1) rfl (by kernel_rfl) _ rfl _ xb.out ?_; simp only [Act.put, List.setIfInBounds_toArray, List.set_cons_succ, List.set_cons_zero]) | go_big_quiet_step (first | (go_at_call 30; with_reducible (first | exact K1.out _ | exact K3.out _)) | (go_at_call 31; exact K2.out _)))
                  refine wpQuiet_nil ?_
                  rintro w' ⟨⟨w9, hgl⟩, rfl⟩
                  go_wp2_with fail
                  go_ret
                  exact ⟨by rw [HE.out]; rfl, (HF.out.keep hgl).fr.bel⟩
              · have g2d : decide ((nk : Int) ≤ cc) = false := decide_eq_false g2
                have HE : Hid (rb = false) := Lib.hid (by rw [HR.out]; exact rBW_false (fun h => g2 (by rw [HZ.out.2.1, HM.out.2.2.1]; exact h.2.2.2.2.1)))
                go_wp2_with fail
                refine region_grown (by kernel_rfl) (by kernel_rfl) ?_
                repeat (first | go_big_quiet_skip | (refine qld31q (.tmp 1) rfl (by kernel_rfl) _ rfl _ xb.out ?_; simp only [Act.put, List.setIfInBounds_toArray, List.set_cons_succ, List.set_cons_zero]) | go_big_quiet_step (first | (go_at_call 30; with_reducible (first | exact K1.out _ | exact K3.out _)) | (go_at_call 31; exact K2.out _)))
                refine wpQuiet_nil ?_
                rintro w' ⟨⟨w9, hgl⟩, rfl⟩
                go_wp2_with fail
                go_ret
                exact ⟨by rw [HE.out]; rfl, (HF.out.keep hgl).fr.bel⟩
            · have g1d : decide ((nh : Int) ≤ cc - tg) = false := decide_eq_false g1
              have HE : Hid (rb = false) := Lib.hid (by rw [HR.out]; exact rBW_false (fun h => g1 (by rw [HZ.out.1, HM.out.2.2.1, HN.out.1]; exact h.2.2.2.1)))
              go_wp2_with fail
              refine region_grown (by kernel_rfl) (by kernel_rfl) ?_
              repeat (first | go_big_quiet_skip | (refine qld31q (.tmp 1) rfl (by kernel_rfl) _ rfl _ xb.out ?_; simp only [Act.put, List.setIfInBounds_toArray, List.set_cons_succ, List.set_cons_zero]) | go_big_quiet_step (first | (go_at_call 30; with_reducible (first | exact K1.out _ | exact K3.out _)) | (go_at_call 31; exact K2.out _)))
              refine wpQuiet_nil ?_
              rintro w' ⟨⟨w9, hgl⟩, rfl⟩
              go_wp2_with fail
              go_ret
              exact ⟨by rw [HE.out]; rfl, (HF.out.keep hgl).fr.bel⟩
end Go.Proofs.Ytejcahkkpednfaa
namespace Go.Proofs.Ytejcahkkpednfaa
open Go.RowKit
open Go.Proofs.StackM (Pg Cf Ct St up many fnd fnd_at fnd_no key_inj)
open Go.Proofs.WheelM
set_option linter.unusedVariables false
theorem oncep_iff (l : List Pg) : OnceP l ↔ (l.map Pg.key).Nodup := by
  constructor
  · intro h
    refine List.pairwise_iff_getElem.2 (fun i j hi hj hij e => ?_)
    rw [List.getElem_map, List.getElem_map] at e
    have hi' : i < l.length := by simpa using hi
    have hj' : j < l.length := by simpa using hj
    have h1 := h i hi'
    have h2 := h j hj'
    rw [e, h2] at h1
    omega
  · intro h j hj
    rw [fi, fnd_some hj rfl (fun i h1 h2 e => by have := key_inj h h2 hj e; omega)]
theorem rt_wg {s : St} : RtW s ↔ Wg s := by
  constructor
  · rintro ⟨⟨m, p2, t1, t2, q0, g0, l0⟩, r2, ⟨o, hc, ht⟩, ⟨b1, b2, b3⟩⟩
    refine ⟨⟨⟨p2, m.2.1, m.2.2.1, m.2.2.2⟩, ⟨t1, by omega⟩, (oncep_iff s.pg).1 o, fun p hp => ?_, List.eq_nil_of_length_eq_zero q0, List.eq_nil_of_length_eq_zero g0, hc, ht⟩, fun h => by unfold Gc at h; omega, b2, b3⟩
    obtain ⟨j, hj, rfl⟩ := List.getElem_of_mem hp
    exact r2 j hj
  · intro h
    have hl := wg_len h
    have ck := h.w.ck
    have tg := h.w.tg
    have c1 := ck.1
    have c2 := ck.2.1
    have c3 := ck.2.2.2
    refine ⟨⟨⟨by omega, ck.2.1, ck.2.2.1, ck.2.2.2⟩, ck.1, tg.1, by omega, by rw [h.w.qu]; rfl, by rw [h.w.gh]; rfl, by omega⟩, fun j hj => h.w.pk _ (List.getElem_mem hj), ⟨(oncep_iff s.pg).2 h.w.nk, h.w.hc, h.w.ht⟩, ⟨by have := h.r; unfold Gc at this; omega, h.k, h.g⟩⟩
theorem rBW_wg {s : St} : rBW s = true ↔ Wg s := rBW_iff.trans rt_wg
/-- a new state -/
def newW (c : Cf) : St := { S0 with cf := c, tg := c.q }
theorem bld31wrun (c : Cf) (w : World) : (Instr.build 31 #[(0, cV c), (1, .int .i64 c.q)]).run Try.prog w = .ok (sV (newW c) R0) w := by
  simp [go_sem, Instr.build, Instr.fill, sA, newW, S0, R0, Result.andThen]
theorem bld31w {ops : Array Oper} {rest : List Oper} {o : Oper} {a : Act} {w : World} {Q : Exit → Act → World → Prop} (hg : o.guard = none) (x y : Operand) (ho : o.op = .build 31 #[(0, x), (1, y)]) (c : Cf) (hx : a.eval x = cV c) (hy : a.eval y = .int .i64 c.q)
    (hK : wpList Try.prog ops Q rest (a.put o.dst (sV (newW c) R0)) w) : wpList Try.prog ops Q (o :: rest) a w := by
  refine wpList_plain hg fun K k => ?_
  unfold Oper.wp
  have := bld31wrun c w
  simp [execOp, ho, hx, hy, this]
  exact k _ _ hK
set_option maxHeartbeats 2000000 in
set_option maxRecDepth 100000 in
theorem new_at (c : Cf) (w : World) : Calls Try.prog 21 #[cV c] w (SPost w R0 (newW c)) := by
  obtain ⟨w1, hw1⟩ : ∃ w1, w1 = (w.alloc (.cells (cA c) 24)).alloc (.cells (sA S0 R0) 31) := ⟨_, rfl⟩
  have hb1 := alloc_below w (.cells (cA c) 24)
  have hb2 := alloc_below (w.alloc (.cells (cA c) 24)) (.cells (sA S0 R0) 31)
  have hc : w1.heap[w.heap.size]? = some (.cells (cA c) 24 (0, 0)) := by
    rw [hw1, hb2.block _ (by simp)]
    exact heap_alloc_new _ _
  have hx : Box w1 (w.heap.size + 1) (sA S0 R0) := by
    have := box_alloc (w.alloc (.cells (cA c) 24)) (sA S0 R0) rfl
    rw [hw1]; simpa using this
  have hb : Below w.heap.size w w1 := by rw [hw1]; exact hb1.trans (hb2.mono hb1.size)
  have hA : (w.alloc (.cells #[.int .i64 c.p, .int .i64 c.c, .int .i64 c.q, .int .i64 c.g] 24)).alloc (.cells #[.int .i64 0, .int .i64 0, .int .i64 0, .int .i64 0, .int .i64 0, .slice none 0 0, .slice none 0 0, .slice none 0 0, .int .i64 0, .int .i64 0, .int .u64 0, .int .u64 0, .int .u64 0, .int .u64 0, .int .u64 0, .int .u64 0, .int .u64 0, .int .u64 0, .int .u64 0, .int .u64 0] 31) = w1 := hw1.symm
  have HA := Lib.hid hA
  have c2 : w1.cell? ⟨w.heap.size, 2, none⟩ = some (.int .i64 c.q) := by
    rw [cell_of_row (w := w1) w.heap.size 2 (cA c) 24 (0, 0) hc]
    rfl
  have c2b := c2
  rw [← hA] at c2
  have HC := Lib.hid hc
  have HX := Lib.hid hx
  have HB := Lib.hid hb
  clear hw1 hb1 hb2 hc hx hb hA
  show Calls Try.prog 21 #[cV c] w fun e w' => SPost w R0 (newW c) e w'
  go_enter Try.func21, Try.ntmps21
  go_wp2_with (first | fail | (rw [HA.out]; refine wpList_load_row rfl 24 (.tmp 1) rfl w.heap.size rfl 24 (cA c) (0, 0) _ HC.out Try.underlying24 rfl info24 ?_) | refine bld31w rfl (.tmp 3) (.tmp 5) rfl c rfl rfl ?_ | refine st31 rfl (.tmp 2) (.tmp 6) rfl _ (newW c) R0 rfl rfl _ HX.out ?_)
  refine bodyPost_ret (results_s rfl _ _ _ _ rfl (HX.out.rowSet (sA_len _ _))) rfl ?_
  exact ⟨R0, rfl, ⟨⟨.inl ⟨rfl, rfl, rfl⟩, fun a e => (by cases e), Nat.le_refl _⟩, ⟨.inl ⟨rfl, rfl, rfl⟩, fun a e => (by cases e), Nat.le_refl _⟩, ⟨.inl ⟨rfl, rfl, rfl⟩, fun a e => (by cases e), Nat.le_refl _⟩⟩, Frm.refl _ _, below_setRow HB.out (Nat.le_succ _)⟩
end Go.Proofs.Ytejcahkkpednfaa
namespace Go.Proofs.Ytejcahkkpednfaa
open Go.RowKit
open Go.Proofs.StackM
set_option linter.unusedVariables false
set_option maxHeartbeats 2000000 in
set_option maxRecDepth 100000 in
theorem state_same (s : St) (r r' : R3) (hl : Lim s 100000) (w : World) (hr : SR w s r) (hr' : SR w s r') : Calls Try.prog 15 #[sV s r, sV s r'] w fun e w' => e = .returned (.bool true) ∧ Below w.heap.size w w' := by
  have x := Fr.start hr (.cells (sA s r') 31)
  have y := box_alloc (w.alloc (.cells (sA s r) 31)) (sA s r') (sA_len _ _)
  obtain ⟨w1, hw1⟩ : ∃ w1, w1 = (w.alloc (.cells (sA s r) 31)).alloc (.cells (sA s r') 31) := ⟨_, rfl⟩
  have hs : (w.alloc (.cells (sA s r) 31)).heap.size = w.heap.size + 1 := by simp
  rw [hs] at y
  have hr1 := hr'.kept x.bel
  rw [← hw1] at x y hr1
  have C35 : Hid (∀ V, Below w1.heap.size w1 V → Calls Try.prog 44 #[.slice r.a1 s.pg.length r.c1, .slice r'.a1 s.pg.length r'.c1] V fun e w' => e = .returned (.bool true) ∧ Below V.heap.size V w') := Lib.hid (fun V hV => (pgs_at s.pg s.pg r.a1 r'.a1 s.pg.length s.pg.length r.c1 r'.c1 rfl rfl (by have := hl.1; omega) (by have := hl.1; omega) V (x.keep hV).rows.pg.row (hr1.kept hV).pg.row).mono fun e w' ⟨h1, h2⟩ => ⟨by rw [h1]; simp, h2⟩)
  have C25q : Hid (∀ V, Below w1.heap.size w1 V → Calls Try.prog 25 #[.slice r.a2 s.qu.length r.c2, .slice r'.a2 s.qu.length r'.c2] V fun e w' => e = .returned (.bool true) ∧ Below V.heap.size V w') := Lib.hid (fun V hV => (same_at s.qu s.qu r.a2 r'.a2 s.qu.length s.qu.length r.c2 r'.c2 rfl rfl (by have := hl.2.1; omega) (by have := hl.2.1; omega) V (x.keep hV).rows.qu.row (hr1.kept hV).qu.row).mono fun e w' ⟨h1, h2⟩ => ⟨by rw [h1]; simp, h2⟩)
  have C25g : Hid (∀ V, Below w1.heap.size w1 V → Calls Try.prog 25 #[.slice r.a3 s.gh.length r.c3, .slice r'.a3 s.gh.length r'.c3] V fun e w' => e = .returned (.bool true) ∧ Below V.heap.size V w') := Lib.hid (fun V hV => (same_at s.gh s.gh r.a3 r'.a3 s.gh.length s.gh.length r.c3 r'.c3 rfl rfl (by have := hl.2.2; omega) (by have := hl.2.2; omega) V (x.keep hV).rows.gh.row (hr1.kept hV).gh.row).mono fun e w' ⟨h1, h2⟩ => ⟨by rw [h1]; simp, h2⟩)
  have HW := Lib.hid hw1
  have HX := Lib.hid x
  have HY := Lib.hid y
  have q1 := x.bel
  have HQ := Lib.hid q1
  have d0 := at0 x.box
  have e0 := at0 y
  have d1 := at1 x.box
  have e1 := at1 y
  have d2 := at2 x.box
  have e2 := at2 y
  have d3 := at3 x.box
  have e3 := at3 y
  have d4 := at4 x.box
  have e4 := at4 y
  have d5 := at5 x.box
  have e5 := at5 y
  have d6 := at6 x.box
  have e6 := at6 y
  have d7 := at7 x.box
  have e7 := at7 y
  have d8 := at8 x.box
  have e8 := at8 y
  have d9 := at9 x.box
  have e9 := at9 y
  have d10 := at10 x.box
  have e10 := at10 y
  have d11 := at11 x.box
  have e11 := at11 y
  have d12 := at12 x.box
  have e12 := at12 y
  have d13 := at13 x.box
  have e13 := at13 y
  have d14 := at14 x.box
  have e14 := at14 y
  have d15 := at15 x.box
  have e15 := at15 y
  have d16 := at16 x.box
  have e16 := at16 y
  have d17 := at17 x.box
  have e17 := at17 y
  have d18 := at18 x.box
  have e18 := at18 y
  have d19 := at19 x.box
  have e19 := at19 y
  rw [hw1] at d0 d1 d2 d3 d4 d5 d6 d7 d8 d9 d10 d11 d12 d13 d14 d15 d16 d17 d18 d19 e0 e1 e2 e3 e4 e5 e6 e7 e8 e9 e10 e11 e12 e13 e14 e15 e16 e17 e18 e19
  clear x y hr hr' hr1 hw1 hs hl q1
  go_enter Try.func15, Try.ntmps15
  go_wp2_with fail
  rw [← HW.out]
  clear d0 d1 d2 d3 d4 d5 d6 d7 d8 d9 d10 d11 d12 d13 d14 d15 d16 d17 d18 d19 e0 e1 e2 e3 e4 e5 e6 e7 e8 e9 e10 e11 e12 e13 e14 e15 e16 e17 e18 e19
  refine (C35.out _ (Below.refl _ _)).mono ?_
  rintro e w2 ⟨rfl, hb2⟩
  have d6 := at6 (HX.out.keep hb2).box
  have e6 := at6 (HY.out.kept hb2 HY.out.lt)
  have H2 := Lib.hid hb2
  clear hb2
  go_wp2_with fail
  clear d6 e6
  refine (C25q.out _ H2.out).mono ?_
  rintro e w3 ⟨rfl, hb3⟩
  have b3 := H2.out.trans (hb3.mono H2.out.size)
  have d7 := at7 (HX.out.keep b3).box
  have e7 := at7 (HY.out.kept b3 HY.out.lt)
  have H3 := Lib.hid b3
  clear hb3 b3 H2
  go_wp2_with fail
  clear d7 e7
  refine (C25g.out _ H3.out).mono ?_
  rintro e w4 ⟨rfl, hb4⟩
  have H4 := Lib.hid (H3.out.trans (hb4.mono H3.out.size))
  clear hb4 H3
  go_wp2
  go_ret
  exact ⟨rfl, HQ.out.trans (H4.out.mono HQ.out.size)⟩
end Go.Proofs.Ytejcahkkpednfaa
namespace Go.Proofs.Ytejcahkkpednfaa
open Go.RowKit
open Go.Proofs.StackM (Pg Cf Ct St up many fnd fnd_at fnd_no)
open Go.Proofs.WheelM
set_option linter.unusedVariables false
abbrev Rg (s : St) : Prop := Wg s
abbrev Cl (c : Cf) : Prop := Clk c
abbrev Rt (s : St) : Prop := RtW s
noncomputable abbrev rB (s : St) : Bool := rBW s
theorem rB_iff {s : St} : rB s = true ↔ Rt s := rBW_iff
theorem rt_rg (s : St) : Rt s ↔ Rg s := rt_wg
theorem rB_false {s : St} (h : ¬ Rt s) : rB s = false := rBW_false h
theorem rB_true {s : St} (h : Rt s) : rB s = true := rBW_true h
theorem touch_rg {s : St} (h : Rg s) (k : Int) : Rg (touchW s k) := touch_wg h k
theorem admit_rg {s : St} (h : Rg s) (k : Int) : Rg (admitW s k) := admit_wg h k
theorem drop_rg {s : St} (h : Rg s) (k : Int) : Rg (dropW s k) := drop_wg h k
theorem resize_rg {s : St} (h : Rg s) (c : Cf) (hc : Cl c) : Rg (resizeW s c) := resize_wg h c hc
theorem new_rg {c : Cf} (hc : Cl c) : Rg (newW c) := new_wg hc _
instance (c : Cf) : Decidable (Cl c) := by unfold Cl Clk; infer_instance
theorem rg_len {s : St} (h : Rg s) : s.pg.length ≤ 768 := by have h1 := wg_len h; have h2 := h.w.ck.2.1.2; have h3 := h.w.ck.2.2.2.2; omega
theorem rg_lim {s : St} (h : Rg s) : Lim s 768 := ⟨rg_len h, by rw [h.w.qu]; exact Nat.zero_le _, by rw [h.w.gh]; exact Nat.zero_le _⟩
theorem rg_lim' {s : St} (h : Rg s) : Lim s 10000 := (rg_lim h).up (by omega)
def K64 (k : Int) : Prop := 0 ≤ k ∧ k ≤ 18446744073709551615
def Kw (s : St) : Prop := (∀ p ∈ s.pg, K64 p.key) ∧ (∀ k ∈ s.qu, K64 k) ∧ (∀ k ∈ s.gh, K64 k)
theorem kw_new (c : Cf) : Kw (newW c) := ⟨(fun p hp => nomatch hp), (fun k hk => nomatch hk), (fun k hk => nomatch hk)⟩
theorem kw_zero : Kw S0 := ⟨(fun p hp => nomatch hp), (fun k hk => nomatch hk), (fun k hk => nomatch hk)⟩
theorem kw_of {s t : St} (h : Kw s) (hw : Rg t) (hs : ∀ q ∈ t.pg, ∃ q' ∈ s.pg, q'.key = q.key) : Kw t :=
  ⟨fun q hq => by obtain ⟨q', h1, e⟩ := hs q hq; rw [← e]; exact h.1 q' h1, (by rw [hw.w.qu]; exact (fun k hk => nomatch hk)), (by rw [hw.w.gh]; exact (fun k hk => nomatch hk))⟩
theorem kw_touch {s : St} (hr : Rg s) (h : Kw s) (k : Int) : Kw (touchW s k) := by
  refine kw_of h (touch_rg hr k) (fun q hq => ?_)
  unfold touchW at hq
  split at hq
  · split at hq
    · rename_i i hi
      split at hq
      · rename_i p hp
        exact (ks_set (y := { p with mark := true }) hp rfl).sub q hq
      · exact ⟨q, hq, rfl⟩
    · exact ⟨q, hq, rfl⟩
  · exact ⟨q, hq, rfl⟩
theorem kw_drop {s : St} (hr : Rg s) (h : Kw s) (k : Int) : Kw (dropW s k) := by
  refine kw_of h (drop_rg hr k) (fun q hq => ?_)
  unfold dropW at hq
  split at hq
  · rename_i i hi
    exact (ks_erase s.pg i).sub q hq
  · exact ⟨q, hq, rfl⟩
theorem admC_ks {s : St} (h : Wg s) {k : Int} (hk : ¬ KptW s k) : Ks s.pg (admC s k).pg := by
  obtain ⟨a1, a2, a3, a4, a5, a6, a7⟩ := admA_ok h hk
  have hs := spill_sp (most := s.cf.c - 1) a1 a2 (by rw [a3]; exact Int.le_refl _)
  obtain ⟨he, _, _⟩ := expire_ex hs.w hs.r
  exact a7.trans (hs.ks.trans he.ks)
theorem kw_admit {s : St} (hr : Rg s) (h : Kw s) {k : Int} (hk : K64 k) : Kw (admitW s k) := by
  have hw := admit_rg hr k
  refine ⟨fun q hq => ?_, (by rw [hw.w.qu]; exact (fun k hk => nomatch hk)), (by rw [hw.w.gh]; exact (fun k hk => nomatch hk))⟩
  unfold admitW at hq
  split at hq
  · exact h.1 q hq
  · rename_i hkp
    obtain ⟨b1, b2, b3, b4, b5, b6, b7⟩ := admC_ok hr hkp
    have hks := admC_ks hr hkp
    have H : ∀ q ∈ (admC s k).pg, K64 q.key := fun q hq => by obtain ⟨q', h1, e⟩ := hks.sub q hq; rw [← e]; exact h.1 q' h1
    split at hq
    · have hws : Ww (head (raW (admC s k)) ⟨k, 1, false, false⟩) := (b1.setc (raW (admC s k)).ct).head (head_nd b1 b4) (.inl ⟨rfl, rfl⟩)
      obtain ⟨q', h1, e⟩ := (cool_le hws).ks.sub q hq
      rw [← e]
      rcases List.mem_append.1 h1 with h1 | h1
      · exact H q' h1
      · have : q' = ⟨k, 1, false, false⟩ := by simpa using h1
        rw [this]; exact hk
    · rcases List.mem_append.1 hq with h1 | h1
      · exact H q h1
      · have : q = ⟨k, 2, true, false⟩ := by simpa using h1
        rw [this]; exact hk
theorem kw_resize {s : St} (hr : Rg s) (h : Kw s) (c : Cf) (hc : Cl c) : Kw (resizeW s c) := by
  have hw0 : Ww (reS s c) := ⟨hc, by show 1 ≤ c.q ∧ c.q ≤ c.c - 1; have := hc.2.2.1; omega, hr.w.nk, hr.w.pk, hr.w.qu, hr.w.gh, hr.w.hc, hr.w.ht⟩
  have hL := cool_le hw0
  have hcf : (cool (reS s c)).cf = c := hL.cf
  have hs := spill_sp (most := c.c) (cool_ww hw0) (cool_rm hw0) (by rw [hcf]; omega)
  obtain ⟨he, _, _⟩ := expire_ex hs.w hs.r
  exact kw_of h (resize_rg hr c hc) (hL.ks.trans (hs.ks.trans he.ks)).sub
end Go.Proofs.Ytejcahkkpednfaa
namespace Go.Proofs.Ytejcahkkpednfaa
open Go.RowKit
open Go.Proofs.StackM
open Go.Maps (Keyed IsMap)
set_option linter.unusedVariables false
theorem K64.wf {k : Int} (h : K64 k) : (Lit.int .u64 k).wf = true := (Lit.wf_int_iff .u64 k).2 h
theorem lawU : Keyed Try.prog 27 := Go.Maps.int_keyed Try.underlying27
theorem keyU {k : Int} (h : K64 k) : keyOf Try.prog 27 (.int .u64 k) = some (.int .u64 k) := Go.Maps.keyOf_int_mk Try.underlying27 h.wf
theorem zero4 (w : World) : (zeroValue 4).run Try.prog w = .ok (.bool false) w := by kernel_rfl
theorem zero56 (w : World) : (zeroValue 55).run Try.prog w = .ok (.int .i64 0) w := by kernel_rfl
theorem bool_inv {P : Program} {e : TypeId} (he : P.underlying e = some .bool) {v : Value} {x : Bool} {ps : List MemPlace} (h : plainElem (H := Unit) P e v = some (.lit (.bool x), ps)) : v = .bool x := by
  unfold plainElem at h
  rw [he] at h
  cases v <;> simp at h
  rw [h.1]
/-- a map of bools -/
def MB (w : World) (b n : Nat) (f : Int → Bool) : Prop := ∃ D : DataW Unit, w.ownsMap Try.prog 27 (plainElem Try.prog 4) b n D ∧ IsMap D ∧ ∀ k, D.atKey (.int .u64 k) (.lit (.bool false)) = .lit (.bool (f k))
theorem MB.made (w : World) : MB (w.alloc (.map #[] 0)) w.heap.size 0 (fun _ => false) := ⟨.map [], World.ownsMap_made _ _ _ _, Go.Maps.isMap_empty, fun k => rfl⟩
theorem MB.look {w : World} {b n : Nat} {f : Int → Bool} (h : MB w b n f) {k : Int} (hk : K64 k) : (Instr.lookup 96 (.map (some b)) (.int .u64 k) false).run Try.prog w = .ok (.bool (f k)) w := by
  obtain ⟨D, h1, h2, h3⟩ := h
  obtain ⟨v, ps, h4, h5⟩ := h1.lookup lawU Try.underlying96 (zero4 w) (plainElem_bool Try.underlying4 false) (keyU hk)
  rw [h3] at h5
  rw [h4, bool_inv Try.underlying4 h5]
theorem MB.lt {w : World} {b n : Nat} {f : Int → Bool} (h : MB w b n f) : b < w.heap.size := by obtain ⟨D, h1, _⟩ := h; exact h1.lt
theorem MB.kept {w w' : World} {b n : Nat} {f : Int → Bool} (h : MB w b n f) (hb : Below w.heap.size w w') : MB w' b n f := by
  obtain ⟨D, h1, h2⟩ := h
  exact ⟨D, h1.kept (row := none) ⟨hb.os, hb.tape, hb.output, hb.size, fun k hk _ => hb.block k hk⟩ (by simp), h2⟩
theorem MB.put {w : World} {b n : Nat} {f : Int → Bool} (h : MB w b n f) {k : Int} (hk : K64 k) (x : Bool) (hn : n < 1000000) : ∃ w', (Instr.mapUpdate 96 (.map (some b)) (.int .u64 k) (.bool x)).run Try.prog w = .ok () w' ∧ MB w' b (n + 1) (fun j => if j = k then x else f j) ∧ w.grownBy w' (some b) := by
  obtain ⟨D, h1, h2, h3⟩ := h
  obtain ⟨w', h4, h5, h6⟩ := h1.update lawU Try.underlying96 (by unfold maxLen; omega) (keyU hk) (plainElem_bool Try.underlying4 x)
  refine ⟨w', h4, ⟨_, h5, h2.put _ _, fun j => ?_⟩, h6⟩
  dsimp only
  by_cases hj : j = k
  · subst hj
    rw [if_pos rfl, Go.Maps.atKey_put_same (k := .int .u64 j) h2 (show WideAt.IsKeyLit (.int .u64 j) from trivial)]
  · rw [if_neg hj, Go.Maps.atKey_put_other (by intro e; injection e with _ e; exact hj e), h3]
theorem grown_above {w w' : World} {b L : Nat} (hg : w.grownBy w' (some b)) (hb : L ≤ b) (hs : L ≤ w.heap.size) : Below L w w' :=
  ⟨hg.os, hg.tape, hg.output, hg.size, fun k hk => hg.block k (Nat.lt_of_lt_of_le hk hs) (by intro e; injection e; omega)⟩
end Go.Proofs.Ytejcahkkpednfaa
