/-
  The document's vault: first.
-/
import Derived.Test.YthpcjgfbngemiaaRefG
namespace Go.Proofs.Ythpcjgfbngemiaa
open Go.ChangeShapes Go.WideShapes Go.ChangeAt Go.RowKit
set_option linter.unusedVariables false
set_option maxRecDepth 100000
/-- a world that has only grown -/
structure GrW (w : World) where
  v : World
  h : w.grownBy v none
instance (w : World) : Inhabited (GrW w) := ⟨⟨w, rfl, rfl, rfl, Nat.le_refl _, fun _ _ _ => rfl⟩⟩
/-- a region that draws its order, whose operations only read, and whose callees read and make memory of their own -/
theorem region_grown {P : Program} {id : Nat} {Q : Exit → Act → World → Prop} {a : Act} {w : World} {l : List Oper} (hm : P.follows .mixedOrders = true) (hB : Region.lexB .any l.toArray = true)
    (h : wpQuiet P l.toArray (fun w' => ∃ p : GrW w, w' = p.v) (fun a' => ∀ w', (∃ p : GrW w, w' = p.v) → Q .normal a' w') l a) : (Code.region id l.toArray true).wp P Q a w :=
  wp_region_quiet (C := fun w' => ∃ p : GrW w, w' = p.v) hm hB ⟨⟨w.drewN 1, grown_drewN w 1 none⟩, rfl⟩ (by simpa using h)
set_option maxHeartbeats 1000000 in
theorem rfirst_at {w : World} {A : Option Addr} {l : List RB} (hr : RRow w A l) (hsm : RSm l) (n c : Nat) (hn : l.length = n) (h1 : n ≤ 100000) (room packs moved m : Int) (hm0 : 0 ≤ m) (hm1 : m ≤ 10000000) :
    Calls Try.prog 26 #[refV room packs moved A n c, .int .i64 m] w fun e w' => e = .returned (.int .i64 (rBest room l m (rE l))) ∧ w.grownBy w' none := by
  have hga := World.grownBy_alloc w (.cells #[.int .i64 room, .int .i64 packs, .int .i64 moved, .slice A n c] 30) none
  have hb := heap_alloc_new w (.cells #[.int .i64 room, .int .i64 packs, .int .i64 moved, .slice A n c] 30)
  have HR := Lib.hid hr
  have HG := Lib.hid hga
  have HB := Lib.hid hb
  have HN := Lib.hid (And.intro hn hsm)
  have HE := Lib.hid (rends_at (hr.kept hga) hsm n c hn h1 room packs moved)
  obtain ⟨B, HBB⟩ : ∃ B, Hid (w.heap.size = B) := ⟨_, Lib.hid rfl⟩
  unfold refV at HE ⊢
  clear hr hga hn hb hsm
  go_enter Try.func26, Try.ntmps26
  go_wp2_with fail
  rw [HBB.out] at HB ⊢
  obtain ⟨w1, hw1⟩ : ∃ w1 : World, w1 = w.alloc (.cells #[.int .i64 room, .int .i64 packs, .int .i64 moved, .slice A n c] 30) := ⟨_, rfl⟩
  rw [← hw1] at HG HB HE ⊢
  clear hw1
  refine HE.out.mono ?_
  rintro e w2 ⟨D, c', N, hN, rfl, ho, hg2⟩
  have HO := Lib.hid (And.intro hN ho)
  have HG2 := Lib.hid hg2
  have hN1 : N ≤ 200000 := by rw [hN]; unfold rE; simp; rw [HN.out.1]; omega
  clear hN ho hg2 HE
  go_wp2_with fail
  go_loopw [5, 7] (fun bv i wr => ∃ (k : Nat) (bs : Int), k ≤ N ∧ i = .int .i64 (k : Int) ∧ bv = .int .i64 bs ∧ Hid (bs = rBest room l m ((rE l).take k) ∧ w2.grownBy wr none)) (fun _ i _ => N - (intOf i).toNat)
  case atStart => exact ⟨0, -1, by omega, by go_num, by first | rfl | go_num, Lib.hid ⟨by simp [rBest], ⟨rfl, rfl, rfl, Nat.le_refl _, fun _ _ _ => rfl⟩⟩⟩
  case round =>
    obtain ⟨k, bs, hk, rfl, rfl, HK⟩ := hrel
    have HG3 := Lib.hid (grown_trans HG2.out HK.out.2)
    have hb2 := kept2 HB.out HG3.out
    have z3 := cell_of_head hb2 3
    have HB2 := Lib.hid hb2
    clear hb2
    by_cases hlt : k < N
    · obtain ⟨e, HX⟩ : ∃ e, Hid ((rE l)[k]? = some e) := ⟨_, Lib.hid (List.getElem?_eq_getElem (by rw [← HO.out.1]; exact hlt))⟩
      have HOW := Lib.hid (HO.out.2.kept HK.out.2 (by cases e : (Value.slice D N c').ownBlock with | none => exact .inl rfl | some q => exact .inr (by simp)))
      obtain ⟨g, cg, eg⟩ := owns_some HOW.out (by omega)
      injection eg with e1 _ e3
      subst e1
      have hce : wr.cell? ⟨g, k, none⟩ = some (.int .i64 e) := by
        have h2 := rvals_get ienc_len HX.out (j := 0) (by omega)
        simp only [Nat.mul_one, Nat.add_zero] at h2
        exact (HOW.out.cellAt k (by have := HO.out.1; omega)).trans h2
      have he := rE_sm HN.out.2 e (List.mem_of_getElem? HX.out)
      have HC : Hid (∀ p : GrW wr, Calls Try.prog 46 #[refV room packs moved A n c, .int .i64 e, .int .i64 m] p.v fun r w' => r = .returned (.bool (rFit room l e m)) ∧ ∃ p' : GrW wr, w' = p'.v) := Lib.hid (fun p => (rfits_at (HR.out.kept (grown_trans HG.out (grown_trans HG3.out p.h))) HN.out.2 n c HN.out.1 h1 room packs moved e m he.1 he.2 hm0 hm1).mono fun r w' ⟨hr, hg⟩ => ⟨hr, ⟨w', grown_trans p.h hg⟩, rfl⟩)
      unfold refV at HC
      have HST := Lib.hid (rBest_take (room := room) (l := l) (m := m) HX.out)
      obtain ⟨t, ht⟩ : ∃ t, t = rFit room l e m := ⟨_, rfl⟩
      rw [← ht] at HC
      have HT := Lib.hid ht
      have y0 : ∀ p : GrW wr, p.v.cell? ⟨B, 0, none⟩ = some (.int .i64 room) := fun p => cell_of_head (kept2 HB2.out p.h) 0
      have y1 : ∀ p : GrW wr, p.v.cell? ⟨B, 1, none⟩ = some (.int .i64 packs) := fun p => cell_of_head (kept2 HB2.out p.h) 1
      have y2 : ∀ p : GrW wr, p.v.cell? ⟨B, 2, none⟩ = some (.int .i64 moved) := fun p => cell_of_head (kept2 HB2.out p.h) 2
      have y3 : ∀ p : GrW wr, p.v.cell? ⟨B, 3, none⟩ = some (.slice A n c) := fun p => cell_of_head (kept2 HB2.out p.h) 3
      have y4 : ∀ p : GrW wr, p.v.cell? ⟨g, k, none⟩ = some (.int .i64 e) := fun p => p.h.cell hce (by simp)
      have hkN : (k : Int) < (N : Int) := by omega
      have hld : ∀ p : GrW wr, (loadVar 30 ⟨B, 0, none⟩).run Try.prog p.v = .ok (.agg #[.int .i64 room, .int .i64 packs, .int .i64 moved, .slice A n c]) p.v := fun p => run_loadVar_row p.v B 30 30 #[.int .i64 room, .int .i64 packs, .int .i64 moved, .slice A n c] (0, 0) _ (kept2 HB2.out p.h) Try.underlying30 rfl (by kernel_rfl)
      clear ht e3
      cases htv : t with
      | false =>
        subst htv
        have HS : Hid (bs = rBest room l m ((rE l).take (k + 1))) := Lib.hid (by rw [HST.out, rStep, if_neg (by rw [← HT.out]; simp)]; exact HK.out.1)
        go_wp2_with fail
        refine region_grown (by kernel_rfl) (by kernel_rfl) ?_
        repeat (go_big_quiet_step (first | (go_at_call 46; exact HC.out _)))
        refine wpQuiet_nil ?_
        rintro w' ⟨⟨w3, hg3⟩, rfl⟩
        have HG4 := Lib.hid (grown_trans HK.out.2 hg3)
        clear hg3 hld y0 y1 y2 y3 y4 hce z3
        go_wp2
        go_round
        case rel => exact ⟨k + 1, bs, by omega, by go_num, rfl, Lib.hid ⟨HS.out, HG4.out⟩⟩
        case measure => simp only [intOf]; omega
      | true =>
        subst htv
        by_cases hb0 : bs < 0
        · have HS : Hid (e = rBest room l m ((rE l).take (k + 1))) := Lib.hid (by rw [HST.out, rStep, ← HK.out.1, if_pos ⟨HT.out.symm, .inl hb0⟩])
          go_wp2_with fail
          refine region_grown (by kernel_rfl) (by kernel_rfl) ?_
          repeat (go_big_quiet_step (first | (go_at_call 46; exact HC.out _)))
          refine wpQuiet_nil ?_
          rintro w' ⟨⟨w3, hg3⟩, rfl⟩
          have hc3 : w'.cell? ⟨g, k, none⟩ = some (.int .i64 e) := hg3.cell hce (by simp)
          have HG4 := Lib.hid (grown_trans HK.out.2 hg3)
          clear hg3 hld y0 y1 y2 y3 y4 hce z3
          go_wp2
          go_round
          case rel => exact ⟨k + 1, e, by omega, by go_num, rfl, Lib.hid ⟨HS.out, HG4.out⟩⟩
          case measure => simp only [intOf]; omega
        · have hd0 : decide (bs < 0) = false := by simp; omega
          by_cases hb1 : e < bs
          · have HS : Hid (e = rBest room l m ((rE l).take (k + 1))) := Lib.hid (by rw [HST.out, rStep, ← HK.out.1, if_pos ⟨HT.out.symm, .inr hb1⟩])
            go_wp2_with fail
            refine region_grown (by kernel_rfl) (by kernel_rfl) ?_
            repeat (go_big_quiet_step (first | (go_at_call 46; exact HC.out _)))
            refine wpQuiet_nil ?_
            rintro w' ⟨⟨w3, hg3⟩, rfl⟩
            have hc3 : w'.cell? ⟨g, k, none⟩ = some (.int .i64 e) := hg3.cell hce (by simp)
            have HG4 := Lib.hid (grown_trans HK.out.2 hg3)
            clear hg3 hld y0 y1 y2 y3 y4 hce z3
            go_wp2
            go_round
            case rel => exact ⟨k + 1, e, by omega, by go_num, rfl, Lib.hid ⟨HS.out, HG4.out⟩⟩
            case measure => simp only [intOf]; omega
          · have hd1 : decide (e < bs) = false := by simp; omega
            have HS : Hid (bs = rBest room l m ((rE l).take (k + 1))) := Lib.hid (by rw [HST.out, rStep, ← HK.out.1, if_neg (fun hh => hh.2.elim hb0 hb1)])
            go_wp2_with fail
            refine region_grown (by kernel_rfl) (by kernel_rfl) ?_
            repeat (go_big_quiet_step (first | (go_at_call 46; exact HC.out _)))
            refine wpQuiet_nil ?_
            rintro w' ⟨⟨w3, hg3⟩, rfl⟩
            have hc3 : w'.cell? ⟨g, k, none⟩ = some (.int .i64 e) := hg3.cell hce (by simp)
            have HG4 := Lib.hid (grown_trans HK.out.2 hg3)
            clear hg3 hld y0 y1 y2 y3 y4 hce z3
            go_wp2
            go_round
            case rel => exact ⟨k + 1, bs, by omega, by go_num, rfl, Lib.hid ⟨HS.out, HG4.out⟩⟩
            case measure => simp only [intOf]; omega
    · have e : (rE l).take k = rE l := by rw [List.take_of_length_le]; have := HO.out.1; omega
      have HF : Hid (bs = rBest room l m (rE l)) := Lib.hid (by rw [HK.out.1, e])
      have HGF := Lib.hid (grown_trans HG.out HG3.out)
      go_wp2
      go_ret
      exact ⟨by rw [← HF.out]; rfl, HGF.out⟩
end Go.Proofs.Ythpcjgfbngemiaa
