/-
  The document's vault: Drop.
-/
import Derived.Test.YthpcjgfbngemiaaRefI
namespace Go.Proofs.Ythpcjgfbngemiaa
open Go.ChangeShapes Go.WideShapes Go.ChangeAt Go.RowKit
set_option linter.unusedVariables false
set_option maxRecDepth 100000
set_option maxHeartbeats 1000000 in
theorem rdrop_at {w : World} {A : Option Addr} {l : List RB} {n c base : Nat} (ho : w.ownsRow base 63 3 (.slice A n c) n (rvals renc l)) (h1 : n ≤ 70000) (room packs moved : Int) {j : Nat} (hj : j < n) :
    Calls Try.prog 13 #[refV room packs moved A n c, .int .i64 (j : Int)] w fun r w' => ∃ A' c' N, N + 1 = n ∧ r = .returned (refV room packs moved A' N c') ∧ w'.ownsRow w.heap.size 63 3 (.slice A' N c') N (rvals renc (l.eraseIdx j)) ∧ w.grownBy w' none := by
  have HO := Lib.hid ho
  have HN := Lib.hid (owns_rrow ho).1
  obtain ⟨g, cap, eg⟩ := owns_some ho (by omega)
  injection eg with e1 e2 e3
  subst e1
  subst e3
  have hnc : n ≤ c := by
    rcases ho.2 with ⟨e, _⟩ | ⟨_, _, _, e, _, _, h1, _⟩
    · cases e
    · injection e with _ _ e; omega
  obtain ⟨hgB, hzB, hb0, hb1⟩ := alloc44 w (.int .i64 room) (.int .i64 packs) (.int .i64 moved) (.slice (some ⟨g, 0, none⟩) n c) (.int .i64 0) (.int .i64 0) (.int .i64 0) (.slice none 0 0) 30
  obtain ⟨B, hB⟩ : ∃ B, w.heap.size = B := ⟨_, rfl⟩
  rw [hB] at hb0 hb1
  have hP0 : PQ w B (B + 2) room packs moved (some ⟨g, 0, none⟩) n c none 0 0 [] ((w.alloc (.cells #[.int .i64 room, .int .i64 packs, .int .i64 moved, .slice (some ⟨g, 0, none⟩) n c] 30)).alloc (.cells #[.int .i64 0, .int .i64 0, .int .i64 0, .slice none 0 0] 30)) := ⟨hb0, hb1, World.ownsRow_nil _ _ _ _, hgB, by rw [hzB, hB]; exact Nat.le_refl _⟩
  have HP0 := Lib.hid hP0
  have HB := Lib.hid hB
  have HZ := Lib.hid hzB
  clear ho hP0 hgB hb0 hb1 e2
  obtain ⟨wB, HWB⟩ : ∃ wB, Hid ((w.alloc (.cells #[.int .i64 room, .int .i64 packs, .int .i64 moved, .slice (some ⟨g, 0, none⟩) n c] 30)).alloc (.cells #[.int .i64 0, .int .i64 0, .int .i64 0, .slice none 0 0] 30) = wB) := ⟨_, Lib.hid rfl⟩
  rw [HWB.out] at HP0 hzB
  have hzB2 : wB.heap.size = B + 2 := by rw [hzB, hB]
  have hS0 : (wB.alloc (.cells #[] 63)).ownsRow (B + 2) 63 3 (.slice (some ⟨B + 1 + 1, 0, none⟩) 0 0) 0 (rvals renc []) := ⟨rfl, .inr ⟨B + 1 + 1, 0, #[], rfl, Nat.le_refl _, by rw [show B + 1 + 1 = wB.heap.size from hzB2.symm]; exact heap_alloc_new _ _, Nat.le_refl _, by unfold maxLen; omega, rfl, rfl⟩⟩
  have hbw0 : Below (B + 2) wB (wB.alloc (.cells #[] 63)) := (Below.refl _ _).alloc (by omega) _
  have hcell : ∀ (W : World), w.grownBy W none → ∀ i u, (rvals renc l)[i]? = some u → W.cell? ⟨g, i, none⟩ = some u := fun W hg i u hu => by
    have := (own_same HO.out fun k hk _ => hg.block k hk (by simp)).cells (g := g) rfl _ _ hu
    rwa [Go.WideShapes.add_plain, Nat.zero_add] at this
  have hgw : ∀ W, Below (B + 2) wB W → w.grownBy W none := fun W hb => grown_trans HP0.out.gr (below_grownN (by rw [hzB2]; exact hb))
  obtain ⟨D1, c1, w1, hr1, ho1, hbl1⟩ := appR (l2 := l.take j) hS0 (by simp; omega) ⟨g, 0, none⟩ j c (by rw [List.length_take, HN.out]; omega) (by omega) (fun i u hu => by
    have h2 : (rvals renc l)[i]? = some u := by
      have e : l = l.take j ++ l.drop j := (List.take_append_drop j l).symm
      rw [e, rvals_append, List.getElem?_append_left (List.getElem?_eq_some_iff.1 hu).1]
      exact hu
    rw [Go.WideShapes.add_plain, Nat.zero_add]
    exact hcell _ (hgw _ hbw0) i u h2)
  rw [Nat.zero_add, List.nil_append] at ho1
  rw [Nat.zero_add] at hr1
  have hbl2 := hbw0.trans hbl1
  obtain ⟨a2, c2, hsl, ha2⟩ := slice28 g 0 n c (j + 1) hj hnc
  obtain ⟨D3, c3, w3, hr3, ho3, hbl3⟩ := appR (l2 := l.drop (j + 1)) ho1 (by have := hbl2.size; omega) a2 (n - (j + 1)) c2 (by rw [List.length_drop, HN.out]) (by omega) (fun i u hu => by
    by_cases h : j + 1 < n
    · rw [ha2 h, Nat.zero_add, Go.WideShapes.add_plain]
      refine hcell _ (hgw _ hbl2) _ u ?_
      have e : l = l.take (j + 1) ++ l.drop (j + 1) := (List.take_append_drop (j + 1) l).symm
      rw [e, rvals_append, List.getElem?_append_right (by rw [rvals_len renc_len, List.length_take, HN.out]; omega), rvals_len renc_len, List.length_take, HN.out, Nat.min_eq_left (by omega), Nat.add_sub_cancel_left]
      exact hu
    · have : l.drop (j + 1) = [] := List.drop_of_length_le (by rw [HN.out]; omega)
      rw [this] at hu
      simp [rvals] at hu)
  rw [← List.eraseIdx_eq_take_drop_succ] at ho3
  obtain ⟨N, hN⟩ : ∃ N, j + (n - (j + 1)) = N := ⟨_, rfl⟩
  rw [hN] at hr3 ho3
  have hgB3 := below_grownN (by rw [hzB2]; exact hbl2.trans hbl3 : Below wB.heap.size wB w3)
  have HP3 : Hid (PQ w B (B + 2) room packs moved (some ⟨g, 0, none⟩) n c D3 N c3 (l.eraseIdx j) w3) := Lib.hid ⟨kept2 HP0.out.hb hgB3, kept2 HP0.out.hr hgB3, ho3, hgw _ (hbl2.trans hbl3), by have := (hbl2.trans hbl3).size; omega⟩
  have HN1 : Hid (N + 1 = n) := Lib.hid (by omega)
  have HRun1 := Lib.hid hr1
  have HRun3 := Lib.hid hr3
  have hsl2 : ∀ W, (Instr.slice 28 (.slice (some ⟨g, 0, none⟩) n c) (some (.int .i64 ((j : Int) + 1))) none none).run Try.prog W = .ok (.slice (some a2) (n - (j + 1)) c2) W := fun W => by
    have := hsl W
    push_cast at this
    exact this
  have HSZ := Lib.hid hzB2
  obtain ⟨⟨z0, z1, z2, z3⟩, ⟨f0, f1, f2, f3⟩, hBl⟩ := cells4 HP3.out.hb
  obtain ⟨⟨r0, r1, r2, r3⟩, ⟨d0, d1, d2, d3⟩, hBl2⟩ := cells4 HP3.out.hr
  obtain ⟨⟨x0, x1, x2, x3⟩, _⟩ := cells4 (kept2 HP0.out.hb (below_grownN (by rw [hzB2]; exact hbl2 : Below wB.heap.size wB w1)))
  have k1 : (0 : Int) ≤ (j : Int) := by omega
  have k2 : (j : Int) ≤ (n : Int) := by omega
  have k3 : (j : Int) ≤ (c : Int) := by omega
  clear hr1 ho1 hbl2 hbl1 hr3 ho3 hbl3 hN hgB3 hS0 hbw0 hcell hgw hzB hzB2 ha2 hsl HO
  unfold refV
  go_enter Try.func13, Try.ntmps13
  go_wp2_with (first | (at_builtin; rw [HWB.out]; refine append_run rfl (.tmp 6) (.tmp 10) 28 rfl rfl rfl HRun1.out ?_) | (at_builtin; refine append_run rfl (.tmp 12) (.tmp 17) 28 rfl rfl rfl HRun3.out ?_))
  obtain ⟨hhd, hrow, hgr⟩ := (HP3.out.setRow (A' := D3) (n' := N) (c2 := c3) (Nat.le_of_eq HB.out) (Nat.le_refl _)).fin4 (Nat.le_of_eq HB.out) (Nat.le_refl _) (.int .i64 room) (.int .i64 packs) (.int .i64 moved) (.slice D3 N c3)
  refine bodyPost_ret (results_ref4 rfl _ _ _ _ _ _ _ _ _ rfl hhd) rfl ?_
  exact ⟨D3, c3, N, HN1.out, rfl, owns_base hrow (by have := HB.out; omega), hgr⟩
end Go.Proofs.Ythpcjgfbngemiaa
