/-
  The document's vault: Put.
-/
import Derived.Test.YthpcjgfbngemiaaRefJ
namespace Go.Proofs.Ythpcjgfbngemiaa
open Go.ChangeShapes Go.WideShapes Go.ChangeAt Go.RowKit
set_option linter.unusedVariables false
set_option maxRecDepth 100000
theorem PQ.setG {w W : World} {B base G i : Nat} {room pk mv : Int} {A : Option Addr} {n c : Nat} {D : Option Addr} {m c' : Nat} {acc : List RB} {v : Value} (h : PQ w B base room pk mv A n c D m c' acc W) (hB : w.heap.size ≤ B) (hG : B + 2 ≤ G) (hG2 : G < base) :
    PQ w B base room pk mv A n c D m c' acc (W.setCell ⟨G, i, none⟩ v) :=
  ⟨(heap_setCell_other _ _ _ _ (by simp only; omega)).trans h.hb, (heap_setCell_other _ _ _ _ (by simp only; omega)).trans h.hr, own_same h.row fun k hk hb => heap_setCell_other _ _ _ _ (by simp only; omega), grown_new h.gr (grown_setCell _ _ _ _) (by omega), by simpa using h.sz⟩
theorem PQ.rebase {w W : World} {B base base' : Nat} {room pk mv : Int} {A : Option Addr} {n c : Nat} {D : Option Addr} {m c' : Nat} {acc : List RB} (h : PQ w B base room pk mv A n c D m c' acc W) (hs : base' ≤ W.heap.size) : PQ w B base' room pk mv A n c none 0 0 [] W :=
  ⟨h.hb, h.hr, World.ownsRow_nil _ _ _ _, h.gr, hs⟩
set_option maxHeartbeats 1000000 in
theorem rput_gap {w : World} {A : Option Addr} {l : List RB} {n c base : Nat} (ho : w.ownsRow base 63 3 (.slice A n c) n (rvals renc l)) (hsm : RSm l) (h1 : n ≤ 70000) (hul : rU l ≤ 2000000) (room packs moved : Int) (hr0 : 0 ≤ room) (hr1 : room ≤ 2000000) (s : ByteArray) (hs1 : s.size ≤ 100000) (hf : (rU l : Int) + (s.size : Int) ≤ room) (hz : 0 < s.size) (p : Int) (hp : rBest room l (s.size : Int) (rE l) = p) (hp0 : 0 ≤ p) :
    Calls Try.prog 10 #[refV room packs moved A n c, .string s] w (RPut w room packs moved l l s p n) := by
  have HP := Lib.hid hp
  clear hp
  have HO := Lib.hid ho
  have HN := Lib.hid (And.intro (owns_rrow ho).1 hsm)
  have HR := Lib.hid (owns_rrow ho).2
  obtain ⟨hgB, hzB, hb0, hb1⟩ := alloc44 w (.int .i64 room) (.int .i64 packs) (.int .i64 moved) (.slice A n c) (.int .i64 0) (.int .i64 0) (.int .i64 0) (.slice none 0 0) 30
  obtain ⟨B, hB⟩ : ∃ B, w.heap.size = B := ⟨_, rfl⟩
  rw [hB] at hb0 hb1
  unfold refV
  clear ho hsm
  go_enter Try.func10, Try.ntmps10
  go_wp2_with fail
  generalize (w.alloc (.cells #[.int .i64 room, .int .i64 packs, .int .i64 moved, .slice A n c] 30)).alloc (.cells #[.int .i64 0, .int .i64 0, .int .i64 0, .slice none 0 0] 30) = wB at *
  have hP0 : PQ w B (B + 2) room packs moved A n c none 0 0 [] wB := ⟨hb0, hb1, World.ownsRow_nil _ _ _ _, hgB, by rw [hzB, hB]; exact Nat.le_refl _⟩
  have HP0 := Lib.hid hP0
  have HB := Lib.hid hB
  clear hP0 hgB hzB hb0 hb1 hB
  have y0 : ∀ p : GrW wB, p.v.cell? ⟨B, 0, none⟩ = some (.int .i64 room) := fun p => cell_of_head (HP0.out.grow p.h).hb 0
  have y1 : ∀ p : GrW wB, p.v.cell? ⟨B, 1, none⟩ = some (.int .i64 packs) := fun p => cell_of_head (HP0.out.grow p.h).hb 1
  have y2 : ∀ p : GrW wB, p.v.cell? ⟨B, 2, none⟩ = some (.int .i64 moved) := fun p => cell_of_head (HP0.out.grow p.h).hb 2
  have y3 : ∀ p : GrW wB, p.v.cell? ⟨B, 3, none⟩ = some (.slice A n c) := fun p => cell_of_head (HP0.out.grow p.h).hb 3
  have HC : Hid (∀ p : GrW wB, Calls Try.prog 24 #[refV room packs moved A n c] p.v fun r w' => r = .returned (.int .i64 ((rU l : Nat) : Int)) ∧ ∃ p' : GrW wB, w' = p'.v) := Lib.hid (fun p => (rused_at (HR.out.kept (HP0.out.grow p.h).gr) n c HN.out.1 (by omega) (by omega) room packs moved).mono fun r w' ⟨hr, hg⟩ => ⟨hr, ⟨w', grown_trans p.h hg⟩, rfl⟩)
  unfold refV at HC
  obtain ⟨u, hu⟩ : ∃ u, rU l = u := ⟨_, rfl⟩
  rw [hu] at HC hul hf
  have HU := Lib.hid hu
  clear hu
  have hd1 : decide (room - (u : Int) < (s.size : Int)) = false := by simp; omega
  refine region_grown (by kernel_rfl) (by kernel_rfl) ?_
  repeat (go_big_quiet_step (first | (go_at_call 24; exact HC.out _)))
  refine wpQuiet_nil ?_
  rintro w2 ⟨⟨w3, hg3⟩, rfl⟩
  have HP2 := Lib.hid (HP0.out.grow hg3)
  clear hg3 y0 y1 y2 y3 HC hd1
  obtain ⟨⟨z0, z1, z2, z3⟩, ⟨f0, f1, f2, f3⟩, hBl⟩ := cells4 HP2.out.hb
  have c25 := rnumber_at (HR.out.kept HP2.out.gr) n c HN.out.1 (by omega) room packs moved
  unfold refV at c25
  have H25 := Lib.hid c25
  clear c25
  go_wp2_with fail
  refine H25.out.mono ?_
  rintro e w3 ⟨num, rfl, hL, hg3⟩
  have HL := Lib.hid hL
  have hnum : num ≤ 70000 := by
    have := sub_len num (l.map (·.1)) (fun j hj => by
      obtain ⟨x, hx, e⟩ := hL.low j hj
      exact List.mem_map.2 ⟨x, hx, e⟩)
    rw [List.length_map, HN.out.1] at this
    omega
  have HP3 := Lib.hid (HP2.out.grow hg3)
  clear hg3 hL z0 z1 z2 z3 f0 f1 f2 f3 hBl HP2 HP0 H25
  obtain ⟨⟨z0, z1, z2, z3⟩, ⟨f0, f1, f2, f3⟩, hBl⟩ := cells4 HP3.out.hb
  go_wp2_with fail
  have HPW := Lib.hid (HP3.out.alloc (.cells #[.int .i64 (num : Int), .int .i64 0, .string s] 63))
  have HG6 := Lib.hid (heap_alloc_new w3 (.cells #[.int .i64 (num : Int), .int .i64 0, .string s] 63))
  obtain ⟨G, hG⟩ : ∃ G, w3.heap.size = G := ⟨_, rfl⟩
  have HGB : Hid (B + 2 ≤ G) := Lib.hid (by rw [← hG]; exact HP3.out.sz)
  have HGS : Hid (G + 1 ≤ (w3.alloc (.cells #[.int .i64 (num : Int), .int .i64 0, .string s] 63)).heap.size) := Lib.hid (by simp [hG])
  rw [hG] at HG6 ⊢
  generalize w3.alloc (.cells #[.int .i64 (num : Int), .int .i64 0, .string s] 63) = wW at *
  clear hG z0 z1 z2 z3 f0 f1 f2 f3 hBl
  have c26 := rfirst_at (HR.out.kept HPW.out.gr) HN.out.2 n c HN.out.1 (by omega) room packs moved (s.size : Int) (by omega) (by omega)
  rw [HP.out] at c26
  refine c26.mono ?_
  rintro e w4 ⟨rfl, hg4⟩
  have HP4 := Lib.hid ((HPW.out.rebase HGS.out).grow hg4)
  have HG4 := Lib.hid (kept2 HG6.out hg4)
  clear hg4 c26 HPW HG6 HP3 HGS
  obtain ⟨⟨z0, z1, z2, z3⟩, ⟨f0, f1, f2, f3⟩, hBl⟩ := cells4 HP4.out.hb
  obtain ⟨⟨g0, g1, g2⟩, ⟨e0, e1, e2⟩, hGl⟩ := cells63 HG4.out
  have hne1 : ¬ G = B + 1 := by have := HGB.out; omega
  have hne2 : ¬ B + 1 = G := by omega
  have hne3 : ¬ G = B := by have := HGB.out; omega
  have hne4 : ¬ B = G := by omega
  go_wp2_with fail
  have HPX := Lib.hid (HP4.out.setG (i := 1) (v := .int .i64 p) (Nat.le_of_eq HB.out) HGB.out (Nat.lt_succ_self G))
  have HGX : Hid ((w4.setCell ⟨G, 1, none⟩ (.int .i64 p)).heap[G]? = some (.cells #[.int .i64 (num : Int), .int .i64 p, .string s] 63 (0, 0))) := Lib.hid (head_set HG4.out 1 _)
  clear z0 z1 z2 z3 f0 f1 f2 f3 hBl g0 g1 g2 e0 e1 e2 hGl HP4 HG4
  generalize w4.setCell ⟨G, 1, none⟩ (.int .i64 p) = wX at *
  have HPS := Lib.hid (own_same HO.out fun k hk _ => HPX.out.gr.block k hk (by simp))
  refine (rwith_at (owns_slr HPS.out) (by omega) (num : Int) p s).mono ?_
  rintro e w5 ⟨D3, c3, N3, hN3, rfl, ho3, hg5⟩
  have HP5 := Lib.hid (HPX.out.next ho3 hg5)
  have HN3 := Lib.hid hN3
  have HG5 := Lib.hid (kept2 HGX.out hg5)
  clear hN3 ho3 hg5 HPS HPX HGX
  obtain ⟨⟨z0, z1, z2, z3⟩, ⟨f0, f1, f2, f3⟩, hBl⟩ := cells4 HP5.out.hb
  go_wp2_with fail
  have HP6' := Lib.hid (HP5.out.setRow (A' := D3) (n' := N3) (c2 := c3) (Nat.le_of_eq HB.out) (by have := HGB.out; omega))
  have hG6' : (w5.setCell ⟨B, 3, none⟩ (.slice D3 N3 c3)).cell? ⟨G, 0, none⟩ = some (.int .i64 (num : Int)) := cell_of_head ((heap_setCell_other _ _ _ _ (by have := HGB.out; simp only; omega)).trans HG5.out) 0
  clear z0 z1 z2 z3 f0 f1 f2 f3 hBl
  generalize w5.setCell ⟨B, 3, none⟩ (.slice D3 N3 c3) = w6 at *
  obtain ⟨⟨z0, z1, z2, z3⟩, ⟨f0, f1, f2, f3⟩, hBl⟩ := cells4 HP6'.out.hb
  obtain ⟨⟨r0, r1, r2, r3⟩, ⟨d0, d1, d2, d3⟩, hBl2⟩ := cells4 HP6'.out.hr
  have HP6 : Hid (PQ w B (G + 1) room packs moved D3 N3 c3 D3 N3 c3 _ w6.drew) := Lib.hid (HP6'.out.grow (grown_drewN w6 1 none))
  clear HP5 HP6' HG5
  go_region
  all_goals go_wp2
  all_goals (
    obtain ⟨hhd, hrow, hgr⟩ := HP6.out.fin4 (Nat.le_of_eq HB.out) (by have := HGB.out; omega) (.int .i64 room) (.int .i64 packs) (.int .i64 moved) (.slice D3 N3 c3)
    refine bodyPost_ret (results_ref41 rfl _ _ _ _ _ _ _ _ _ rfl hhd) rfl ?_
    exact ⟨num, D3, c3, N3, HL.out, HN3.out, rfl, owns_base hrow (by have := HB.out; have := HGB.out; omega), hgr⟩)
set_option maxHeartbeats 2000000 in
theorem rput_pack {w : World} {A : Option Addr} {l : List RB} {n c base : Nat} (ho : w.ownsRow base 63 3 (.slice A n c) n (rvals renc l)) (hsm : RSm l) (h1 : n ≤ 70000) (hul : rU l ≤ 2000000) (room packs moved : Int) (hr0 : 0 ≤ room) (hr1 : room ≤ 2000000) (s : ByteArray) (hs1 : s.size ≤ 100000) (hf : (rU l : Int) + (s.size : Int) ≤ room) (hz : 0 < s.size) (hpk0 : 0 ≤ packs) (hpk1 : packs ≤ 1000000000000) (hmv0 : 0 ≤ moved) (hmv1 : moved ≤ 1000000000000) (hp : rBest room l (s.size : Int) (rE l) = -1) {l2 : List RB} (hl2 : (nlR l 0).foldl rW [] = l2) (hsm2 : RSm l2) {mv : Nat} (hmv : mvR l 0 = mv) (p : Int) (hp2 : rBest room l2 (s.size : Int) (rE l2) = p) :
    Calls Try.prog 10 #[refV room packs moved A n c, .string s] w (RPut w room (packs + 1) (moved + (mv : Int)) l l2 s p n) := by
  have HP := Lib.hid hp
  have HPB := Lib.hid (And.intro hl2 (And.intro hsm2 (And.intro hmv hp2)))
  clear hp hl2 hsm2 hmv hp2
  have HO := Lib.hid ho
  have HN := Lib.hid (And.intro (owns_rrow ho).1 hsm)
  have HR := Lib.hid (owns_rrow ho).2
  obtain ⟨hgB, hzB, hb0, hb1⟩ := alloc44 w (.int .i64 room) (.int .i64 packs) (.int .i64 moved) (.slice A n c) (.int .i64 0) (.int .i64 0) (.int .i64 0) (.slice none 0 0) 30
  obtain ⟨B, hB⟩ : ∃ B, w.heap.size = B := ⟨_, rfl⟩
  rw [hB] at hb0 hb1
  unfold refV
  clear ho hsm
  go_enter Try.func10, Try.ntmps10
  go_wp2_with fail
  generalize (w.alloc (.cells #[.int .i64 room, .int .i64 packs, .int .i64 moved, .slice A n c] 30)).alloc (.cells #[.int .i64 0, .int .i64 0, .int .i64 0, .slice none 0 0] 30) = wB at *
  have hP0 : PQ w B (B + 2) room packs moved A n c none 0 0 [] wB := ⟨hb0, hb1, World.ownsRow_nil _ _ _ _, hgB, by rw [hzB, hB]; exact Nat.le_refl _⟩
  have HP0 := Lib.hid hP0
  have HB := Lib.hid hB
  clear hP0 hgB hzB hb0 hb1 hB
  have y0 : ∀ p : GrW wB, p.v.cell? ⟨B, 0, none⟩ = some (.int .i64 room) := fun p => cell_of_head (HP0.out.grow p.h).hb 0
  have y1 : ∀ p : GrW wB, p.v.cell? ⟨B, 1, none⟩ = some (.int .i64 packs) := fun p => cell_of_head (HP0.out.grow p.h).hb 1
  have y2 : ∀ p : GrW wB, p.v.cell? ⟨B, 2, none⟩ = some (.int .i64 moved) := fun p => cell_of_head (HP0.out.grow p.h).hb 2
  have y3 : ∀ p : GrW wB, p.v.cell? ⟨B, 3, none⟩ = some (.slice A n c) := fun p => cell_of_head (HP0.out.grow p.h).hb 3
  have HC : Hid (∀ p : GrW wB, Calls Try.prog 24 #[refV room packs moved A n c] p.v fun r w' => r = .returned (.int .i64 ((rU l : Nat) : Int)) ∧ ∃ p' : GrW wB, w' = p'.v) := Lib.hid (fun p => (rused_at (HR.out.kept (HP0.out.grow p.h).gr) n c HN.out.1 (by omega) (by omega) room packs moved).mono fun r w' ⟨hr, hg⟩ => ⟨hr, ⟨w', grown_trans p.h hg⟩, rfl⟩)
  unfold refV at HC
  obtain ⟨u, hu⟩ : ∃ u, rU l = u := ⟨_, rfl⟩
  rw [hu] at HC hul hf
  have HU := Lib.hid hu
  clear hu
  have hd1 : decide (room - (u : Int) < (s.size : Int)) = false := by simp; omega
  refine region_grown (by kernel_rfl) (by kernel_rfl) ?_
  repeat (go_big_quiet_step (first | (go_at_call 24; exact HC.out _)))
  refine wpQuiet_nil ?_
  rintro w2 ⟨⟨w3, hg3⟩, rfl⟩
  have HP2 := Lib.hid (HP0.out.grow hg3)
  clear hg3 y0 y1 y2 y3 HC hd1
  obtain ⟨⟨z0, z1, z2, z3⟩, ⟨f0, f1, f2, f3⟩, hBl⟩ := cells4 HP2.out.hb
  have c25 := rnumber_at (HR.out.kept HP2.out.gr) n c HN.out.1 (by omega) room packs moved
  unfold refV at c25
  have H25 := Lib.hid c25
  clear c25
  go_wp2_with fail
  refine H25.out.mono ?_
  rintro e w3 ⟨num, rfl, hL, hg3⟩
  have HL := Lib.hid hL
  have hnum : num ≤ 70000 := by
    have := sub_len num (l.map (·.1)) (fun j hj => by
      obtain ⟨x, hx, e⟩ := hL.low j hj
      exact List.mem_map.2 ⟨x, hx, e⟩)
    rw [List.length_map, HN.out.1] at this
    omega
  have HP3 := Lib.hid (HP2.out.grow hg3)
  clear hg3 hL z0 z1 z2 z3 f0 f1 f2 f3 hBl HP2 HP0 H25
  obtain ⟨⟨z0, z1, z2, z3⟩, ⟨f0, f1, f2, f3⟩, hBl⟩ := cells4 HP3.out.hb
  go_wp2_with fail
  have HPW := Lib.hid (HP3.out.alloc (.cells #[.int .i64 (num : Int), .int .i64 0, .string s] 63))
  have HG6 := Lib.hid (heap_alloc_new w3 (.cells #[.int .i64 (num : Int), .int .i64 0, .string s] 63))
  obtain ⟨G, hG⟩ : ∃ G, w3.heap.size = G := ⟨_, rfl⟩
  have HGB : Hid (B + 2 ≤ G) := Lib.hid (by rw [← hG]; exact HP3.out.sz)
  have HGS : Hid (G + 1 ≤ (w3.alloc (.cells #[.int .i64 (num : Int), .int .i64 0, .string s] 63)).heap.size) := Lib.hid (by simp [hG])
  rw [hG] at HG6 ⊢
  generalize w3.alloc (.cells #[.int .i64 (num : Int), .int .i64 0, .string s] 63) = wW at *
  clear hG z0 z1 z2 z3 f0 f1 f2 f3 hBl
  have c26 := rfirst_at (HR.out.kept HPW.out.gr) HN.out.2 n c HN.out.1 (by omega) room packs moved (s.size : Int) (by omega) (by omega)
  rw [HP.out] at c26
  refine c26.mono ?_
  rintro e w4 ⟨rfl, hg4⟩
  have HP4 := Lib.hid ((HPW.out.rebase HGS.out).grow hg4)
  have HG4 := Lib.hid (kept2 HG6.out hg4)
  clear hg4 c26 HPW HG6 HP3 HGS
  obtain ⟨⟨z0, z1, z2, z3⟩, ⟨f0, f1, f2, f3⟩, hBl⟩ := cells4 HP4.out.hb
  obtain ⟨⟨g0, g1, g2⟩, ⟨e0, e1, e2⟩, hGl⟩ := cells63 HG4.out
  have hne1 : ¬ G = B + 1 := by have := HGB.out; omega
  have hne2 : ¬ B + 1 = G := by omega
  have hne3 : ¬ G = B := by have := HGB.out; omega
  have hne4 : ¬ B = G := by omega
  go_wp2_with fail
  have HPX := Lib.hid (HP4.out.setG (i := 1) (v := .int .i64 (-1)) (Nat.le_of_eq HB.out) HGB.out (Nat.lt_succ_self G))
  have HGX : Hid ((w4.setCell ⟨G, 1, none⟩ (.int .i64 (-1))).heap[G]? = some (.cells #[.int .i64 (num : Int), .int .i64 (-1), .string s] 63 (0, 0))) := Lib.hid (head_set HG4.out 1 _)
  have HGW : Hid (G < (w4.setCell ⟨G, 1, none⟩ (.int .i64 (-1))).heap.size) := Lib.hid (Array.getElem?_eq_some_iff.1 HGX.out).1
  clear z0 z1 z2 z3 f0 f1 f2 f3 hBl g0 g1 g2 e0 e1 e2 hGl HP4 HG4
  generalize w4.setCell ⟨G, 1, none⟩ (.int .i64 (-1)) = wX at *
  have c27 := rpacked_at (own_same HO.out fun k hk _ => HPX.out.gr.block k hk (by simp)) HN.out.2 (by omega) (by rw [HU.out]; omega) room packs moved hpk0 hpk1 hmv0 hmv1
  rw [HPB.out.1, HPB.out.2.2.1] at c27
  unfold refV at c27
  refine c27.mono ?_
  rintro e w7 ⟨A2, c2, rfl, ho7, hg7⟩
  clear c27
  have HP7 := Lib.hid (HPX.out.next ho7 hg7)
  have HG7 := Lib.hid (kept2 HGX.out hg7)
  have HL2 := Lib.hid (owns_rrow ho7).1
  clear ho7 hg7 HPX HGX HGW
  obtain ⟨⟨z0, z1, z2, z3⟩, ⟨f0, f1, f2, f3⟩, hBl⟩ := cells4 HP7.out.hb
  go_wp2_with fail
  have HP8 := Lib.hid (HP7.out.setAll (room2 := room) (pk2 := packs + 1) (mv2 := moved + (mv : Int)) (A' := A2) (n' := n) (c2 := c2) (Nat.le_of_eq HB.out) (by have := HGB.out; omega))
  have HG8 : Hid (((((w7.setCell ⟨B, 0, none⟩ (.int .i64 room)).setCell ⟨B, 1, none⟩ (.int .i64 (packs + 1))).setCell ⟨B, 2, none⟩ (.int .i64 (moved + (mv : Int)))).setCell ⟨B, 3, none⟩ (.slice A2 n c2)).heap[G]? = some (.cells #[.int .i64 (num : Int), .int .i64 (-1), .string s] 63 (0, 0))) := Lib.hid (by
    rw [heap_setCell_other _ _ _ _ hne3, heap_setCell_other _ _ _ _ hne3, heap_setCell_other _ _ _ _ hne3, heap_setCell_other _ _ _ _ hne3]; exact HG7.out)
  clear z0 z1 z2 z3 f0 f1 f2 f3 hBl HP7 HG7
  generalize (((w7.setCell ⟨B, 0, none⟩ (.int .i64 room)).setCell ⟨B, 1, none⟩ (.int .i64 (packs + 1))).setCell ⟨B, 2, none⟩ (.int .i64 (moved + (mv : Int)))).setCell ⟨B, 3, none⟩ (.slice A2 n c2) = w8 at *
  have c26 := rfirst_at (owns_rrow HP8.out.row).2 HPB.out.2.1 n c2 HL2.out (by omega) room (packs + 1) (moved + (mv : Int)) (s.size : Int) (by omega) (by omega)
  rw [HPB.out.2.2.2] at c26
  unfold refV at c26
  refine c26.mono ?_
  rintro e w9 ⟨rfl, hg9⟩
  have HP9 := Lib.hid (HP8.out.grow hg9)
  have HG9 := Lib.hid (kept2 HG8.out hg9)
  clear hg9 c26 HP8 HG8
  obtain ⟨⟨z0, z1, z2, z3⟩, ⟨f0, f1, f2, f3⟩, hBl⟩ := cells4 HP9.out.hb
  obtain ⟨⟨g0, g1, g2⟩, ⟨e0, e1, e2⟩, hGl⟩ := cells63 HG9.out
  go_wp2_with fail
  have HPX := Lib.hid (HP9.out.setG (i := 1) (v := .int .i64 p) (Nat.le_of_eq HB.out) HGB.out (Nat.lt_succ_self G))
  have HGX : Hid ((w9.setCell ⟨G, 1, none⟩ (.int .i64 p)).heap[G]? = some (.cells #[.int .i64 (num : Int), .int .i64 p, .string s] 63 (0, 0))) := Lib.hid (head_set HG9.out 1 _)
  clear z0 z1 z2 z3 f0 f1 f2 f3 hBl g0 g1 g2 e0 e1 e2 hGl HP9 HG9
  generalize w9.setCell ⟨G, 1, none⟩ (.int .i64 p) = wX at *
  have HPS := Lib.hid (HPX.out.row)
  refine (rwith_at (owns_slr HPS.out) (by omega) (num : Int) p s).mono ?_
  rintro e w5 ⟨D3, c3, N3, hN3, rfl, ho3, hg5⟩
  have HP5 := Lib.hid (HPX.out.next ho3 hg5)
  have HN3 := Lib.hid hN3
  have HG5 := Lib.hid (kept2 HGX.out hg5)
  clear hN3 ho3 hg5 HPS HPX HGX
  obtain ⟨⟨z0, z1, z2, z3⟩, ⟨f0, f1, f2, f3⟩, hBl⟩ := cells4 HP5.out.hb
  go_wp2_with fail
  have HP6' := Lib.hid (HP5.out.setRow (A' := D3) (n' := N3) (c2 := c3) (Nat.le_of_eq HB.out) (by have := HGB.out; omega))
  have hG6' : (w5.setCell ⟨B, 3, none⟩ (.slice D3 N3 c3)).cell? ⟨G, 0, none⟩ = some (.int .i64 (num : Int)) := cell_of_head ((heap_setCell_other _ _ _ _ (by have := HGB.out; simp only; omega)).trans HG5.out) 0
  clear z0 z1 z2 z3 f0 f1 f2 f3 hBl
  generalize w5.setCell ⟨B, 3, none⟩ (.slice D3 N3 c3) = w6 at *
  obtain ⟨⟨z0, z1, z2, z3⟩, ⟨f0, f1, f2, f3⟩, hBl⟩ := cells4 HP6'.out.hb
  obtain ⟨⟨r0, r1, r2, r3⟩, ⟨d0, d1, d2, d3⟩, hBl2⟩ := cells4 HP6'.out.hr
  have HP6 : Hid (PQ w B (G + 1) room (packs + 1) (moved + (mv : Int)) D3 N3 c3 D3 N3 c3 _ w6.drew) := Lib.hid (HP6'.out.grow (grown_drewN w6 1 none))
  clear HP5 HP6' HG5
  go_region
  all_goals go_wp2
  all_goals (
    obtain ⟨hhd, hrow, hgr⟩ := HP6.out.fin4 (Nat.le_of_eq HB.out) (by have := HGB.out; omega) (.int .i64 room) (.int .i64 (packs + 1)) (.int .i64 (moved + (mv : Int))) (.slice D3 N3 c3)
    refine bodyPost_ret (results_ref41 rfl _ _ _ _ _ _ _ _ _ rfl hhd) rfl ?_
    exact ⟨num, D3, c3, N3, HL.out, HN3.out, rfl, owns_base hrow (by have := HB.out; have := HGB.out; omega), hgr⟩)
end Go.Proofs.Ythpcjgfbngemiaa
