/-
  The document's vault: Put.
-/
import Derived.Test.YthpcjgfbngemiaaRefH
import Derived.Test.YthpcjgfbngemiaaRefI
namespace Go.Proofs.Ythpcjgfbngemiaa
open Go.ChangeShapes Go.WideShapes Go.ChangeAt Go.RowKit
set_option linter.unusedVariables false
set_option maxRecDepth 100000
theorem results_ref41 {fn : Func} {p u : Tmp} (h : fn.results = #[.cell p 30, .tmp u]) (tmps : Array Value) (w : World) (g : Nat) (t : TypeId) (fr : Nat × Nat) (x y z v : Value)
    (hp : tmps.getD p undef = .pointer (some ⟨g, 0, none⟩)) (hg : w.heap[g]? = some (.cells #[x, y, z, v] t fr)) : (results fn tmps).run Try.prog w = .ok (.tuple #[.agg #[x, y, z, v], tmps.getD u undef]) w := by
  rw [results_cell_tmp h, hp]
  simp [asAddr, run_loadVar_row w g t 30 #[x, y, z, v] fr _ hg Try.underlying30 rfl (by kernel_rfl), Result.andThen]
set_option maxHeartbeats 1000000 in
theorem rput_full {w : World} {A : Option Addr} {l : List RB} {n c base : Nat} (ho : w.ownsRow base 63 3 (.slice A n c) n (rvals renc l)) (hsm : RSm l) (h1 : n ≤ 70000) (hul : rU l ≤ 2000000) (room packs moved : Int) (hr0 : 0 ≤ room) (hr1 : room ≤ 2000000) (s : ByteArray) (hs1 : s.size ≤ 100000) (hf : room < (rU l : Int) + (s.size : Int)) :
    Calls Try.prog 10 #[refV room packs moved A n c, .string s] w fun r w' => r = .returned (.tuple #[refV room packs moved A n c, .int .i64 (-1)]) ∧ w.grownBy w' none := by
  have HO := Lib.hid ho
  have HN := Lib.hid (And.intro (owns_rrow ho).1 hsm)
  have HR := Lib.hid (owns_rrow ho).2
  obtain ⟨hgB, hzB, hb0, hb1⟩ := alloc44 w (.int .i64 room) (.int .i64 packs) (.int .i64 moved) (.slice A n c) (.int .i64 0) (.int .i64 0) (.int .i64 0) (.slice none 0 0) 30
  obtain ⟨B, hB⟩ : ∃ B, w.heap.size = B := ⟨_, rfl⟩
  rw [hB] at hb0 hb1
  unfold refV
  clear ho hsm
  go_enter Try.func10, Try.ntmps10
  go_wp2_with fail
  generalize (w.alloc (.cells #[.int .i64 room, .int .i64 packs, .int .i64 moved, .slice A n c] 30)).alloc (.cells #[.int .i64 0, .int .i64 0, .int .i64 0, .slice none 0 0] 30) = wB at *
  have hP0 : PQ w B (B + 2) room packs moved A n c none 0 0 [] wB := ⟨hb0, hb1, World.ownsRow_nil _ _ _ _, hgB, by rw [hzB, hB]; exact Nat.le_refl _⟩
  have HP0 := Lib.hid hP0
  have HB := Lib.hid hB
  clear hP0 hgB hzB hb0 hb1 hB
  have y0 : ∀ p : GrW wB, p.v.cell? ⟨B, 0, none⟩ = some (.int .i64 room) := fun p => cell_of_head (HP0.out.grow p.h).hb 0
  have y1 : ∀ p : GrW wB, p.v.cell? ⟨B, 1, none⟩ = some (.int .i64 packs) := fun p => cell_of_head (HP0.out.grow p.h).hb 1
  have y2 : ∀ p : GrW wB, p.v.cell? ⟨B, 2, none⟩ = some (.int .i64 moved) := fun p => cell_of_head (HP0.out.grow p.h).hb 2
  have y3 : ∀ p : GrW wB, p.v.cell? ⟨B, 3, none⟩ = some (.slice A n c) := fun p => cell_of_head (HP0.out.grow p.h).hb 3
  have HC : Hid (∀ p : GrW wB, Calls Try.prog 24 #[refV room packs moved A n c] p.v fun r w' => r = .returned (.int .i64 ((rU l : Nat) : Int)) ∧ ∃ p' : GrW wB, w' = p'.v) := Lib.hid (fun p => (rused_at (HR.out.kept (HP0.out.grow p.h).gr) n c HN.out.1 (by omega) (by omega) room packs moved).mono fun r w' ⟨hr, hg⟩ => ⟨hr, ⟨w', grown_trans p.h hg⟩, rfl⟩)
  unfold refV at HC
  obtain ⟨u, hu⟩ : ∃ u, rU l = u := ⟨_, rfl⟩
  rw [hu] at HC hul hf
  have HU := Lib.hid hu
  clear hu
  have hcmp : room - (u : Int) < (s.size : Int) := by omega
  have hd1 : decide (room - (u : Int) < (s.size : Int)) = true := by simpa using hcmp
  refine region_grown (by kernel_rfl) (by kernel_rfl) ?_
  repeat (go_big_quiet_step (first | (go_at_call 24; exact HC.out _)))
  refine wpQuiet_nil ?_
  rintro w2 ⟨⟨w3, hg3⟩, rfl⟩
  have HP2 := Lib.hid (HP0.out.grow hg3)
  clear hg3 y0 y1 y2 y3 HC
  obtain ⟨⟨z0, z1, z2, z3⟩, ⟨f0, f1, f2, f3⟩, hBl⟩ := cells4 HP2.out.hb
  obtain ⟨⟨r0, r1, r2, r3⟩, ⟨d0, d1, d2, d3⟩, hBl2⟩ := cells4 HP2.out.hr
  go_wp2
  obtain ⟨hhd, hrow, hgr⟩ := HP2.out.fin4 (Nat.le_of_eq HB.out) (Nat.le_refl _) (.int .i64 room) (.int .i64 packs) (.int .i64 moved) (.slice A n c)
  refine bodyPost_ret (results_ref41 rfl _ _ _ _ _ _ _ _ _ rfl hhd) rfl ?_
  exact ⟨rfl, hgr⟩
theorem PQ.setAll {w W : World} {B base : Nat} {room pk mv room2 pk2 mv2 : Int} {A A' : Option Addr} {n c n' c2 : Nat} {D : Option Addr} {m c' : Nat} {acc : List RB} (h : PQ w B base room pk mv A n c D m c' acc W) (hB : w.heap.size ≤ B) (hbase : B + 2 ≤ base) :
    PQ w B base room2 pk2 mv2 A' n' c2 D m c' acc ((((W.setCell ⟨B, 0, none⟩ (.int .i64 room2)).setCell ⟨B, 1, none⟩ (.int .i64 pk2)).setCell ⟨B, 2, none⟩ (.int .i64 mv2)).setCell ⟨B, 3, none⟩ (.slice A' n' c2)) :=
  ⟨head_set (head_set (head_set (head_set h.hb 0 _) 1 _) 2 _) 3 _, by
      rw [heap_setCell_other _ _ _ _ (by simp), heap_setCell_other _ _ _ _ (by simp), heap_setCell_other _ _ _ _ (by simp), heap_setCell_other _ _ _ _ (by simp)]; exact h.hr,
    own_same h.row fun k hk hb => by
      rw [heap_setCell_other _ _ _ _ (by simp only; omega), heap_setCell_other _ _ _ _ (by simp only; omega), heap_setCell_other _ _ _ _ (by simp only; omega), heap_setCell_other _ _ _ _ (by simp only; omega)],
    grown_new (grown_new (grown_new (grown_new h.gr (grown_setCell _ _ _ _) (by omega)) (grown_setCell _ _ _ _) (by omega)) (grown_setCell _ _ _ _) (by omega)) (grown_setCell _ _ _ _) (by omega), by simpa using h.sz⟩
def RPut (w : World) (room pk mv : Int) (l l2 : List RB) (s : ByteArray) (at_ : Int) (n : Nat) (e : Ending) (w' : World) : Prop :=
  ∃ (num : Nat) (A' : Option Addr) (c' N : Nat), Least l num ∧ N = n + 1 ∧ e = .returned (.tuple #[refV room pk mv A' N c', .int .i64 (num : Int)]) ∧ w'.ownsRow w.heap.size 63 3 (.slice A' N c') N (rvals renc (rW l2 ((num : Int), at_, s))) ∧ w.grownBy w' none
theorem cells63 {w : World} {B : Nat} {x y z : Value} (h : w.heap[B]? = some (.cells #[x, y, z] 63 (0, 0))) : (w.cell? ⟨B, 0, none⟩ = some x ∧ w.cell? ⟨B, 1, none⟩ = some y ∧ w.cell? ⟨B, 2, none⟩ = some z) ∧ (w.frozen? ⟨B, 0, none⟩ = false ∧ w.frozen? ⟨B, 1, none⟩ = false ∧ w.frozen? ⟨B, 2, none⟩ = false) ∧ B < w.heap.size :=
  ⟨⟨cell_of_head h 0, cell_of_head h 1, cell_of_head h 2⟩, ⟨frozen_of_head h 0, frozen_of_head h 1, frozen_of_head h 2⟩, (Array.getElem?_eq_some_iff.1 h).1⟩
set_option maxHeartbeats 1000000 in
theorem rput_zero {w : World} {A : Option Addr} {l : List RB} {n c base : Nat} (ho : w.ownsRow base 63 3 (.slice A n c) n (rvals renc l)) (hsm : RSm l) (h1 : n ≤ 70000) (hul : rU l ≤ 2000000) (room packs moved : Int) (hr0 : 0 ≤ room) (hr1 : room ≤ 2000000) (s : ByteArray) (hs1 : s.size ≤ 100000) (hf : (rU l : Int) + (s.size : Int) ≤ room) (hz : ¬ 0 < s.size) :
    Calls Try.prog 10 #[refV room packs moved A n c, .string s] w (RPut w room packs moved l l s 0 n) := by
  have HO := Lib.hid ho
  have HN := Lib.hid (And.intro (owns_rrow ho).1 hsm)
  have HR := Lib.hid (owns_rrow ho).2
  obtain ⟨hgB, hzB, hb0, hb1⟩ := alloc44 w (.int .i64 room) (.int .i64 packs) (.int .i64 moved) (.slice A n c) (.int .i64 0) (.int .i64 0) (.int .i64 0) (.slice none 0 0) 30
  obtain ⟨B, hB⟩ : ∃ B, w.heap.size = B := ⟨_, rfl⟩
  rw [hB] at hb0 hb1
  unfold refV
  clear ho hsm
  go_enter Try.func10, Try.ntmps10
  go_wp2_with fail
  generalize (w.alloc (.cells #[.int .i64 room, .int .i64 packs, .int .i64 moved, .slice A n c] 30)).alloc (.cells #[.int .i64 0, .int .i64 0, .int .i64 0, .slice none 0 0] 30) = wB at *
  have hP0 : PQ w B (B + 2) room packs moved A n c none 0 0 [] wB := ⟨hb0, hb1, World.ownsRow_nil _ _ _ _, hgB, by rw [hzB, hB]; exact Nat.le_refl _⟩
  have HP0 := Lib.hid hP0
  have HB := Lib.hid hB
  clear hP0 hgB hzB hb0 hb1 hB
  have y0 : ∀ p : GrW wB, p.v.cell? ⟨B, 0, none⟩ = some (.int .i64 room) := fun p => cell_of_head (HP0.out.grow p.h).hb 0
  have y1 : ∀ p : GrW wB, p.v.cell? ⟨B, 1, none⟩ = some (.int .i64 packs) := fun p => cell_of_head (HP0.out.grow p.h).hb 1
  have y2 : ∀ p : GrW wB, p.v.cell? ⟨B, 2, none⟩ = some (.int .i64 moved) := fun p => cell_of_head (HP0.out.grow p.h).hb 2
  have y3 : ∀ p : GrW wB, p.v.cell? ⟨B, 3, none⟩ = some (.slice A n c) := fun p => cell_of_head (HP0.out.grow p.h).hb 3
  have HC : Hid (∀ p : GrW wB, Calls Try.prog 24 #[refV room packs moved A n c] p.v fun r w' => r = .returned (.int .i64 ((rU l : Nat) : Int)) ∧ ∃ p' : GrW wB, w' = p'.v) := Lib.hid (fun p => (rused_at (HR.out.kept (HP0.out.grow p.h).gr) n c HN.out.1 (by omega) (by omega) room packs moved).mono fun r w' ⟨hr, hg⟩ => ⟨hr, ⟨w', grown_trans p.h hg⟩, rfl⟩)
  unfold refV at HC
  obtain ⟨u, hu⟩ : ∃ u, rU l = u := ⟨_, rfl⟩
  rw [hu] at HC hul hf
  have HU := Lib.hid hu
  clear hu
  have hd1 : decide (room - (u : Int) < (s.size : Int)) = false := by simp; omega
  refine region_grown (by kernel_rfl) (by kernel_rfl) ?_
  repeat (go_big_quiet_step (first | (go_at_call 24; exact HC.out _)))
  refine wpQuiet_nil ?_
  rintro w2 ⟨⟨w3, hg3⟩, rfl⟩
  have HP2 := Lib.hid (HP0.out.grow hg3)
  clear hg3 y0 y1 y2 y3 HC hd1
  obtain ⟨⟨z0, z1, z2, z3⟩, ⟨f0, f1, f2, f3⟩, hBl⟩ := cells4 HP2.out.hb
  have c25 := rnumber_at (HR.out.kept HP2.out.gr) n c HN.out.1 (by omega) room packs moved
  unfold refV at c25
  have H25 := Lib.hid c25
  clear c25
  go_wp2_with fail
  refine H25.out.mono ?_
  rintro e w3 ⟨num, rfl, hL, hg3⟩
  have HL := Lib.hid hL
  have hnum : num ≤ 70000 := by
    have := sub_len num (l.map (·.1)) (fun j hj => by
      obtain ⟨x, hx, e⟩ := hL.low j hj
      exact List.mem_map.2 ⟨x, hx, e⟩)
    rw [List.length_map, HN.out.1] at this
    omega
  have HP3 := Lib.hid (HP2.out.grow hg3)
  clear hg3 hL z0 z1 z2 z3 f0 f1 f2 f3 hBl HP2 HP0 H25
  obtain ⟨⟨z0, z1, z2, z3⟩, ⟨f0, f1, f2, f3⟩, hBl⟩ := cells4 HP3.out.hb
  go_wp2_with fail
  have HPW := Lib.hid (HP3.out.alloc (.cells #[.int .i64 (num : Int), .int .i64 0, .string s] 63))
  have HG6 := Lib.hid (heap_alloc_new w3 (.cells #[.int .i64 (num : Int), .int .i64 0, .string s] 63))
  obtain ⟨G, hG⟩ : ∃ G, w3.heap.size = G := ⟨_, rfl⟩
  have HGB : Hid (B + 2 ≤ G) := Lib.hid (by rw [← hG]; exact HP3.out.sz)
  rw [hG] at HG6 ⊢
  generalize w3.alloc (.cells #[.int .i64 (num : Int), .int .i64 0, .string s] 63) = wW at *
  clear hG z0 z1 z2 z3 f0 f1 f2 f3 hBl
  have HPS := Lib.hid (own_same HO.out fun k hk _ => HPW.out.gr.block k hk (by simp))
  refine (rwith_at (owns_slr HPS.out) (by omega) (num : Int) 0 s).mono ?_
  rintro e w5 ⟨D3, c3, N3, hN3, rfl, ho3, hg5⟩
  have HP5 := Lib.hid (HPW.out.next ho3 hg5)
  have HN3 := Lib.hid hN3
  have HG5 := Lib.hid (kept2 HG6.out hg5)
  clear hN3 ho3 hg5
  obtain ⟨⟨z0, z1, z2, z3⟩, ⟨f0, f1, f2, f3⟩, hBl⟩ := cells4 HP5.out.hb
  go_wp2_with fail
  have HP6' := Lib.hid (HP5.out.setRow (A' := D3) (n' := N3) (c2 := c3) (Nat.le_of_eq HB.out) (Nat.le_refl _))
  have hG6' : (w5.setCell ⟨B, 3, none⟩ (.slice D3 N3 c3)).cell? ⟨G, 0, none⟩ = some (.int .i64 (num : Int)) := cell_of_head ((heap_setCell_other _ _ _ _ (by have := HGB.out; simp only; omega)).trans HG5.out) 0
  have hne1 : ¬ G = B + 1 := by have := HGB.out; omega
  have hne2 : ¬ B + 1 = G := by omega
  clear z0 z1 z2 z3 f0 f1 f2 f3 hBl
  generalize w5.setCell ⟨B, 3, none⟩ (.slice D3 N3 c3) = w6 at *
  obtain ⟨⟨z0, z1, z2, z3⟩, ⟨f0, f1, f2, f3⟩, hBl⟩ := cells4 HP6'.out.hb
  obtain ⟨⟨r0, r1, r2, r3⟩, ⟨d0, d1, d2, d3⟩, hBl2⟩ := cells4 HP6'.out.hr
  have HP6 : Hid (PQ w B (B + 2) room packs moved D3 N3 c3 D3 N3 c3 _ w6.drew) := Lib.hid (HP6'.out.grow (grown_drewN w6 1 none))
  clear HP5 HP6' HG5 HPW HG6
  go_region
  all_goals go_wp2
  all_goals (
    obtain ⟨hhd, hrow, hgr⟩ := HP6.out.fin4 (Nat.le_of_eq HB.out) (Nat.le_refl _) (.int .i64 room) (.int .i64 packs) (.int .i64 moved) (.slice D3 N3 c3)
    refine bodyPost_ret (results_ref41 rfl _ _ _ _ _ _ _ _ _ rfl hhd) rfl ?_
    exact ⟨num, D3, c3, N3, HL.out, HN3.out, rfl, owns_base hrow (by have := HB.out; omega), hgr⟩)
end Go.Proofs.Ythpcjgfbngemiaa
