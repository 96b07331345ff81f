/-
  The document's slab: Free.
-/
import Derived.Test.YtoopfoapkbjdkaaRefC
import Derived.Deep.RegionLaw
namespace Go.Proofs.Ytoopfoapkbjdkaa
open Go.ChangeShapes Go.WideShapes Go.ChangeAt Go.RowKit
set_option linter.unusedVariables false
set_option maxRecDepth 100000

section
variable {w w' : World} {lo : Nat} {S : SI} {vL vF : Value}
theorem ivals_append (l m : List Nat) : ivals (l ++ m) = ivals l ++ ivals m := by simp [ivals]
/-- a row behind none, and one element behind that -/
theorem run_push {w : World} {t e : TypeId} {i0 : TypeInfo} {z : Value} {size bytes lo n : Nat} {v : Value} {xs ys : List Value} {cs : Array Value} (ht : Try.prog.underlying t = some (.slice e)) (hi : Try.prog.info? e = some i0) (hz0 : i0.zero = some z) (hz1 : i0.size = size) (hz2 : i0.bytes = bytes) (hzs : z.cells.size = size) (hsz : 0 < size)
    (h : w.ownsRow lo e size v n xs) (h1 : ∀ u ∈ xs, u.oneCell' = true) (hy : ys.length = size) (hy1 : ∀ u ∈ ys, u.oneCell' = true) (hnew : ∀ (w1 : World) (j : Nat) (u : Value), ys[j]? = some u → (w1.alloc (.cells cs e)).cell? ((⟨w1.heap.size, 0, none⟩ : Addr).add j) = some u) (hn : n + 1 ≤ maxLen) (hb : (n + 1) * bytes ≤ 140737488355328) :
    ∃ g cap w1 g' cap' w2, (Builtin.append_ #[t, t] t #[.slice (some ⟨w.heap.size, 0, none⟩) 0 0, v]).run Try.prog (w.alloc (.cells #[] e)) = .ok (.slice (some ⟨g, 0, none⟩) n cap) w1 ∧
      (Builtin.append_ #[t, t] t #[.slice (some ⟨g, 0, none⟩) n cap, .slice (some ⟨w1.heap.size, 0, none⟩) 1 1]).run Try.prog (w1.alloc (.cells cs e)) = .ok (.slice (some ⟨g', 0, none⟩) (n + 1) cap') w2 ∧
      w2.ownsRow 0 e size (.slice (some ⟨g', 0, none⟩) (n + 1) cap') (n + 1) (xs ++ ys) ∧ w.grownBy w1 none ∧ w.grownBy w2 none := by
  obtain ⟨g, cap, w1, hrun, ho, hg⟩ := run_clone ht hi hz0 hz1 hz2 hzs hsz h h1 (by omega) (Nat.le_trans (Nat.mul_le_mul_right _ (by omega)) hb)
  obtain ⟨g', cap', w2, hrun2, ho2, hg2, _⟩ := run_append_foot (P := Try.prog) (w1.alloc (.cells cs e)) w.heap.size t t e i0 z size bytes ht hi hz0 hz1 hz2 hzs hsz (.slice (some ⟨g, 0, none⟩) n cap) n xs (ho.alloc _) ⟨w1.heap.size, 0, none⟩ 1 ys hy (hnew w1) hy1 hn hb (by have := hg.size; simp; omega)
  refine ⟨g, cap, w1, g', cap', w2, hrun, hrun2, ownsRow_base0 ho2, hg, grown_row (grown_trans hg (World.grownBy_alloc _ _ none)) hg2 fun r hr => ?_⟩
  exact (ho.lt r hr).1
set_option maxHeartbeats 2000000 in
theorem rfree_at (h : RefAt w 0 S vL vF) (h6 : S.L.length ≤ 65536) (hf6 : S.fr.length ≤ 65536) {p : Nat} {s : Spot Int} (hs : S.L[p]? = some s) :
    Calls Try.prog 31 #[refVal S vL vF, .int .i64 (p : Int)] w fun e w' => ∃ vL' vF', e = .returned (refVal (S.free 0 p) vL' vF') ∧ RefAt w' 0 (S.free 0 p) vL' vF' ∧ w.grownBy w' none := by
  have hset : S.free 0 p = ({ S with L := S.L.set p ⟨s.turn, false, 0⟩, fr := S.fr ++ [p] } : SI) := by unfold Slb.free; rw [hs]
  rw [hset]
  obtain ⟨AF, capF, rfl⟩ := owns_slice h.rowF
  obtain ⟨hg0, hz0, b0, b1⟩ := alloc2 w (.cells #[.int .i64 (S.most : Int), .int .i64 (S.c : Int), vL, .slice AF S.fr.length capF] 32) (.cells #[.int .i64 0, .int .i64 0, .slice none 0 0, .slice none 0 0] 32)
  have hp := (List.getElem?_eq_some_iff.1 hs).1
  obtain ⟨g, cap, hv, hg, d0, d1, d2⟩ := h.cell hs
  subst hv
  have hg0d := grown_trans hg0 (grown_drewN _ 1 none)
  have hW := with_at (h.kept hg0d) h6 hp ⟨s.turn, false, 0⟩
  have HW := Lib.hid hW
  have HF := Lib.hid h
  have HB0 := Lib.hid b0
  have HB1 := Lib.hid b1
  have HG0 := Lib.hid hg0
  have e0 := hg0.cell d0 (by simp)
  obtain ⟨c00, c01, c02, c03, l0⟩ := cells4 b0
  have f02 := (free4 b0).2.2.1
  unfold refVal
  obtain ⟨len, Hlen⟩ : ∃ len, Hid (S.L.length = len) := ⟨_, Lib.hid rfl⟩
  obtain ⟨lF, HlF⟩ : ∃ lF, Hid (S.fr.length = lF) := ⟨_, Lib.hid rfl⟩
  have hpI : (p : Int) < (S.L.length : Int) := by omega
  rw [Hlen.out, HlF.out] at HW HB0 HB1 HG0 c00 c01 c02 c03 e0 l0 f02
  rw [Hlen.out] at hpI hp h6
  rw [HlF.out] at hf6
  simp only [Hlen.out, HlF.out]
  clear hg0d h hg0 b0 b1 hs hW d0 d1 d2 hset hz0
  go_enter Try.func31, Try.ntmps31
  go_wp2_with fail
  generalize ((w.alloc (.cells #[.int .i64 (S.most : Int), .int .i64 (S.c : Int), .slice (some ⟨g, 0, none⟩) len cap, .slice AF lF capF] 32)).alloc (.cells #[.int .i64 0, .int .i64 0, .slice none 0 0, .slice none 0 0] 32)) = w0 at *
  go_cut [] from 6 to 17 (fun wx => ∃ (A' : Option Addr) (cap' : Nat) (w5 : World), Hid (w5.ownsRow 0 80 3 (.slice A' len cap') len ((S.L.set p ⟨s.turn, false, 0⟩).flatMap pcells)) ∧ Hid (w0.grownBy w5 none) ∧ wx = w5.setCell ⟨w.heap.size, 2, none⟩ (.slice A' len cap'))
  · go_region_law ((go_simp; go_at_call 47; refine HW.out.mono ?_; rintro e w5 ⟨A', cap', rfl, hrow, hg5⟩; have HRw := Lib.hid hrow; have HG5 := Lib.hid (grown_trans (grown_drewN w0 1 none) hg5); obtain ⟨g02, l02⟩ := (⟨(cells4 (kept2 HB0.out HG5.out)).2.2.1, (cells4 (kept2 HB0.out HG5.out)).2.2.2.2⟩ : _ ∧ _); have k02 := (free4 (kept2 HB0.out HG5.out)).2.2.1; clear hrow hg5))
    all_goals (go_wp2; go_meet; exact ⟨_, _, _, HRw, HG5, rfl⟩)
  · obtain ⟨A', cap', w5, HRw, HG5, rfl⟩ := hcut
    clear e0 c00 c01 c02 c03 l0 f02 HW
    obtain ⟨i0, hi, hz0, hz1, hz2⟩ := info_parts info3
    have hB05 := kept2 HB0.out HG5.out
    have hB15 := kept2 HB1.out HG5.out
    have hB06 : (w5.setCell ⟨w.heap.size, 2, none⟩ (.slice A' len cap')).heap[w.heap.size]? = some (.cells #[.int .i64 (S.most : Int), .int .i64 (S.c : Int), .slice A' len cap', .slice AF lF capF] 32 (0, 0)) := head_set hB05 2 _
    have hB16 : (w5.setCell ⟨w.heap.size, 2, none⟩ (.slice A' len cap')).heap[w.heap.size + 1]? = some (.cells #[.int .i64 0, .int .i64 0, .slice none 0 0, .slice none 0 0] 32 (0, 0)) := (heap_setCell_other _ _ _ _ (by simp only; omega)).trans hB15
    have hG6 : w.grownBy (w5.setCell ⟨w.heap.size, 2, none⟩ (.slice A' len cap')) none := grown_new (grown_trans HG0.out HG5.out) (grown_setCell _ _ _ _) (Nat.le_refl _)
    have hR6 : RefAt (w5.setCell ⟨w.heap.size, 2, none⟩ (.slice A' len cap')) 0 ({ S with L := S.L.set p ⟨s.turn, false, 0⟩ } : SI) (.slice A' len cap') (.slice AF lF capF) := RefAt.setB ⟨by simp only [List.length_set, Hlen.out]; exact HRw.out, by have := (HF.out.kept (grown_trans HG0.out HG5.out)).rowF; simp only [HlF.out] at this ⊢; exact this⟩ hB05
    generalize w5.setCell ⟨w.heap.size, 2, none⟩ (.slice A' len cap') = w6 at *
    obtain ⟨g7, cap7, w7, g8, cap8, w8, hrun7, hrun8, ho8, hg7, hg8⟩ := run_push (w := w6) (cs := #[.int .i64 (p : Int)]) (ys := [.int .i64 (p : Int)]) Try.underlying30 hi hz0 hz1 hz2 rfl (by decide) hR6.rowF ivals_one rfl (by simp [Value.oneCell']) (fun w1 => cell_new1 w1 3 _) (by unfold maxLen; simp only [HlF.out]; omega) (by simp only [HlF.out]; omega)
    have hB07 := kept2 hB06 hg7
    have hB08 := kept2 hB06 hg8
    have hB18 := kept2 hB16 hg8
    have HG8 := Lib.hid (grown_trans hG6 hg8)
    have HR8 : Hid (RefAt w8 0 ({ S with L := S.L.set p ⟨s.turn, false, 0⟩, fr := S.fr ++ [p] } : SI) (.slice A' len cap') (.slice (some ⟨g8, 0, none⟩) (lF + 1) cap8)) := Lib.hid ⟨(hR6.kept hg8).rowL, by
      have := ho8
      simp only [HlF.out] at this
      simp only [List.length_append, List.length_cons, List.length_nil, HlF.out, ivals_append]
      exact this⟩
    simp only [HlF.out] at hrun7 hrun8
    have HRun7 := Lib.hid hrun7
    have HRun8 := Lib.hid hrun8
    have HB08 := Lib.hid hB08
    have HB18 := Lib.hid hB18
    obtain ⟨c00, c01, c02, c03, l0⟩ := cells4 hB06
    obtain ⟨q00, q01, q02, q03, q0⟩ := cells4 hB08
    obtain ⟨c10, c11, c12, c13, l1⟩ := cells4 hB18
    have f03 := (free4 hB08).2.2.2
    obtain ⟨f10, f11, f12, f13⟩ := free4 hB18
    clear hrun7 hrun8 ho8 hg7 hg8 hB05 hB15 hB06 hB16 hG6 hR6 hB07 hB08 hB18 hi hz0 hz1 hz2
    go_wp2_with (first | (at_builtin; refine append_run rfl (.tmp 18) (.tmp 20) 30 rfl rfl rfl HRun7.out ?_) | (at_builtin; refine append_run rfl (.tmp 22) (.tmp 24) 30 rfl rfl rfl HRun8.out ?_))
    have hB19 : (w8.setCell ⟨w.heap.size, 3, none⟩ (.slice (some ⟨g8, 0, none⟩) (lF + 1) cap8)).heap[w.heap.size + 1]? = some (.cells #[.int .i64 0, .int .i64 0, .slice none 0 0, .slice none 0 0] 32 (0, 0)) := (heap_setCell_other _ _ _ _ (by simp only; omega)).trans HB18.out
    have hf := fin_ref (x := .int .i64 (S.most : Int)) (y := .int .i64 (S.c : Int)) (z := .slice A' len cap') (u := .slice (some ⟨g8, 0, none⟩) (lF + 1) cap8) (w0 := w) (grown_new HG8.out (grown_setCell w8 w.heap.size 3 (.slice (some ⟨g8, 0, none⟩) (lF + 1) cap8)) (Nat.le_refl _)) (by omega) hB19 (HR8.out.setB HB08.out)
    refine bodyPost_ret (results_ref4 rfl _ _ _ _ _ _ _ _ _ rfl hf.1) rfl ?_
    exact ⟨_, _, rfl, hf.2.1, hf.2.2⟩
end
end Go.Proofs.Ytoopfoapkbjdkaa
