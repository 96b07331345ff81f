/-
  The document's table: Put.
-/
import Derived.Test.YtnhjnciadmgkeaaDoorRefE
import Derived.Deep.Upon
namespace Go.Proofs.YtnhjnciadmgkeaaDoor
open Go.ChangeShapes Go.WideShapes Go.ChangeAt Go.RowKit
set_option linter.unusedVariables false
theorem pvals_append (a b : List (Int × Int)) : pvals (a ++ b) = pvals a ++ pvals b := by
  induction a with
  | nil => rfl
  | cons x t ih => obtain ⟨k, v⟩ := x; simp only [List.cons_append, pvals, ih]
theorem pvals_one : ∀ (ps : List (Int × Int)), ∀ u ∈ pvals ps, u.oneCell' = true
  | [], _, h => by simp [pvals] at h
  | (k, v) :: t, u, h => by
    simp only [pvals, List.mem_cons] at h
    rcases h with rfl | rfl | h
    · rfl
    · rfl
    · exact pvals_one t u h
theorem pvals_drop : ∀ (ps : List (Int × Int)) (k : Nat), pvals (ps.drop k) = (pvals ps).drop (k * 2)
  | ps, 0 => by simp
  | [], k + 1 => by simp [pvals]
  | (a, b) :: t, k + 1 => by
    rw [show (k + 1) * 2 = k * 2 + 1 + 1 by omega]
    simp only [List.drop_succ_cons, pvals]
    exact pvals_drop t k
/-- many pairs more at a row's end: none, or those of another row from a place on -/
theorem app58s {w : World} {base base2 k cap n c i : Nat} {A B : Option Addr} {ps qs : List (Int × Int)} (ho : w.ownsRow base 58 2 (.slice A k cap) k (pvals ps)) (hq : PRow w base2 B n c qs) (hi : i < n) (hk : k ≤ 1000000) (hn : n ≤ 1000000) (hb : base ≤ w.heap.size) :
    ∃ g, B = some ⟨g, 0, none⟩ ∧ ∀ cc, ∃ A' cap' w1, (Builtin.append_ #[27, 27] 27 #[.slice A k cap, .slice (some ⟨g, i * 2, none⟩) (n - i) cc]).run Tryd.prog w = .ok (.slice A' (k + (n - i)) cap') w1 ∧
      w1.ownsRow base 58 2 (.slice A' (k + (n - i)) cap') (k + (n - i)) (pvals (ps ++ qs.drop i)) ∧ (∀ w0 : World, w0.heap.size ≤ base → w0.grownBy w none → w0.grownBy w1 none) := by
  obtain ⟨g, cap2, e⟩ := owns_some hq.1 (by omega)
  injection e with e1 e2 e3
  subst e1
  obtain ⟨i0, hi0, hz0, hz1, hz2⟩ := info_parts info58
  refine ⟨g, rfl, fun cc => ?_⟩
  obtain ⟨v', w1, hrun, ho1, hgr, hft⟩ := run_append_own (P := Tryd.prog) w base 27 27 58 i0 (.agg #[.int .u64 0, .int .i32 0]) 2 16 Tryd.underlying27 hi0 hz0 hz1 hz2 rfl (by decide) (.slice A k cap) k (pvals ps) ho ⟨g, i * 2, none⟩ (n - i) cc (pvals (qs.drop i))
    (by rw [pvals_len, List.length_drop, hq.2]) (fun j u hu => by
      rw [pvals_drop, List.getElem?_drop] at hu
      have := hq.1.cells (g := g) rfl _ _ hu
      rw [← this]
      congr 1
      by_cases h1 : j = 0
      · subst h1
        by_cases h2 : i = 0
        · subst h2; rfl
        · have h3 : ¬ i * 2 = 0 := by omega
          simp [Addr.add, h3]
      · simp [Addr.add, h1]) (pvals_one _) (by unfold maxLen; omega) (by omega) hb
  obtain ⟨g', cap', rfl⟩ := owns_some ho1 (by omega)
  exact ⟨_, cap', w1, hrun, by rw [pvals_append]; exact ho1, fun w0 h0 h1 => grown_row h1 hgr fun r hr => by have := (ho.lt r hr).1; omega⟩
theorem app58n (w : World) (A A' : Option Addr) (k cap cc : Nat) (h : k ≤ cap) : (Builtin.append_ #[27, 27] 27 #[.slice A k cap, .slice A' 0 cc]).run Tryd.prog w = .ok (.slice A k cap) w := by
  obtain ⟨i0, hi0, hz0, hz1, hz2⟩ := info_parts info58
  cases A <;> cases A' <;> simp [Builtin.append_, run_underlying Tryd.underlying27, sizeOf, typeInfo, hi0, Builtin.lenOf, Builtin.firstCells, h, storeCells, loadCells, loadCellsFrom]
def pput (key node : Int) (ps : List (Int × Int)) : List (Int × Int) := (pdrop key ps).takeWhile (fun p => decide (p.1 < key)) ++ (key, node) :: (pdrop key ps).dropWhile (fun p => decide (p.1 < key))
theorem ppart_at {key : Int} : ∀ (d : List (Int × Int)) (i : Nat), (∀ e ∈ d.take i, e.1 < key) → (∀ p, d[i]? = some p → ¬ p.1 < key) → d.takeWhile (fun p => decide (p.1 < key)) = d.take i ∧ d.dropWhile (fun p => decide (p.1 < key)) = d.drop i
  | [], i, _, _ => by simp
  | p :: t, 0, _, h => by
    have := h p rfl
    simp [this]
  | p :: t, i + 1, h1, h2 => by
    have h3 : p.1 < key := h1 p (by simp)
    obtain ⟨a, b⟩ := ppart_at t i (fun e he => h1 e (by simp [he])) (fun q hq => h2 q (by simpa using hq))
    simp [h3, a, b]
section
variable {w w' : World} {base n c : Nat} {A : Option Addr} {ps : List (Int × Int)}
/-- the slots behind a Put -/
def pslots (s : Int) (m : Nat) : Int := if 2 * (m : Int) > s then 2 * s else s
set_option maxHeartbeats 1000000 in
theorem rput_at (h : PRow w base A n c ps) (s key node : Int) (hn : n ≤ 1000) (hs : 0 ≤ s ∧ s ≤ 1099511627776) :
    Calls Tryd.prog 20 #[.agg #[.slice A n c, .int .i64 s], .int .u64 key, .int .i32 node] w fun r w' => ∃ A' n' c' m, r = .returned (.tuple #[.agg #[.slice A' n' c', .int .i64 (pslots s n')], .bool (!decide (m < n))]) ∧ PRow w' w.heap.size A' n' c' (pput key node ps) ∧ m = (pdrop key ps).length ∧ w.grownBy w' none := by
  have HR : Hid (PRow w base A n c ps) := Lib.hid h
  clear h
  go_enter Tryd.func20, Tryd.ntmps20
  go_wp2_with fail
  obtain ⟨hgB, hzB, b0, b1⟩ := alloc22 w (.slice A n c) (.int .i64 s) (.slice none 0 0) (.int .i64 0) 29
  have HGB := Lib.hid hgB
  have HZB := Lib.hid hzB
  have HB0 := Lib.hid b0
  have HB1 := Lib.hid b1
  clear hgB hzB b0 b1
  generalize (w.alloc (.cells #[.slice A n c, .int .i64 s] 29)).alloc (.cells #[.slice none 0 0, .int .i64 0] 29) = wB at *
  have c1 : Calls Tryd.prog 19 #[.agg #[.slice A n c, .int .i64 s], .int .u64 key] wB _ := rdrop_at (HR.out.kept HGB.out) s key (by omega)
  have HC1 := Lib.hid c1
  clear c1
  obtain ⟨b0, b1, f0, f1, l0⟩ := cells2 HB0.out
  go_wp2_with fail
  refine HC1.out.mono ?_
  rintro e w1 ⟨A1, n1, c1, rfl, hP1, hg1⟩
  clear b0 b1 f0 f1 l0
  obtain ⟨b0, b1, f0, f1, l0⟩ := cells2 (kept2 HB0.out hg1)
  have HB1a := Lib.hid (kept2 HB1.out hg1)
  have HB0a := Lib.hid (kept2 HB0.out hg1)
  have HG1 := Lib.hid (grown_trans HGB.out hg1)
  have HP1 := Lib.hid hP1
  have hn1 : n1 ≤ n := by rw [hP1.2]; exact Nat.le_trans (pdrop_len _ _) (Nat.le_of_eq HR.out.2.symm)
  have HZ1 := Lib.hid hg1.size
  clear hg1 hP1
  go_wp2_with fail
  clear b0 b1 f0 f1 l0
  have hz := HZB.out
  have hb0 : ((w1.setCell ⟨w.heap.size, 0, none⟩ (.slice A1 n1 c1)).setCell ⟨w.heap.size, 1, none⟩ (.int .i64 s)).heap[w.heap.size]? = some (.cells #[.slice A1 n1 c1, .int .i64 s] 29 (0, 0)) := head_set (head_set HB0a.out 0 _) 1 _
  have hb1 : ((w1.setCell ⟨w.heap.size, 0, none⟩ (.slice A1 n1 c1)).setCell ⟨w.heap.size, 1, none⟩ (.int .i64 s)).heap[w.heap.size + 1]? = some (.cells #[.slice none 0 0, .int .i64 0] 29 (0, 0)) := (heap_setCell_other _ _ _ _ (by simp)).trans ((heap_setCell_other _ _ _ _ (by simp)).trans HB1a.out)
  have hg2 : w.grownBy ((w1.setCell ⟨w.heap.size, 0, none⟩ (.slice A1 n1 c1)).setCell ⟨w.heap.size, 1, none⟩ (.int .i64 s)) none := grown_new (grown_new HG1.out (grown_setCell _ _ _ _) (Nat.le_refl _)) (grown_setCell _ _ _ _) (Nat.le_refl _)
  have hz2 : wB.heap.size ≤ ((w1.setCell ⟨w.heap.size, 0, none⟩ (.slice A1 n1 c1)).setCell ⟨w.heap.size, 1, none⟩ (.int .i64 s)).heap.size := by simpa using HZ1.out
  have hp2 : PRow ((w1.setCell ⟨w.heap.size, 0, none⟩ (.slice A1 n1 c1)).setCell ⟨w.heap.size, 1, none⟩ (.int .i64 s)) wB.heap.size A1 n1 c1 (pdrop key ps) := ⟨owns_stay HP1.out.1 fun r hr => by
    have := (HP1.out.1.lt r hr).1
    rw [heap_setCell_other _ _ _ _ (by simp only; omega), heap_setCell_other _ _ _ _ (by simp only; omega)], HP1.out.2⟩
  generalize (w1.setCell ⟨w.heap.size, 0, none⟩ (.slice A1 n1 c1)).setCell ⟨w.heap.size, 1, none⟩ (.int .i64 s) = w2 at *
  have HB0b := Lib.hid hb0
  have HB1b := Lib.hid hb1
  have HG2 := Lib.hid hg2
  have HZ2 := Lib.hid hz2
  have HP2 := Lib.hid hp2
  clear hb0 hb1 hg2 hz2 hp2 HB0a HB1a HB0 HB1 HG1 HZ1 HGB hz HC1 HP1
  go_loopg [9, 10] n1 (fun m u v wr => ∃ (i : Nat) (A2 : Option Addr) (c2 : Nat), u = .slice A2 i c2 ∧ v = .int .i64 (i : Int) ∧ m + i = n1 ∧ Hid (wr.ownsRow w2.heap.size 58 2 (.slice A2 i c2) i (pvals ((pdrop key ps).take i)) ∧ w2.grownBy wr none ∧ ∀ e ∈ (pdrop key ps).take i, e.1 < key))
  case atStart => exact ⟨0, none, 0, rfl, by go_num, by omega, Lib.hid ⟨World.ownsRow_nil _ _ _ _, ⟨rfl, rfl, rfl, Nat.le_refl _, fun _ _ _ => rfl⟩, by simp⟩⟩
  case round =>
    obtain ⟨i, A2, c2, rfl, rfl, hmi, HS⟩ := hrel
    obtain ⟨b0, b1, f0, f1, l0⟩ := cells2 (kept2 HB0b.out HS.out.2.1)
    by_cases hlt : i < n1
    · obtain ⟨g, p, hA, hp, c1', c3⟩ := (HP2.out.kept HS.out.2.1).cells hlt
      subst hA
      have hix := ix27 g i n1 c1 hlt
      have hlb : decide ((i : Int) < (n1 : Int)) = true := by simp; omega
      have hld := ld58 c1' c3
      by_cases hk : p.1 < key
      · have hkb : decide (p.1 < key) = true := by simpa using hk
        obtain ⟨g', cap', w3, hrun, ho1, hgr, hsz⟩ := app58 HS.out.1 (by omega) HS.out.2.1.size p
        have HRun := Lib.hid hrun
        have HS2 : Hid (w3.ownsRow w2.heap.size 58 2 (.slice (some ⟨g', 0, none⟩) (i + 1) cap') (i + 1) (pvals ((pdrop key ps).take (i + 1))) ∧ w2.grownBy w3 none ∧ ∀ e ∈ (pdrop key ps).take (i + 1), e.1 < key) := Lib.hid ⟨by
          rw [List.take_add_one, hp]; exact ho1, hgr w2 (Nat.le_refl _) HS.out.2.1, fun e he => by
          rw [List.take_add_one, hp] at he
          rcases List.mem_append.1 he with he | he
          · exact HS.out.2.2 e he
          · simp at he; subst he; exact hk⟩
        clear hrun ho1 hgr hp hsz hk HS b1 f0 f1
        obtain ⟨pk, pn⟩ := p
        dsimp only at *
        go_wp2_with (at_builtin; refine append_run rfl (.tmp 32) (.tmp 38) 27 rfl rfl rfl HRun.out ?_)
        go_roundg (n1 - (i + 1))
        case measure => omega
        case rel => exact ⟨i + 1, _, _, rfl, by go_num, by omega, HS2⟩
      · have hkb : decide (p.1 < key) = false := by simpa using hk
        have HPart := Lib.hid (ppart_at (pdrop key ps) i HS.out.2.2 (fun q hq => by rw [hp] at hq; injection hq with hq; subst hq; exact hk))
        clear hp hk hld
        obtain ⟨pk, pn⟩ := p
        dsimp only at *
        obtain ⟨g', cap', w3, hrun, ho1, hgr, hsz⟩ := app58 HS.out.1 (by omega) HS.out.2.1.size (key, node)
        have hg3 : w2.grownBy w3 none := hgr w2 (Nat.le_refl _) HS.out.2.1
        have HG3 := Lib.hid hg3
        have HB0c := Lib.hid (kept2 HB0b.out hg3)
        have HRun := Lib.hid hrun
        have HO1 := Lib.hid ho1
        have hcap : n1 ≤ c1 := by
          rcases HP2.out.1.2 with ⟨e, _⟩ | ⟨_, _, _, e, _, _, h1, _⟩
          · cases e
          · injection e with _ _ e; omega
        clear hrun ho1 hgr hg3
        clear b1 f0 f1 l0
        obtain ⟨d0, d1, e0, e1, m0⟩ := cells2 HB0c.out
        have k1 : (0 : Int) ≤ (i : Int) := by omega
        have k2 : (i : Int) ≤ (n1 : Int) := by omega
        have k3 : (i : Int) ≤ (c1 : Int) := by omega
        have k4 : ¬ (c1 : Int) = (i : Int) := by omega
        obtain ⟨g2, hg2, happ⟩ := app58s HO1.out (HP2.out.kept HG3.out) hlt (by omega) (by omega) HG3.out.size
        injection hg2 with hg2
        injection hg2 with hg2
        subst hg2
        obtain ⟨A4, cap4, w4, hrun4, ho4, hgr4⟩ := happ (c1 - i)
        have HRun4 := Lib.hid hrun4
        have HO4 := Lib.hid ho4
        have hg4 : w2.grownBy w4 none := hgr4 w2 (Nat.le_refl _) HG3.out
        have HG4 := Lib.hid hg4
        have HB0d := Lib.hid (kept2 HB0b.out hg4)
        have HB1d := Lib.hid (kept2 HB1b.out hg4)
        obtain ⟨d40, d41, e40, e41, m4⟩ := cells2 HB0d.out
        obtain ⟨d50, d51, e50, e51, m5⟩ := cells2 HB1d.out
        clear hrun4 ho4 hgr4 hg4 happ
        have HQ : Hid ((pdrop key ps).take i ++ [(key, node)] ++ (pdrop key ps).drop i = pput key node ps) := Lib.hid (by
          unfold pput; rw [HPart.out.1, HPart.out.2]; simp)
        go_wp2_with (at_builtin; first | (refine append_run rfl (.tmp 42) (.tmp 46) 27 rfl rfl rfl HRun.out ?_) | (refine append_run rfl (.tmp 48) (.tmp 52) 27 rfl rfl rfl HRun4.out ?_))
        · have hb1 : (((((w4.setCell ⟨w.heap.size, 0, none⟩ (.slice A4 (i + 1 + (n1 - i)) cap4)).setCell ⟨w.heap.size, 1, none⟩ (.int .i64 (2 * s))).setCell ⟨w.heap.size + 1, 0, none⟩ (.slice A4 (i + 1 + (n1 - i)) cap4)).setCell ⟨w.heap.size + 1, 1, none⟩ (.int .i64 (2 * s)))).heap[w.heap.size + 1]? = some (.cells #[(.slice A4 (i + 1 + (n1 - i)) cap4), .int .i64 (2 * s)] 29 (0, 0)) :=
            head_set (head_set ((heap_setCell_other _ _ _ _ (by simp)).trans ((heap_setCell_other _ _ _ _ (by simp)).trans HB1d.out)) 0 _) 1 _
          refine bodyPost_ret (results_ref2 rfl _ _ _ _ _ _ _ rfl hb1) rfl ?_
          have hz := HZB.out
          have hz2 := HZ2.out
          refine ⟨A4, (i + 1 + (n1 - i)), cap4, n1, by unfold pslots; rw [if_pos (by push_cast; omega)]; rfl, ⟨owns_base (a := w2.heap.size) (owns_stay (HQ.out ▸ HO4.out) fun r hr => ?_) (by omega), ?_⟩, HP2.out.2, ?_⟩
          · have := (HO4.out.lt r hr).1
            rw [heap_setCell_other _ _ _ _ (by simp only; omega), heap_setCell_other _ _ _ _ (by simp only; omega), heap_setCell_other _ _ _ _ (by simp only; omega), heap_setCell_other _ _ _ _ (by simp only; omega)]
          · have hl := HO4.out.1
            rw [HQ.out, pvals_len] at hl
            omega
          · exact (grown_new (grown_new (grown_new (grown_new (grown_trans HG2.out HG4.out) (grown_setCell _ _ _ _) (by simp)) (grown_setCell _ _ _ _) (by simp)) (grown_setCell _ _ _ _) (by simp)) (grown_setCell _ _ _ _) (by simp))
        · have hb1 : ((((w4.setCell ⟨w.heap.size, 0, none⟩ (.slice A4 (i + 1 + (n1 - i)) cap4)).setCell ⟨w.heap.size + 1, 0, none⟩ (.slice A4 (i + 1 + (n1 - i)) cap4)).setCell ⟨w.heap.size + 1, 1, none⟩ (.int .i64 (s)))).heap[w.heap.size + 1]? = some (.cells #[(.slice A4 (i + 1 + (n1 - i)) cap4), .int .i64 (s)] 29 (0, 0)) :=
            head_set (head_set ((heap_setCell_other _ _ _ _ (by simp)).trans HB1d.out) 0 _) 1 _
          refine bodyPost_ret (results_ref2 rfl _ _ _ _ _ _ _ rfl hb1) rfl ?_
          have hz := HZB.out
          have hz2 := HZ2.out
          refine ⟨A4, (i + 1 + (n1 - i)), cap4, n1, by unfold pslots; rw [if_neg (by push_cast; omega)]; rfl, ⟨owns_base (a := w2.heap.size) (owns_stay (HQ.out ▸ HO4.out) fun r hr => ?_) (by omega), ?_⟩, HP2.out.2, ?_⟩
          · have := (HO4.out.lt r hr).1
            rw [heap_setCell_other _ _ _ _ (by simp only; omega), heap_setCell_other _ _ _ _ (by simp only; omega), heap_setCell_other _ _ _ _ (by simp only; omega)]
          · have hl := HO4.out.1
            rw [HQ.out, pvals_len] at hl
            omega
          · exact (grown_new (grown_new (grown_new (grown_trans HG2.out HG4.out) (grown_setCell _ _ _ _) (by simp)) (grown_setCell _ _ _ _) (by simp)) (grown_setCell _ _ _ _) (by simp))
    · obtain rfl : i = n1 := by omega
      have hlb : decide ((i : Int) < (i : Int)) = false := by simp
      have HPart := Lib.hid (ppart_at (pdrop key ps) i HS.out.2.2 (fun q hq => by
        have := (List.getElem?_eq_some_iff.1 hq).1
        have := HP2.out.2
        omega))
      obtain ⟨g', cap', w3, hrun, ho1, hgr, hsz⟩ := app58 HS.out.1 (by omega) HS.out.2.1.size (key, node)
      have hg3 : w2.grownBy w3 none := hgr w2 (Nat.le_refl _) HS.out.2.1
      have HG3 := Lib.hid hg3
      have HB0c := Lib.hid (kept2 HB0b.out hg3)
      have HB1d := Lib.hid (kept2 HB1b.out hg3)
      have HRun := Lib.hid hrun
      have HO1 := Lib.hid ho1
      have hkc : i + 1 ≤ cap' := by
        rcases ho1.2 with ⟨e, _⟩ | ⟨_, _, _, e, _, _, h1, _⟩
        · cases e
        · injection e with _ _ e; omega
      have HQ : Hid ((pdrop key ps).take i ++ [(key, node)] = pput key node ps) := Lib.hid (by
        unfold pput; rw [HPart.out.1, HPart.out.2, List.drop_of_length_le (by have := HP2.out.2; omega)])
      clear hrun ho1 hgr hg3 b1 f0 f1 l0
      obtain ⟨d0, d1, e0, e1, m0⟩ := cells2 HB0c.out
      obtain ⟨d50, d51, e50, e51, m5⟩ := cells2 HB1d.out
      have k1 : (0 : Int) ≤ (i : Int) := by omega
      rcases HP2.out.1.2 with ⟨e, hi0⟩ | ⟨gb, cb, _, e, _, _, h1, _⟩
      · injection e with e1 e2 e3
        subst e1
        subst e3
        subst hi0
        clear e2
        go_wp2_with (at_builtin; first | (refine append_run rfl (.tmp 42) (.tmp 46) 27 rfl rfl rfl HRun.out ?_) | (refine append_run rfl (.tmp 48) (.tmp 52) 27 rfl rfl rfl (app58n _ _ _ _ _ _ hkc) ?_))
        · have hb1 : (((((w3.setCell ⟨w.heap.size, 0, none⟩ (.slice (some ⟨g', 0, none⟩) (0 + 1) cap')).setCell ⟨w.heap.size, 1, none⟩ (.int .i64 (2 * s))).setCell ⟨w.heap.size + 1, 0, none⟩ (.slice (some ⟨g', 0, none⟩) (0 + 1) cap')).setCell ⟨w.heap.size + 1, 1, none⟩ (.int .i64 (2 * s)))).heap[w.heap.size + 1]? = some (.cells #[(.slice (some ⟨g', 0, none⟩) (0 + 1) cap'), .int .i64 (2 * s)] 29 (0, 0)) :=
            head_set (head_set ((heap_setCell_other _ _ _ _ (by simp)).trans ((heap_setCell_other _ _ _ _ (by simp)).trans HB1d.out)) 0 _) 1 _
          refine bodyPost_ret (results_ref2 rfl _ _ _ _ _ _ _ rfl hb1) rfl ?_
          have hz := HZB.out
          have hz2 := HZ2.out
          refine ⟨(some ⟨g', 0, none⟩), (0 + 1), cap', 0, by unfold pslots; rw [if_pos (by push_cast; omega)]; rfl, ⟨owns_base (a := w2.heap.size) (owns_stay (HQ.out ▸ HO1.out) fun r hr => ?_) (by omega), ?_⟩, HP2.out.2, ?_⟩
          · have := (HO1.out.lt r hr).1
            rw [heap_setCell_other _ _ _ _ (by simp only; omega), heap_setCell_other _ _ _ _ (by simp only; omega), heap_setCell_other _ _ _ _ (by simp only; omega), heap_setCell_other _ _ _ _ (by simp only; omega)]
          · have hl := HO1.out.1
            rw [HQ.out, pvals_len] at hl
            omega
          · exact (grown_new (grown_new (grown_new (grown_new (grown_trans HG2.out HG3.out) (grown_setCell _ _ _ _) (by simp)) (grown_setCell _ _ _ _) (by simp)) (grown_setCell _ _ _ _) (by simp)) (grown_setCell _ _ _ _) (by simp))
        · have hb1 : ((((w3.setCell ⟨w.heap.size, 0, none⟩ (.slice (some ⟨g', 0, none⟩) (0 + 1) cap')).setCell ⟨w.heap.size + 1, 0, none⟩ (.slice (some ⟨g', 0, none⟩) (0 + 1) cap')).setCell ⟨w.heap.size + 1, 1, none⟩ (.int .i64 (s)))).heap[w.heap.size + 1]? = some (.cells #[(.slice (some ⟨g', 0, none⟩) (0 + 1) cap'), .int .i64 (s)] 29 (0, 0)) :=
            head_set (head_set ((heap_setCell_other _ _ _ _ (by simp)).trans HB1d.out) 0 _) 1 _
          refine bodyPost_ret (results_ref2 rfl _ _ _ _ _ _ _ rfl hb1) rfl ?_
          have hz := HZB.out
          have hz2 := HZ2.out
          refine ⟨(some ⟨g', 0, none⟩), (0 + 1), cap', 0, by unfold pslots; rw [if_neg (by push_cast; omega)]; rfl, ⟨owns_base (a := w2.heap.size) (owns_stay (HQ.out ▸ HO1.out) fun r hr => ?_) (by omega), ?_⟩, HP2.out.2, ?_⟩
          · have := (HO1.out.lt r hr).1
            rw [heap_setCell_other _ _ _ _ (by simp only; omega), heap_setCell_other _ _ _ _ (by simp only; omega), heap_setCell_other _ _ _ _ (by simp only; omega)]
          · have hl := HO1.out.1
            rw [HQ.out, pvals_len] at hl
            omega
          · exact (grown_new (grown_new (grown_new (grown_trans HG2.out HG3.out) (grown_setCell _ _ _ _) (by simp)) (grown_setCell _ _ _ _) (by simp)) (grown_setCell _ _ _ _) (by simp))
      · injection e with e1 e2 e3
        subst e1
        subst e3
        clear e2
        have k3 : (i : Int) ≤ (c1 : Int) := by omega
        by_cases k4 : (c1 : Int) = (i : Int)
        · obtain rfl : c1 = i := by omega
          clear k4
          go_wp2_with (at_builtin; first | (refine append_run rfl (.tmp 42) (.tmp 46) 27 rfl rfl rfl HRun.out ?_) | (refine append_run rfl (.tmp 48) (.tmp 52) 27 rfl rfl rfl (app58n _ _ _ _ _ _ hkc) ?_))
          · have hb1 : (((((w3.setCell ⟨w.heap.size, 0, none⟩ (.slice (some ⟨g', 0, none⟩) (c1 + 1) cap')).setCell ⟨w.heap.size, 1, none⟩ (.int .i64 (2 * s))).setCell ⟨w.heap.size + 1, 0, none⟩ (.slice (some ⟨g', 0, none⟩) (c1 + 1) cap')).setCell ⟨w.heap.size + 1, 1, none⟩ (.int .i64 (2 * s)))).heap[w.heap.size + 1]? = some (.cells #[(.slice (some ⟨g', 0, none⟩) (c1 + 1) cap'), .int .i64 (2 * s)] 29 (0, 0)) :=
              head_set (head_set ((heap_setCell_other _ _ _ _ (by simp)).trans ((heap_setCell_other _ _ _ _ (by simp)).trans HB1d.out)) 0 _) 1 _
            refine bodyPost_ret (results_ref2 rfl _ _ _ _ _ _ _ rfl hb1) rfl ?_
            have hz := HZB.out
            have hz2 := HZ2.out
            refine ⟨(some ⟨g', 0, none⟩), (c1 + 1), cap', c1, by unfold pslots; rw [if_pos (by push_cast; omega)]; rfl, ⟨owns_base (a := w2.heap.size) (owns_stay (HQ.out ▸ HO1.out) fun r hr => ?_) (by omega), ?_⟩, HP2.out.2, ?_⟩
            · have := (HO1.out.lt r hr).1
              rw [heap_setCell_other _ _ _ _ (by simp only; omega), heap_setCell_other _ _ _ _ (by simp only; omega), heap_setCell_other _ _ _ _ (by simp only; omega), heap_setCell_other _ _ _ _ (by simp only; omega)]
            · have hl := HO1.out.1
              rw [HQ.out, pvals_len] at hl
              omega
            · exact (grown_new (grown_new (grown_new (grown_new (grown_trans HG2.out HG3.out) (grown_setCell _ _ _ _) (by simp)) (grown_setCell _ _ _ _) (by simp)) (grown_setCell _ _ _ _) (by simp)) (grown_setCell _ _ _ _) (by simp))
          · have hb1 : ((((w3.setCell ⟨w.heap.size, 0, none⟩ (.slice (some ⟨g', 0, none⟩) (c1 + 1) cap')).setCell ⟨w.heap.size + 1, 0, none⟩ (.slice (some ⟨g', 0, none⟩) (c1 + 1) cap')).setCell ⟨w.heap.size + 1, 1, none⟩ (.int .i64 (s)))).heap[w.heap.size + 1]? = some (.cells #[(.slice (some ⟨g', 0, none⟩) (c1 + 1) cap'), .int .i64 (s)] 29 (0, 0)) :=
              head_set (head_set ((heap_setCell_other _ _ _ _ (by simp)).trans HB1d.out) 0 _) 1 _
            refine bodyPost_ret (results_ref2 rfl _ _ _ _ _ _ _ rfl hb1) rfl ?_
            have hz := HZB.out
            have hz2 := HZ2.out
            refine ⟨(some ⟨g', 0, none⟩), (c1 + 1), cap', c1, by unfold pslots; rw [if_neg (by push_cast; omega)]; rfl, ⟨owns_base (a := w2.heap.size) (owns_stay (HQ.out ▸ HO1.out) fun r hr => ?_) (by omega), ?_⟩, HP2.out.2, ?_⟩
            · have := (HO1.out.lt r hr).1
              rw [heap_setCell_other _ _ _ _ (by simp only; omega), heap_setCell_other _ _ _ _ (by simp only; omega), heap_setCell_other _ _ _ _ (by simp only; omega)]
            · have hl := HO1.out.1
              rw [HQ.out, pvals_len] at hl
              omega
            · exact (grown_new (grown_new (grown_new (grown_trans HG2.out HG3.out) (grown_setCell _ _ _ _) (by simp)) (grown_setCell _ _ _ _) (by simp)) (grown_setCell _ _ _ _) (by simp))
        · 
          go_wp2_with (at_builtin; first | (refine append_run rfl (.tmp 42) (.tmp 46) 27 rfl rfl rfl HRun.out ?_) | (refine append_run rfl (.tmp 48) (.tmp 52) 27 rfl rfl rfl (app58n _ _ _ _ _ _ hkc) ?_))
          · have hb1 : (((((w3.setCell ⟨w.heap.size, 0, none⟩ (.slice (some ⟨g', 0, none⟩) (i + 1) cap')).setCell ⟨w.heap.size, 1, none⟩ (.int .i64 (2 * s))).setCell ⟨w.heap.size + 1, 0, none⟩ (.slice (some ⟨g', 0, none⟩) (i + 1) cap')).setCell ⟨w.heap.size + 1, 1, none⟩ (.int .i64 (2 * s)))).heap[w.heap.size + 1]? = some (.cells #[(.slice (some ⟨g', 0, none⟩) (i + 1) cap'), .int .i64 (2 * s)] 29 (0, 0)) :=
              head_set (head_set ((heap_setCell_other _ _ _ _ (by simp)).trans ((heap_setCell_other _ _ _ _ (by simp)).trans HB1d.out)) 0 _) 1 _
            refine bodyPost_ret (results_ref2 rfl _ _ _ _ _ _ _ rfl hb1) rfl ?_
            have hz := HZB.out
            have hz2 := HZ2.out
            refine ⟨(some ⟨g', 0, none⟩), (i + 1), cap', i, by unfold pslots; rw [if_pos (by push_cast; omega)]; rfl, ⟨owns_base (a := w2.heap.size) (owns_stay (HQ.out ▸ HO1.out) fun r hr => ?_) (by omega), ?_⟩, HP2.out.2, ?_⟩
            · have := (HO1.out.lt r hr).1
              rw [heap_setCell_other _ _ _ _ (by simp only; omega), heap_setCell_other _ _ _ _ (by simp only; omega), heap_setCell_other _ _ _ _ (by simp only; omega), heap_setCell_other _ _ _ _ (by simp only; omega)]
            · have hl := HO1.out.1
              rw [HQ.out, pvals_len] at hl
              omega
            · exact (grown_new (grown_new (grown_new (grown_new (grown_trans HG2.out HG3.out) (grown_setCell _ _ _ _) (by simp)) (grown_setCell _ _ _ _) (by simp)) (grown_setCell _ _ _ _) (by simp)) (grown_setCell _ _ _ _) (by simp))
          · have hb1 : ((((w3.setCell ⟨w.heap.size, 0, none⟩ (.slice (some ⟨g', 0, none⟩) (i + 1) cap')).setCell ⟨w.heap.size + 1, 0, none⟩ (.slice (some ⟨g', 0, none⟩) (i + 1) cap')).setCell ⟨w.heap.size + 1, 1, none⟩ (.int .i64 (s)))).heap[w.heap.size + 1]? = some (.cells #[(.slice (some ⟨g', 0, none⟩) (i + 1) cap'), .int .i64 (s)] 29 (0, 0)) :=
              head_set (head_set ((heap_setCell_other _ _ _ _ (by simp)).trans HB1d.out) 0 _) 1 _
            refine bodyPost_ret (results_ref2 rfl _ _ _ _ _ _ _ rfl hb1) rfl ?_
            have hz := HZB.out
            have hz2 := HZ2.out
            refine ⟨(some ⟨g', 0, none⟩), (i + 1), cap', i, by unfold pslots; rw [if_neg (by push_cast; omega)]; rfl, ⟨owns_base (a := w2.heap.size) (owns_stay (HQ.out ▸ HO1.out) fun r hr => ?_) (by omega), ?_⟩, HP2.out.2, ?_⟩
            · have := (HO1.out.lt r hr).1
              rw [heap_setCell_other _ _ _ _ (by simp only; omega), heap_setCell_other _ _ _ _ (by simp only; omega), heap_setCell_other _ _ _ _ (by simp only; omega)]
            · have hl := HO1.out.1
              rw [HQ.out, pvals_len] at hl
              omega
            · exact (grown_new (grown_new (grown_new (grown_trans HG2.out HG3.out) (grown_setCell _ _ _ _) (by simp)) (grown_setCell _ _ _ _) (by simp)) (grown_setCell _ _ _ _) (by simp))
end
end Go.Proofs.YtnhjnciadmgkeaaDoor
