/-
  The document's table: Drop.
-/
import Derived.Test.YtnhjnciadmgkeaaDoorRefD
import Derived.Deep.MidRow
import Derived.Laws.ResultCell
namespace Go.Proofs.YtnhjnciadmgkeaaDoor
open Go.ChangeShapes Go.WideShapes Go.ChangeAt Go.RowKit
set_option linter.unusedVariables false
theorem alloc22 (w : World) (x y x' y' : Value) (t : TypeId) : w.grownBy ((w.alloc (.cells #[x, y] t)).alloc (.cells #[x', y'] t)) none ∧ ((w.alloc (.cells #[x, y] t)).alloc (.cells #[x', y'] t)).heap.size = w.heap.size + 2 ∧
    ((w.alloc (.cells #[x, y] t)).alloc (.cells #[x', y'] t)).heap[w.heap.size]? = some (.cells #[x, y] t (0, 0)) ∧ ((w.alloc (.cells #[x, y] t)).alloc (.cells #[x', y'] t)).heap[w.heap.size + 1]? = some (.cells #[x', y'] t (0, 0)) := by
  refine ⟨grown_trans (World.grownBy_alloc _ _ none) (World.grownBy_alloc _ _ none), by simp, (Below.heap_alloc _ _ _ (by simp)).trans (heap_alloc_new w _), ?_⟩
  have := heap_alloc_new (w.alloc (.cells #[x, y] t)) (.cells #[x', y'] t)
  rwa [World.size_alloc] at this
theorem cells2 {w : World} {B : Nat} {x y : Value} {t : TypeId} (h : w.heap[B]? = some (.cells #[x, y] t (0, 0))) : w.cell? ⟨B, 0, none⟩ = some x ∧ w.cell? ⟨B, 1, none⟩ = some y ∧ w.frozen? ⟨B, 0, none⟩ = false ∧ w.frozen? ⟨B, 1, none⟩ = false ∧ B < w.heap.size :=
  ⟨cell_of_head h 0, cell_of_head h 1, frozen_of_head h 0, frozen_of_head h 1, (Array.getElem?_eq_some_iff.1 h).1⟩
theorem kept2 {w w' : World} {B : Nat} {o : Obj} (h : w.heap[B]? = some o) (hg : w.grownBy w' none) : w'.heap[B]? = some o := (hg.block B (Array.getElem?_eq_some_iff.1 h).1 (by simp)).trans h
theorem ld58 {g o : Nat} {x y : Int} {w : World} (h1 : w.cell? ⟨g, o, none⟩ = some (.int .u64 x)) (h2 : w.cell? ⟨g, o + 1, none⟩ = some (.int .i32 y)) :
    (loadVar 58 ⟨g, o, none⟩).run Tryd.prog w = .ok (.agg #[.int .u64 x, .int .i32 y]) w :=
  run_loadVar_mid (P := Tryd.prog) w g o 58 [.int .u64 x, .int .i32 y] _ (fun j v hv => by
    have hj : j < 2 := (List.getElem?_eq_some_iff.1 hv).1
    obtain rfl | rfl : j = 0 ∨ j = 1 := by omega
    · simp at hv; subst hv; exact h1
    · simp at hv; subst hv; exact h2) Tryd.underlying58 rfl (by kernel_rfl)
theorem results_ref2 {fn : Func} {p u : Tmp} (h : fn.results = #[.cell p 29, .tmp u]) (tmps : Array Value) (w : World) (g : Nat) (t : TypeId) (fr : Nat × Nat) (x y : Value)
    (hp : tmps.getD p undef = .pointer (some ⟨g, 0, none⟩)) (hg : w.heap[g]? = some (.cells #[x, y] t fr)) : (results fn tmps).run Tryd.prog w = .ok (.tuple #[.agg #[x, y], tmps.getD u undef]) w := by
  rw [results_cell_tmp h, hp]
  simp [asAddr, run_loadVar_row w g t 29 #[x, y] fr _ hg Tryd.underlying29 rfl (by kernel_rfl), Result.andThen]
section
variable {w w' : World} {base n c : Nat} {A : Option Addr} {ps : List (Int × Int)}
/-- the pairs without a key -/
def pdrop (key : Int) (ps : List (Int × Int)) : List (Int × Int) := ps.filter fun p => !(p.1 == key)
theorem pdrop_snoc (key : Int) (l : List (Int × Int)) (p : Int × Int) : pdrop key (l ++ [p]) = if p.1 = key then pdrop key l else pdrop key l ++ [p] := by
  unfold pdrop
  rw [List.filter_append]
  by_cases h : p.1 = key <;> simp [h]
theorem pdrop_len (key : Int) (l : List (Int × Int)) : (pdrop key l).length ≤ l.length := List.length_filter_le _ _
set_option maxHeartbeats 1000000 in
theorem rdrop_at (h : PRow w base A n c ps) (s key : Int) (hn : n ≤ 1000000) :
    Calls Tryd.prog 19 #[.agg #[.slice A n c, .int .i64 s], .int .u64 key] w fun r w' => ∃ A' n' c', r = .returned (.tuple #[.agg #[.slice A' n' c', .int .i64 s], .bool (decide (n' < n))]) ∧ PRow w' w.heap.size A' n' c' (pdrop key ps) ∧ w.grownBy w' none := by
  have HR : Hid (PRow w base A n c ps) := Lib.hid h
  clear h
  go_enter Tryd.func19, Tryd.ntmps19
  go_wp2_with fail
  obtain ⟨hgB, hzB, b0, b1⟩ := alloc22 w (.slice A n c) (.int .i64 s) (.slice none 0 0) (.int .i64 0) 29
  have HGB := Lib.hid hgB
  have HZB := Lib.hid hzB
  have HB0 := Lib.hid b0
  have HB1 := Lib.hid b1
  clear hgB hzB b0 b1
  generalize (w.alloc (.cells #[.slice A n c, .int .i64 s] 29)).alloc (.cells #[.slice none 0 0, .int .i64 0] 29) = wB at *
  go_loopg [6, 7] n (fun m u v wr => ∃ (i k : Nat) (A2 : Option Addr) (c2 : Nat), u = .slice A2 k c2 ∧ v = .int .i64 (i : Int) ∧ m + i = n ∧ Hid (wr.ownsRow wB.heap.size 58 2 (.slice A2 k c2) k (pvals (pdrop key (ps.take i))) ∧ k = (pdrop key (ps.take i)).length ∧ wB.grownBy wr none))
  case atStart => exact ⟨0, 0, none, 0, rfl, by go_num, by omega, Lib.hid ⟨World.ownsRow_nil _ _ _ _, rfl, ⟨rfl, rfl, rfl, Nat.le_refl _, fun _ _ _ => rfl⟩⟩⟩
  case round =>
    obtain ⟨i, k, A2, c2, rfl, rfl, hmi, HS⟩ := hrel
    obtain ⟨b0, b1, f0, f1, l0⟩ := cells2 (kept2 HB0.out HS.out.2.2)
    by_cases hlt : i < n
    · obtain ⟨g, p, hA, hp, c1, c3⟩ := (HR.out.kept (grown_trans HGB.out HS.out.2.2)).cells hlt
      subst hA
      have hix := ix27 g i n c hlt
      have hlb : decide ((i : Int) < (n : Int)) = true := by simp; omega
      have hld := ld58 c1 c3
      have hkk : k ≤ 1000000 := by
        have h1 := HS.out.2.1
        have h2 := pdrop_len key (ps.take i)
        have h3 : (ps.take i).length ≤ i := List.length_take_le _ _
        omega
      obtain ⟨g', cap', w2, hrun, ho1, hgr, hsz⟩ := app58 HS.out.1 hkk HS.out.2.2.size p
      have hpd : pdrop key (ps.take (i + 1)) = if p.1 = key then pdrop key (ps.take i) else pdrop key (ps.take i) ++ [p] := by
        rw [List.take_add_one, hp]; exact pdrop_snoc _ _ _
      have HPD := Lib.hid hpd
      have HRun := Lib.hid hrun
      have HO1 := Lib.hid ho1
      have HG1 : Hid (wB.grownBy w2 none) := Lib.hid (hgr wB (Nat.le_refl _) HS.out.2.2)
      clear hrun ho1 hgr hp hpd b1 f0 f1 hsz
      obtain ⟨pk, pn⟩ := p
      dsimp only at *
      by_cases hk : pk = key
      · subst hk
        clear HRun HO1 HG1 hld c3
        go_wp2
        go_roundg (n - (i + 1))
        case measure => omega
        case rel => exact ⟨i + 1, k, _, _, rfl, by go_num, by omega, Lib.hid (by rw [HPD.out, if_pos trivial]; exact HS.out)⟩
      · have hkb : (pk == key) = false := beq_eq_false_iff_ne.2 hk
        have HK := Lib.hid hk
        clear hk
        go_wp2_with (at_builtin; refine append_run rfl (.tmp 24) (.tmp 30) 27 rfl rfl rfl HRun.out ?_)
        go_roundg (n - (i + 1))
        case measure => omega
        case rel => exact ⟨i + 1, k + 1, _, _, rfl, by go_num, by omega, Lib.hid (by rw [HPD.out, if_neg HK.out]; exact ⟨HO1.out, by simp [← HS.out.2.1], HG1.out⟩)⟩
    · obtain rfl : i = n := by omega
      have hlb : decide ((i : Int) < (i : Int)) = false := by simp
      obtain ⟨e0, e1, r0, r1, l1⟩ := cells2 (kept2 HB1.out HS.out.2.2)
      go_wp2
      have hb1 : ((((wr.setCell ⟨w.heap.size, 0, none⟩ (.slice A2 k c2)).setCell ⟨w.heap.size + 1, 0, none⟩ (.slice A2 k c2)).setCell ⟨w.heap.size + 1, 1, none⟩ (.int .i64 s))).heap[w.heap.size + 1]? = some (.cells #[.slice A2 k c2, .int .i64 s] 29 (0, 0)) :=
        head_set (head_set ((heap_setCell_other _ _ _ _ (by simp)).trans (kept2 HB1.out HS.out.2.2)) 0 _) 1 _
      refine bodyPost_ret (results_ref2 rfl _ _ _ _ _ _ _ rfl hb1) rfl ?_
      have hz := HZB.out
      have hall : ps.take i = ps := List.take_of_length_le (by have := HR.out.2; omega)
      have hS := HS.out
      rw [hall] at hS
      refine ⟨A2, k, c2, rfl, ⟨owns_base (a := wB.heap.size) (owns_stay hS.1 fun r hr => ?_) (by omega), hS.2.1⟩, ?_⟩
      · have := (hS.1.lt r hr).1
        rw [heap_setCell_other _ _ _ _ (by simp only; omega), heap_setCell_other _ _ _ _ (by simp only; omega), heap_setCell_other _ _ _ _ (by simp only; omega)]
      · exact grown_new (grown_new (grown_new (grown_trans HGB.out hS.2.2) (grown_setCell _ _ _ _) (Nat.le_refl _)) (grown_setCell _ _ _ _) (by simp)) (grown_setCell _ _ _ _) (by simp)
end
end Go.Proofs.YtnhjnciadmgkeaaDoor
