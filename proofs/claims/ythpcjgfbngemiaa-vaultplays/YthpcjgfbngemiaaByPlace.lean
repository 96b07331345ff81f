/-
  Which of two blocks is told first: byPlace.
-/
import Derived.Test.YthpcjgfbngemiaaShelf
namespace Go.Proofs.Ythpcjgfbngemiaa
open Go.ChangeShapes Go.WideShapes Go.ChangeAt Go.RowKit
set_option linter.unusedVariables false
set_option maxRecDepth 100000
theorem ix52 (g p n c : Nat) (hp : p < n) (w : World) : (Instr.indexAt 52 (Value.slice (some { block := g, off := 0 }) n c) (Value.int .i64 p)).run Try.prog w = .ok (.pointer (some ⟨g, p, none⟩)) w := by
  simp [go_sem, hp]
def orI (u v : Int) : Int := if u = 0 then v else u
def OrR (u v : Int) (i : Nat) : Prop := (1 ≤ i → u = 0) ∧ (2 ≤ i → v = 0)
set_option maxHeartbeats 400000 in
theorem or_at (q : Nat) (u v : Int) (w : World) (h0 : w.cell? ⟨q, 0, none⟩ = some (.int .i64 u)) (h1 : w.cell? ⟨q, 1, none⟩ = some (.int .i64 v)) : Calls Try.prog 51 #[.slice (some ⟨q, 0, none⟩) 2 2] w fun e w' => e = .returned (.int .i64 (orI u v)) ∧ w = w' := by
  have x0 := ix52 q 0 2 2 (by decide)
  have x1 := ix52 q 1 2 2 (by decide)
  have y0 : ∀ w, (Instr.indexAt 52 (Value.slice (some { block := q, off := 0 }) 2 2) (Value.int .i64 0)).run Try.prog w = .ok (.pointer (some ⟨q, 0, none⟩)) w := x0
  have y1 : ∀ w, (Instr.indexAt 52 (Value.slice (some { block := q, off := 0 }) 2 2) (Value.int .i64 1)).run Try.prog w = .ok (.pointer (some ⟨q, 1, none⟩)) w := x1
  clear x0 x1
  go_enter Try.func51, Try.ntmps51
  go_wp2_with fail
  go_loopg [8] 2 (fun m k wr => ∃ (i : Nat), k = .int .i64 (i : Int) ∧ i ≤ 2 ∧ Hid (m + i = 2) ∧ wr = w ∧ Hid (OrR u v i))
  case atStart => exact ⟨0, by go_num, by omega, Lib.hid (by omega), rfl, Lib.hid ⟨by omega, by omega⟩⟩
  case round =>
    obtain ⟨i, rfl, hi, HM, rfl, HI⟩ := hrel
    obtain rfl | rfl | rfl : i = 0 ∨ i = 1 ∨ i = 2 := by omega
    · by_cases hu : u = 0
      · subst hu
        go_wp2_with fail
        go_roundg 1
        case measure => have := HM.out; omega
        case rel => exact ⟨1, by go_num, by omega, Lib.hid rfl, rfl, Lib.hid ⟨fun _ => rfl, by omega⟩⟩
      · have hub : (u != 0) = true := by simpa using hu
        go_wp2_with fail
        go_ret
        exact ⟨by unfold orI; rw [if_neg hu]; rfl, rfl⟩
    · have hu := HI.out.1 (by omega)
      subst hu
      by_cases hv : v = 0
      · subst hv
        go_wp2_with fail
        go_roundg 0
        case measure => have := HM.out; omega
        case rel => exact ⟨2, by go_num, by omega, Lib.hid rfl, rfl, Lib.hid ⟨fun _ => rfl, fun _ => rfl⟩⟩
      · have hvb : (v != 0) = true := by simpa using hv
        go_wp2_with fail
        go_ret
        exact ⟨by unfold orI; rw [if_pos rfl]; rfl, rfl⟩
    · have hu := HI.out.1 (by omega)
      have hv := HI.out.2 (by omega)
      subst hu hv
      go_wp2
      go_ret
      exact ⟨by unfold orI; rw [if_pos rfl]; rfl, rfl⟩
def cfB (x y : Int × Int × Int) : Int := orI (cmpI x.2.1 y.2.1) (cmpI x.1 y.1)
theorem grow3 (W : World) (a b c : Obj) : (((W.alloc a).alloc b).alloc c).drew = Go.Sort.grow (W.drewN 1) #[a, b, c] := by
  rw [Go.Sort.alloc_eq_grow, Go.Sort.alloc_eq_grow, Go.Sort.alloc_eq_grow, Go.Sort.grow_grow, Go.Sort.grow_grow]; rfl
set_option maxHeartbeats 400000 in
theorem byPlace_at (x y : Int × Int × Int) (W : World) : Calls Try.prog 33 #[blkV x, blkV y] W fun e w' => e = .returned (.int .i64 (cfB x y)) ∧ ∃ q os, w' = Go.Sort.grow (W.drewN q) os := by
  obtain ⟨xa, xb, xc⟩ := x
  obtain ⟨ya, yb, yc⟩ := y
  unfold blkV cfB
  dsimp only
  have HC : Hid (∀ p q w, Calls Try.prog 36 #[.int .i64 p, .int .i64 q] w fun e w' => e = .returned (.int .i64 (cmpI p q)) ∧ w = w') := Lib.hid fun p q w => compare_at p q w
  have HO : Hid (∀ w q u v, w.cell? ⟨q, 0, none⟩ = some (.int .i64 u) → w.cell? ⟨q, 1, none⟩ = some (.int .i64 v) → Calls Try.prog 51 #[.slice (some ⟨q, 0, none⟩) 2 2] w fun e w' => e = .returned (.int .i64 (orI u v)) ∧ w = w') := Lib.hid fun w q u v h0 h1 => or_at q u v w h0 h1
  go_enter Try.func33, Try.ntmps33
  go_wp2_with fail
  have hb0 := alloc2_fst W (.cells #[.int .i64 xa, .int .i64 xb, .int .i64 xc] 59) (.cells #[.int .i64 ya, .int .i64 yb, .int .i64 yc] 59)
  have hb1 := alloc2_snd W (.cells #[.int .i64 xa, .int .i64 xb, .int .i64 xc] 59) (.cells #[.int .i64 ya, .int .i64 yb, .int .i64 yc] 59)
  have z0 := cell_of_head hb0 0
  have z1 := cell_of_head hb0 1
  have t0 := cell_of_head hb1 0
  have t1 := cell_of_head hb1 1
  go_region_held3 (fun w' => w'.cell? ⟨W.heap.size, 0, none⟩ = some (.int .i64 xa) ∧ w'.cell? ⟨W.heap.size, 1, none⟩ = some (.int .i64 xb) ∧ w'.cell? ⟨W.heap.size + 1, 0, none⟩ = some (.int .i64 ya) ∧ w'.cell? ⟨W.heap.size + 1, 1, none⟩ = some (.int .i64 yb)) (first | exact ⟨z0, z1, t0, t1⟩ | go_keep)
    (first | (go_at_call 36; refine (HC.out _ _ _).mono ?_; rintro e w' ⟨rfl, rfl⟩) | (go_at_call 51; refine (HO.out _ _ (cmpI xb yb) (cmpI xa ya) (by go_simp) (by go_simp)).mono ?_; rintro e w' ⟨rfl, rfl⟩))
  go_wp2
  go_ret
  exact ⟨rfl, 1, _, grow3 _ _ _ _⟩
end Go.Proofs.Ythpcjgfbngemiaa
