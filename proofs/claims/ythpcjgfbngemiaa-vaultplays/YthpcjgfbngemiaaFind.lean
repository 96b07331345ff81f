/-
  What a vault tells of itself; the block of a number.
-/
import Derived.Test.YthpcjgfbngemiaaNums
import Derived.Laws.ResultCell
import Derived.Lib.SliceRun
namespace Go.Proofs.Ythpcjgfbngemiaa
open Go.ChangeShapes Go.WideShapes Go.ChangeAt Go.RowKit
set_option linter.unusedVariables false
set_option maxRecDepth 100000
theorem ix49 (g p n c : Nat) (hp : p < n) (w : World) : (Instr.indexAt 49 (Value.slice (some { block := g, off := 0 }) n c) (Value.int .i64 p)).run Try.prog w = .ok (.pointer (some ⟨g, p * 3, none⟩)) w := by
  simp [go_sem, hp]
theorem ld59 {g o : Nat} {x y z : Int} {w : World} (h1 : w.cell? ⟨g, o, none⟩ = some (.int .i64 x)) (h2 : w.cell? ⟨g, o + 1, none⟩ = some (.int .i64 y)) (h3 : w.cell? ⟨g, o + 2, none⟩ = some (.int .i64 z)) :
    (loadVar 59 ⟨g, o, none⟩).run Try.prog w = .ok (.agg #[.int .i64 x, .int .i64 y, .int .i64 z]) w :=
  run_loadVar_mid (P := Try.prog) w g o 59 [.int .i64 x, .int .i64 y, .int .i64 z] _ (fun j v hv => by
    have hj : j < 3 := (List.getElem?_eq_some_iff.1 hv).1
    obtain rfl | rfl | rfl : j = 0 ∨ j = 1 ∨ j = 2 := by omega
    · simp at hv; subst hv; exact h1
    · simp at hv; subst hv; exact h2
    · simp at hv; subst hv; exact h3) Try.underlying59 rfl (by kernel_rfl)
theorem results_blk {fn : Func} {p u : Tmp} (h : fn.results = #[.cell p 59, .tmp u]) (tmps : Array Value) (w : World) (g : Nat) (t : TypeId) (fr : Nat × Nat) (x y z : Value)
    (hp : tmps.getD p undef = .pointer (some ⟨g, 0, none⟩)) (hg : w.heap[g]? = some (.cells #[x, y, z] t fr)) : (results fn tmps).run Try.prog w = .ok (.tuple #[.agg #[x, y, z], tmps.getD u undef]) w := by
  rw [results_cell_tmp h, hp]
  simp [asAddr, run_loadVar_row w g t 59 #[x, y, z] fr _ hg Try.underlying59 rfl (by kernel_rfl), Result.andThen]
def blkV (p : Int × Int × Int) : Value := .agg #[.int .i64 p.1, .int .i64 p.2.1, .int .i64 p.2.2]
section
variable {w : World} {lo b : Nat} {h : Hd} {V : Vl}
theorem room_at (x : VAt w lo b h V) : Calls Try.prog 16 #[.pointer (some ⟨b, 0, none⟩)] w fun e w' => e = .returned (.int .i64 (V.room : Int)) ∧ w = w' := by
  have c := x.c0
  go_enter Try.func16, Try.ntmps16
  go_wp2
  go_ret
  exact ⟨rfl, rfl⟩
theorem used_at (x : VAt w lo b h V) : Calls Try.prog 17 #[.pointer (some ⟨b, 0, none⟩)] w fun e w' => e = .returned (.int .i64 (V.used : Int)) ∧ w = w' := by
  have c := x.c5
  go_enter Try.func17, Try.ntmps17
  go_wp2
  go_ret
  exact ⟨rfl, rfl⟩
theorem packs_at (x : VAt w lo b h V) : Calls Try.prog 18 #[.pointer (some ⟨b, 0, none⟩)] w fun e w' => e = .returned (.int .i64 (V.packs : Int)) ∧ w = w' := by
  have c := x.c6
  go_enter Try.func18, Try.ntmps18
  go_wp2
  go_ret
  exact ⟨rfl, rfl⟩
theorem moved_at (x : VAt w lo b h V) : Calls Try.prog 19 #[.pointer (some ⟨b, 0, none⟩)] w fun e w' => e = .returned (.int .i64 (V.moved : Int)) ∧ w = w' := by
  have c := x.c7
  go_enter Try.func19, Try.ntmps19
  go_wp2
  go_ret
  exact ⟨rfl, rfl⟩
theorem VAt.kcells (x : VAt w lo b h V) {i : Nat} {p : Int × Int × Int} (hi : V.bk[i]? = some p) : ∃ g c, h.vK = .slice (some ⟨g, 0, none⟩) V.bk.length c ∧ w.cell? ⟨g, i * 3, none⟩ = some (.int .i64 p.1) ∧ w.cell? ⟨g, i * 3 + 1, none⟩ = some (.int .i64 p.2.1) ∧ w.cell? ⟨g, i * 3 + 2, none⟩ = some (.int .i64 p.2.2) := by
  have hl : i < V.bk.length := (List.getElem?_eq_some_iff.1 hi).1
  obtain ⟨g, c, e⟩ := owns_some x.rK (by omega)
  have hr := x.rK
  rw [e] at hr
  have k := fun j (hj : j < 3) => (hr.cellAt (i * 3 + j) (by omega)).trans (rvals_get kenc_len hi hj)
  exact ⟨g, c, e, k 0 (by omega), k 1 (by omega), k 2 (by omega)⟩
def FindPost (w : World) (v : Value) (bb : Bool) (e : Ending) (w' : World) : Prop := e = .returned (.tuple #[v, .bool bb]) ∧ w.grownBy w' none
set_option maxHeartbeats 400000 in
theorem find_yes (x : VAt w lo b h V) (hn : V.bk.length ≤ 1000000) {i : Nat} {p : Int × Int × Int} (hi : V.bk[i]? = some p) (hp : p.1 ≠ -1) : Calls Try.prog 29 #[.pointer (some ⟨b, 0, none⟩), .int .i64 (i : Int)] w (FindPost w (blkV p) true) := by
  have hil : i < V.bk.length := (List.getElem?_eq_some_iff.1 hi).1
  have hga := World.grownBy_alloc w (.cells #[.int .i64 0, .int .i64 0, .int .i64 0] 59) none
  have hx := x.kept hga
  obtain ⟨g, c, e, k0, k1, k2⟩ := hx.kcells hi
  have c2 := hx.c2
  rw [e] at c2
  have hb := heap_alloc_new w (.cells #[.int .i64 0, .int .i64 0, .int .i64 0] 59)
  have HB := Lib.hid hb
  have HG := Lib.hid hga
  obtain ⟨n, HN⟩ : ∃ n, Hid (V.bk.length = n) := ⟨_, Lib.hid rfl⟩
  rw [HN.out] at hil hn c2
  obtain ⟨pa, pb, pc⟩ := p
  dsimp only at *
  unfold blkV
  dsimp only
  have hd : (pa == -1) = false := beq_eq_false_iff_ne.2 hp
  have hix := ix49 g i n c hil
  have hld := ld59 k0 k1 k2
  have kk : ¬ (n : Int) ≤ (i : Int) := by omega
  have z0 := cell_of_head hb 0
  have z1 := cell_of_head hb 1
  have z2 := cell_of_head hb 2
  have y0 := frozen_of_head hb 0
  have y1 := frozen_of_head hb 1
  have y2 := frozen_of_head hb 2
  clear e hx x hga hi hp hb
  go_enter Try.func29, Try.ntmps29
  go_wp2_with fail
  refine bodyPost_ret (results_blk rfl _ _ _ _ _ _ _ _ rfl (heap_alloc_new w _)) rfl ?_
  exact ⟨rfl, World.grownBy_alloc w _ none⟩
set_option maxHeartbeats 400000 in
theorem find_no (x : VAt w lo b h V) (hn : V.bk.length ≤ 1000000) (i : Int) (hi : i < 0 ∨ (V.bk.length : Int) ≤ i ∨ ∃ (k : Nat) (p : Int × Int × Int), i = (k : Int) ∧ V.bk[k]? = some p ∧ p.1 = -1) :
    Calls Try.prog 29 #[.pointer (some ⟨b, 0, none⟩), .int .i64 i] w (FindPost w (blkV (0, 0, 0)) false) := by
  have hga := World.grownBy_alloc w (.cells #[.int .i64 0, .int .i64 0, .int .i64 0] 59) none
  have hx := x.kept hga
  obtain ⟨A, c, e⟩ := owns_slice hx.rK
  have c2 := hx.c2
  rw [e] at c2
  unfold blkV
  dsimp only
  by_cases h0 : i < 0
  · clear hi x hx hga e hn
    go_enter Try.func29, Try.ntmps29
    go_wp2_with fail
    refine bodyPost_ret (results_blk rfl _ _ _ _ _ _ _ _ rfl (heap_alloc_new w _)) rfl ?_
    exact ⟨rfl, World.grownBy_alloc w _ none⟩
  · by_cases h1 : (V.bk.length : Int) ≤ i
    · obtain ⟨n, hnn⟩ : ∃ n, V.bk.length = n := ⟨_, rfl⟩
      rw [hnn] at c2 h1
      clear hi x hx hga e hn hnn
      go_enter Try.func29, Try.ntmps29
      go_wp2_with fail
      refine bodyPost_ret (results_blk rfl _ _ _ _ _ _ _ _ rfl (heap_alloc_new w _)) rfl ?_
      exact ⟨rfl, World.grownBy_alloc w _ none⟩
    · obtain ⟨k, p, rfl, hk, hp⟩ : ∃ (k : Nat) (p : Int × Int × Int), i = (k : Int) ∧ V.bk[k]? = some p ∧ p.1 = -1 := by
        rcases hi with hi | hi | hi
        · exact absurd hi h0
        · exact absurd hi h1
        · exact hi
      obtain ⟨g, c', e', k0, k1, k2⟩ := hx.kcells hk
      rw [e] at e'
      injection e' with e1 _ e3
      subst e1 e3
      rw [hp] at k0
      have hkl : k < V.bk.length := (List.getElem?_eq_some_iff.1 hk).1
      obtain ⟨n, hnn⟩ : ∃ n, V.bk.length = n := ⟨_, rfl⟩
      rw [hnn] at c2 h1 hkl hn
      have hix := ix49 g k n c hkl
      clear hi x hx hga e hnn hk hp k1 k2 h0
      go_enter Try.func29, Try.ntmps29
      go_wp2_with fail
      refine bodyPost_ret (results_blk rfl _ _ _ _ _ _ _ _ rfl (heap_alloc_new w _)) rfl ?_
      exact ⟨rfl, World.grownBy_alloc w _ none⟩
theorem find_nil (i : Int) (w : World) : Calls Try.prog 29 #[.pointer none, .int .i64 i] w (FindPost w (blkV (0, 0, 0)) false) := by
  unfold blkV
  dsimp only
  go_enter Try.func29, Try.ntmps29
  go_wp2_with fail
  refine bodyPost_ret (results_blk rfl _ _ _ _ _ _ _ _ rfl (heap_alloc_new w _)) rfl ?_
  exact ⟨rfl, World.grownBy_alloc w _ none⟩
end
/-! ### a copy of bytes -/
def ClonePost (w : World) (n : Nat) (xs : List Value) (e : Ending) (w' : World) : Prop := ∃ A c, e = .returned (.slice A n c) ∧ w'.ownsRow w.heap.size 5 1 (.slice A n c) n xs ∧ w.grownBy w' none
theorem info5' : (Try.prog.info? 5).map (fun i => (i.zero, i.size, i.bytes)) = some (some (.int .u8 0), 1, 1) := info5
set_option maxHeartbeats 400000 in
theorem clone_at (w : World) (g o n c : Nat) (xs : List Value) (hl : xs.length = n) (hc : ∀ j u, xs[j]? = some u → w.cell? ⟨g, o + j, none⟩ = some u) (h1 : ∀ u ∈ xs, u.oneCell' = true) (hn : n ≤ 2097152) :
    Calls Try.prog 31 #[.slice (some ⟨g, o, none⟩) n c] w (ClonePost w n xs) := by
  obtain ⟨i0, hi0, hz0, hz1, hz2⟩ := info_parts info5
  have hr0 := World.ownsRow_made (base := w.heap.size) (e := 5) (size := 1) w #[] 0 (Nat.le_refl _) (Nat.zero_le _) rfl
  obtain ⟨v', w', hrun, ho, hg, _⟩ := run_append_own (P := Try.prog) (w.alloc (.cells #[] 5)) w.heap.size 31 31 5 i0 (.int .u8 0) 1 1 Try.underlying31 hi0 hz0 hz1 hz2 rfl (by decide) (.slice (some ⟨w.heap.size, 0, none⟩) 0 0) 0 [] hr0 ⟨g, o, none⟩ n c xs (by omega) (fun j u hu => by
    have := (World.grownBy_alloc w (.cells #[] 5) none).cell (hc j u hu) (by simp)
    rw [← this]
    congr 1
    by_cases h0 : j = 0
    · subst h0; simp [Addr.add]
    · simp [Addr.add, h0]) h1 (by unfold maxLen; omega) (by omega) (by simp)
  rw [Nat.zero_add] at ho
  obtain ⟨A, c', rfl⟩ := owns_slice ho
  have HFin : Hid (ClonePost w n xs (.returned (.slice A n c')) w') := Lib.hid ⟨A, c', rfl, by simpa using ho, grown_new (World.grownBy_alloc w _ none) hg (Nat.le_refl _)⟩
  have HR := Lib.hid hrun
  clear hr0 hrun ho hg hi0 hz0 hz1 hz2 hl hc h1
  have heq : ∀ w, (binOp .eql 31 (.slice (some ⟨g, o, none⟩) n c) (.slice none 0 0)).run Try.prog w = .ok (.bool false) w := fun w => Lib.run_eql_slice_nil (P := Try.prog) w 31 5 _ _ _ _ _ Try.underlying31
  go_enter Try.func31, Try.ntmps31
  go_wp2_with (at_builtin; refine append_run rfl (.tmp 5) (.tmp 6) 31 rfl rfl rfl HR.out ?_)
  go_ret
  exact HFin.out
theorem clone_nil (w : World) : Calls Try.prog 31 #[.slice none 0 0] w (ClonePost w 0 []) := by
  have heq : ∀ w, (binOp .eql 31 (.slice none 0 0) (.slice none 0 0)).run Try.prog w = .ok (.bool true) w := fun w => Lib.run_eql_slice_nil (P := Try.prog) w 31 5 _ _ _ _ _ Try.underlying31
  go_enter Try.func31, Try.ntmps31
  go_wp2
  go_ret
  exact ⟨none, 0, rfl, World.ownsRow_nil _ _ _ _, ⟨rfl, rfl, rfl, Nat.le_refl _, fun _ _ _ => rfl⟩⟩
end Go.Proofs.Ythpcjgfbngemiaa
