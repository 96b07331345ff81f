/-
  The document's slab: which handles stand, its chunks, a place that is another one.
-/
import Derived.Test.YtoopfoapkbjdkaaRef
import Derived.Laws.OwnMore
namespace Go.Proofs.Ytoopfoapkbjdkaa
open Go.ChangeShapes Go.WideShapes Go.ChangeAt Go.RowKit
set_option linter.unusedVariables false
set_option maxRecDepth 100000

theorem info80 : (Try.prog.info? 80).map (fun i => (i.zero, i.size, i.bytes)) = some (some (.agg #[.int .i64 0, .bool false, .int .i64 0]), 3, 24) := by kernel_rfl
theorem info3 : (Try.prog.info? 3).map (fun i => (i.zero, i.size, i.bytes)) = some (some (.int .i64 0), 1, 8) := by kernel_rfl
theorem grown_row {a b c : World} {row : Option Nat} (h1 : a.grownBy b none) (h2 : b.grownBy c row) (hr : ∀ r, row = some r → a.heap.size ≤ r) : a.grownBy c none :=
  ⟨h2.os.trans h1.os, h2.tape.trans h1.tape, h2.output.trans h1.output, Nat.le_trans h1.size h2.size,
    fun k hk hn => (h2.block k (Nat.lt_of_lt_of_le hk h1.size) (fun e => by have := hr k e.symm; omega)).trans (h1.block k hk hn)⟩
theorem kept2 {w w' : World} {B : Nat} {o : Obj} (h : w.heap[B]? = some o) (hg : w.grownBy w' none) : w'.heap[B]? = some o := (hg.block B (Array.getElem?_eq_some_iff.1 h).1 (by simp)).trans h
theorem cells4 {w : World} {B : Nat} {x y z u : Value} {t : TypeId} (h : w.heap[B]? = some (.cells #[x, y, z, u] t (0, 0))) : w.cell? ⟨B, 0, none⟩ = some x ∧ w.cell? ⟨B, 1, none⟩ = some y ∧ w.cell? ⟨B, 2, none⟩ = some z ∧ w.cell? ⟨B, 3, none⟩ = some u ∧ B < w.heap.size :=
  ⟨cell_of_head h 0, cell_of_head h 1, cell_of_head h 2, cell_of_head h 3, (Array.getElem?_eq_some_iff.1 h).1⟩
theorem free4 {w : World} {B : Nat} {x y z u : Value} {t : TypeId} (h : w.heap[B]? = some (.cells #[x, y, z, u] t (0, 0))) : w.frozen? ⟨B, 0, none⟩ = false ∧ w.frozen? ⟨B, 1, none⟩ = false ∧ w.frozen? ⟨B, 2, none⟩ = false ∧ w.frozen? ⟨B, 3, none⟩ = false :=
  ⟨frozen_of_head h 0, frozen_of_head h 1, frozen_of_head h 2, frozen_of_head h 3⟩
theorem cells3 {w : World} {B : Nat} {x y z : Value} {t : TypeId} (h : w.heap[B]? = some (.cells #[x, y, z] t (0, 0))) : w.cell? ⟨B, 0, none⟩ = some x ∧ w.cell? ⟨B, 1, none⟩ = some y ∧ w.cell? ⟨B, 2, none⟩ = some z ∧ B < w.heap.size :=
  ⟨cell_of_head h 0, cell_of_head h 1, cell_of_head h 2, (Array.getElem?_eq_some_iff.1 h).1⟩
theorem pcells_one {L : List (Spot Int)} : ∀ u ∈ L.flatMap pcells, u.oneCell' = true := by
  intro u hu
  obtain ⟨s, _, hu⟩ := List.mem_flatMap.1 hu
  simp only [pcells, List.mem_cons, List.not_mem_nil, or_false] at hu
  rcases hu with rfl | rfl | rfl <;> rfl
theorem ivals_one {l : List Nat} : ∀ u ∈ ivals l, u.oneCell' = true := by
  intro u hu
  obtain ⟨x, _, rfl⟩ := List.mem_map.1 hu
  rfl
theorem flat_len (L : List (Spot Int)) : (L.flatMap pcells).length = L.length * 3 := by
  induction L with
  | nil => rfl
  | cons x L ih => rw [List.flatMap_cons, List.length_append, ih]; simp [pcells]; omega
theorem flat_set : ∀ (L : List (Spot Int)) (p : Nat) (s : Spot Int), p < L.length → (L.set p s).flatMap pcells = (((L.flatMap pcells).set (p * 3) (.int .i64 (s.turn : Int))).set (p * 3 + 1) (.bool s.stands)).set (p * 3 + 2) (.int .i64 s.has)
  | [], p, s, h => by simp at h
  | x :: L, 0, s, h => by simp [pcells]
  | x :: L, p + 1, s, h => by
    have ih := flat_set L p s (by simpa using h)
    rw [List.set_cons_succ, List.flatMap_cons, ih, List.flatMap_cons]
    have hl : (pcells x).length = 3 := rfl
    have e : ∀ (xs : List Value) (j : Nat) (u : Value), (pcells x ++ xs).set ((p + 1) * 3 + j) u = pcells x ++ xs.set (p * 3 + j) u := fun xs j u => by
      rw [List.set_append_right _ _ (by rw [hl]; omega), hl, show (p + 1) * 3 + j - 3 = p * 3 + j by omega]
    have e0 := e (L.flatMap pcells) 0 (.int .i64 (s.turn : Int))
    simp only [Nat.add_zero] at e0
    rw [e0, e _ 1, e _ 2]
theorem ivals_len (l : List Nat) : (ivals l).length = l.length := by simp [ivals]

theorem ownsRow_base0 {W : World} {a : Nat} {e : TypeId} {size : Nat} {v : Value} {n : Nat} {xs : List Value} (h : W.ownsRow a e size v n xs) : W.ownsRow 0 e size v n xs := by
  refine ⟨h.1, ?_⟩
  rcases h.2 with h | ⟨g, cap, cur, hv, hg, r⟩
  · exact .inl h
  · exact .inr ⟨g, cap, cur, hv, Nat.zero_le _, r⟩
/-- a row behind none: another row with the same -/
theorem run_clone {w : World} {t e : TypeId} {i0 : TypeInfo} {z : Value} {size bytes lo n : Nat} {v : Value} {xs : List Value} (ht : Try.prog.underlying t = some (.slice e)) (hi : Try.prog.info? e = some i0) (hz0 : i0.zero = some z) (hz1 : i0.size = size) (hz2 : i0.bytes = bytes) (hzs : z.cells.size = size) (hsz : 0 < size)
    (h : w.ownsRow lo e size v n xs) (h1 : ∀ u ∈ xs, u.oneCell' = true) (hn : n ≤ maxLen) (hb : n * bytes ≤ 140737488355328) :
    ∃ g cap w', (Builtin.append_ #[t, t] t #[.slice (some ⟨w.heap.size, 0, none⟩) 0 0, v]).run Try.prog (w.alloc (.cells #[] e)) = .ok (.slice (some ⟨g, 0, none⟩) n cap) w' ∧ w'.ownsRow w.heap.size e size (.slice (some ⟨g, 0, none⟩) n cap) n xs ∧ w.grownBy w' none := by
  have ho : (w.alloc (.cells #[] e)).ownsRow w.heap.size e size (.slice (some ⟨w.heap.size, 0, none⟩) 0 0) 0 [] := World.ownsRow_made w #[] 0 (Nat.le_refl _) (by decide) (by simp)
  have hg0 := World.grownBy_alloc w (.cells #[] e) none
  have hk := h.alloc (.cells #[] e)
  rcases h.2 with ⟨rfl, rfl⟩ | ⟨g, cap, cur, rfl, hbg, hgb, hnc, hcm, hcs, htake⟩
  · have hx : xs = [] := List.eq_nil_of_length_eq_zero (by have := h.1; omega)
    subst hx
    exact ⟨_, _, _, run_append_owned_none (P := Try.prog) (w := w.alloc (.cells #[] e)) w.heap.size t t e i0 size ht hi _ 0 [] ho, ho, hg0⟩
  · obtain ⟨v', w', hrun, ho', hg, hfo⟩ := run_append_own (P := Try.prog) (w.alloc (.cells #[] e)) w.heap.size t t e i0 z size bytes ht hi hz0 hz1 hz2 hzs hsz (.slice (some ⟨w.heap.size, 0, none⟩) 0 0) 0 [] ho ⟨g, 0, none⟩ n cap xs h.1 (fun j u hj => hk.cells (g := g) rfl j u hj) h1 (by omega) (by rw [Nat.zero_add]; exact hb) (by simp)
    rw [Nat.zero_add, List.nil_append] at ho'
    have hG : w.grownBy w' none := grown_row hg0 hg fun r hr => by
      have : w.heap.size = r := by injection hr
      omega
    rcases ho'.2 with ⟨rfl, hn0⟩ | ⟨g', cap', cur', rfl, _⟩
    · exfalso
      subst hn0
      have hx : xs = [] := List.eq_nil_of_length_eq_zero (by have := h.1; omega)
      subst hx
      have hr := run_append_room (P := Try.prog) (w.alloc (.cells #[] e)) t t e i0 ht hi w.heap.size 0 0 #[] (heap_alloc_new w _) ⟨g, 0, none⟩ 0 cap [] (by simp) (fun j u hj => by simp at hj) (by simp) (by omega) (by simp)
      rw [hrun] at hr
      injection hr with e1 _
      injection e1 with e1
      cases e1
    · exact ⟨g', cap', w', hrun, ho', hG⟩

section
variable {w w' : World} {lo : Nat} {S : SI} {vL vF : Value}
set_option maxHeartbeats 2000000 in
theorem with_at (h : RefAt w lo S vL vF) (h6 : S.L.length ≤ 65536) {p : Nat} (hp : p < S.L.length) (s : Spot Int) :
    Calls Try.prog 47 #[vL, .int .i64 (p : Int), .agg #[.int .i64 (s.turn : Int), .bool s.stands, .int .i64 s.has]] w fun e w' => ∃ A cap, e = .returned (.slice A S.L.length cap) ∧ w'.ownsRow 0 80 3 (.slice A S.L.length cap) S.L.length ((S.L.set p s).flatMap pcells) ∧ w.grownBy w' none := by
  obtain ⟨i0, hi, hz0, hz1, hz2⟩ := info_parts info80
  have hga := World.grownBy_alloc w (.cells #[.int .i64 (s.turn : Int), .bool s.stands, .int .i64 s.has] 80) none
  have hb0 := heap_alloc_new w (.cells #[.int .i64 (s.turn : Int), .bool s.stands, .int .i64 s.has] 80)
  obtain ⟨g, cap, w3, hrun, ho, hg⟩ := run_clone (w := w.alloc (.cells #[.int .i64 (s.turn : Int), .bool s.stands, .int .i64 s.has] 80)) Try.underlying29 hi hz0 hz1 hz2 rfl (by decide) (h.kept hga).rowL pcells_one (by unfold maxLen; omega) (by omega)
  rw [World.size_alloc] at hrun ho
  have hG := grown_trans hga hg
  have hb3 := kept2 hb0 hg
  obtain ⟨A, capL, rfl⟩ := h.slice
  obtain ⟨c0, c1, c2, l0⟩ := cells3 hb3
  have hgn : w.heap.size + 1 ≤ g := (ho.lt g rfl).1
  have hgl : g < w3.heap.size := (ho.lt g rfl).2
  have st1 := ho.stored (p * 3) (.int .i64 (s.turn : Int))
  have st2 := st1.1.stored (p * 3 + 1) (.bool s.stands)
  have st3 := st2.1.stored (p * 3 + 2) (.int .i64 s.has)
  rw [← flat_set S.L p s hp] at st3
  obtain ⟨s0, hs0⟩ : ∃ s0, S.L[p]? = some s0 := ⟨_, List.getElem?_eq_getElem hp⟩
  have q0 := ho.cellAt (p * 3) (by omega)
  have q1 := ho.cellAt (p * 3 + 1) (by omega)
  have q2 := ho.cellAt (p * 3 + 2) (by omega)
  rw [flat3 S.L p 1 s0 hs0 (by decide)] at q1
  rw [flat3 S.L p 2 s0 hs0 (by decide)] at q2
  have q0' := flat3 S.L p 0 s0 hs0 (by decide)
  rw [Nat.add_zero] at q0'
  rw [q0'] at q0
  simp only [pcells, List.getElem?_cons_zero, List.getElem?_cons_succ] at q0 q1 q2
  have f0 := ho.frozenAt (p * 3)
  have f1 := ho.frozenAt (p * 3 + 1)
  have f2 := ho.frozenAt (p * 3 + 2)
  have HRun := Lib.hid hrun
  have HO := Lib.hid (ownsRow_base0 st3.1)
  have HG := Lib.hid (grown_new (grown_new (grown_new hG st1.2 (by omega)) st2.2 (by omega)) st3.2 (by omega))
  obtain ⟨len, Hlen⟩ : ∃ len, Hid (S.L.length = len) := ⟨_, Lib.hid rfl⟩
  rw [Hlen.out] at HRun HO h6 hp ⊢
  have hpI : (p : Int) < (len : Int) := by omega
  clear hrun ho hg hG hga hb0 hb3 st1 st2 st3 q0' hs0 h hi hz0 hz1 hz2
  go_enter Try.func47, Try.ntmps47
  go_wp2_with (at_builtin; refine append_run rfl (.tmp 8) (.tmp 9) 29 rfl rfl rfl HRun.out ?_)
  go_ret
  exact ⟨_, _, rfl, HO.out, HG.out⟩
end
end Go.Proofs.Ytoopfoapkbjdkaa
