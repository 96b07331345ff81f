/-
  The document's dial: how it lies in memory; what its functions that read tell.
-/
import Derived.Test.YtjligfgaahcogaaAdds
import Derived.Laws.ResultCell
import Derived.Laws.AppendOwnNone
import Derived.Deep.RegionHeld3
import Derived.Deep.CutRange
namespace Go.Proofs.Ytjligfgaahcogaa
open Go.ChangeShapes Go.WideShapes Go.ChangeAt Go.RowKit
set_option linter.unusedVariables false

theorem nvals_append (xs ys : List Nat) : nvals (xs ++ ys) = nvals xs ++ nvals ys := by simp [nvals]
theorem nvals_one {xs : List Nat} : ∀ u ∈ nvals xs, u.oneCell' = true := by
  intro u hu
  obtain ⟨x, _, rfl⟩ := List.mem_map.1 hu
  rfl
/-- a row that is owned, and one that is read, behind it -/
theorem run_append_row {w : World} {base : Nat} {v u : Value} {xs ys : List Nat} (hv : w.ownsRow base 21 1 v xs.length (nvals xs)) {lo : Nat} (hu : NRow lo w u ys) (hl : xs.length + ys.length ≤ 1000000) (hb : base ≤ w.heap.size) :
    ∃ v' w', (Builtin.append_ #[29, 29] 29 #[v, u]).run Try.prog w = .ok v' w' ∧ w'.ownsRow base 21 1 v' (xs ++ ys).length (nvals (xs ++ ys)) ∧ w.grownBy w' v.ownBlock := by
  obtain ⟨i0, hi, hz0, hz1, hz2⟩ := info_parts info21
  obtain ⟨A, cap, rfl, h1, h2, h3, h4⟩ := hu
  cases A with
  | none =>
    have hc := h3 rfl
    subst hc
    have hy : ys = [] := List.eq_nil_of_length_eq_zero (by omega)
    subst hy
    refine ⟨v, w, run_append_owned_none (P := Try.prog) w base 29 29 21 i0 1 Try.underlying29 hi v xs.length _ hv, ?_, World.grownBy.refl _ _⟩
    rw [List.append_nil]; exact hv
  | some ad =>
    obtain ⟨v', w', hrun, ho, hg, _⟩ := run_append_own (P := Try.prog) w base 29 29 21 i0 (.int .i32 0) 1 4 Try.underlying29 hi hz0 hz1 hz2 rfl (by decide) v xs.length (nvals xs) hv ad ys.length cap (nvals ys) (by rw [nvals_length]; omega) (fun j u hj => by
      unfold nvals at hj
      rw [List.getElem?_map] at hj
      obtain ⟨x, hx, rfl⟩ := Option.map_eq_some_iff.1 hj
      rcases h4 with rfl | ⟨b, off, hA, _, _, hc⟩
      · simp at hx
      · cases hA
        rw [Go.WideShapes.add_plain]
        exact hc j x hx) nvals_one (by unfold maxLen; omega) (by omega) hb
    refine ⟨v', w', hrun, ?_, hg⟩
    rw [List.length_append, nvals_append]; exact ho
set_option maxHeartbeats 400000 in
theorem joined_at (v u : Value) (xs ys : List Nat) (w : World) {la lb : Nat} (ha : NRow la w v xs) (hb : NRow lb w u ys) (hl : xs.length + ys.length ≤ 1000000) :
    Calls Try.prog 41 #[v, u] w fun e w' => ∃ r, e = .returned r ∧ w'.ownsRow w.heap.size 21 1 r (xs ++ ys).length (nvals (xs ++ ys)) ∧ w.grownBy w' none := by
  have ho : (w.alloc (.cells #[] 21)).ownsRow w.heap.size 21 1 (.slice (some ⟨w.heap.size, 0, none⟩) 0 0) ([] : List Nat).length (nvals []) := World.ownsRow_made w #[] 0 (Nat.le_refl _) (by decide) rfl
  have hg0 := World.grownBy_alloc w (.cells #[] 21) none
  obtain ⟨v1, w1, hrun1, ho1, hg1⟩ := run_append_row ho (ha.kept hg0) (by simp; omega) (by simp)
  rw [List.nil_append] at ho1
  have hG1 : w.grownBy w1 none := grown_row hg0 hg1 fun r hr => (ho.lt r hr).1
  obtain ⟨v2, w2, hrun2, ho2, hg2⟩ := run_append_row ho1 (hb.kept hG1) hl hG1.size
  have hG2 : w.grownBy w2 none := grown_row hG1 hg2 fun r hr => (ho1.lt r hr).1
  obtain ⟨A, ca, rfl, _⟩ := ha
  obtain ⟨B, cb, rfl, _⟩ := hb
  have HR1 := Lib.hid hrun1
  have HR2 := Lib.hid hrun2
  have HO := Lib.hid ho2
  have HG := Lib.hid hG2
  obtain ⟨A1, c1, rfl⟩ := owns_slice ho1
  obtain ⟨A2, c2, rfl⟩ := owns_slice ho2
  clear hrun1 hrun2 ho ho1 ho2 hg0 hg1 hg2 hG1 hG2
  go_enter Try.func41, Try.ntmps41
  go_wp2_with (first | (at_builtin; refine append_run rfl (.tmp 6) (.tmp 7) 29 rfl rfl rfl HR1.out ?_) | (at_builtin; refine append_run rfl (.tmp 9) (.tmp 10) 29 rfl rfl rfl HR2.out ?_))
  go_ret
  exact ⟨_, rfl, by rw [List.length_append] at HO; rw [List.length_append]; exact HO.out, HG.out⟩
theorem may_ref (n m : Int) (w : World) : Calls Try.prog 8 #[.int .i64 n, .int .i64 m] w fun e w' => e = .returned (.bool (decide (0 ≤ n ∧ n ≤ 65536 ∧ 1 ≤ m ∧ m ≤ 8))) ∧ w = w' := by
  by_cases h1 : 0 ≤ n
  · have hd1 : decide (0 ≤ n) = true := by simp; omega
    by_cases h2 : n ≤ 65536
    · have hd2 : decide (n ≤ 65536) = true := by simp; omega
      by_cases h3 : 1 ≤ m
      · have hd3 : decide (1 ≤ m) = true := by simp; omega
        have e : decide (0 ≤ n ∧ n ≤ 65536 ∧ 1 ≤ m ∧ m ≤ 8) = decide (m ≤ 8) := by simp [h1, h2, h3]
        rw [e]
        go_enter Try.func8, Try.ntmps8
        go_wp2
        go_ret
        exact ⟨rfl, rfl⟩
      · have hd3 : decide (1 ≤ m) = false := by simp; omega
        have e : decide (0 ≤ n ∧ n ≤ 65536 ∧ 1 ≤ m ∧ m ≤ 8) = false := by simp [h3]
        rw [e]
        go_enter Try.func8, Try.ntmps8
        go_wp2
        go_ret
        exact ⟨rfl, rfl⟩
    · have hd2 : decide (n ≤ 65536) = false := by simp; omega
      have e : decide (0 ≤ n ∧ n ≤ 65536 ∧ 1 ≤ m ∧ m ≤ 8) = false := by simp [h2]
      rw [e]
      go_enter Try.func8, Try.ntmps8
      go_wp2
      go_ret
      exact ⟨rfl, rfl⟩
  · have hd1 : decide (0 ≤ n) = false := by simp; omega
    have e : decide (0 ≤ n ∧ n ≤ 65536 ∧ 1 ≤ m ∧ m ≤ 8) = false := by simp [h1]
    rw [e]
    go_enter Try.func8, Try.ntmps8
    go_wp2
    go_ret
    exact ⟨rfl, rfl⟩

/-! ### rows of numbers -/
def ivals (hs : List Nat) : List Value := hs.map fun n : Nat => Value.int .i64 (n : Int)
theorem ivals_snoc (xs : List Nat) (x : Nat) : ivals (xs ++ [x]) = ivals xs ++ [.int .i64 (x : Int)] := by simp [ivals]
theorem ivals_length (xs : List Nat) : (ivals xs).length = xs.length := by simp [ivals]
theorem info3 : (Try.prog.info? 3).map (fun i => (i.zero, i.size, i.bytes)) = some (some (.int .i64 0), 1, 8) := by kernel_rfl
/-- the slice v reads as the numbers hs -/
def IRow (w : World) (v : Value) (hs : List Nat) : Prop :=
  ∃ b off cap, v = .slice (some ⟨b, off, none⟩) hs.length cap ∧ hs.length ≤ cap ∧ cap ≤ maxLen ∧ (∃ cur, w.heap[b]? = some (.cells cur 3 (0, 0))) ∧ ∀ (i x : Nat), hs[i]? = some x → w.cell? ⟨b, off + i, none⟩ = some (.int .i64 (x : Int))
section
variable {w w' : World} {v : Value} {hs : List Nat}
theorem IRow.stay (h : IRow w v hs) (hb : ∀ (b : Nat) (cur : Array Value), w.heap[b]? = some (.cells cur 3 (0, 0)) → w'.heap[b]? = w.heap[b]?) : IRow w' v hs := by
  obtain ⟨b, off, cap, hv, hl, hc, ⟨cur, hcur⟩, hx⟩ := h
  have e := hb b cur hcur
  exact ⟨b, off, cap, hv, hl, hc, ⟨cur, e.trans hcur⟩, fun i x hi => (World.cell?_of_block (a := ⟨b, off + i, none⟩) e).trans (hx i x hi)⟩
theorem IRow.kept (h : IRow w v hs) (hg : w.grownBy w' none) : IRow w' v hs :=
  h.stay fun b cur hb => hg.block b (Array.getElem?_eq_some_iff.1 hb).1 (by simp)
theorem IRow.kp (h : IRow w v hs) {b gL gH : Nat} (hk : Kp b gL gH w w') (hB : ∃ cur, w.heap[b]? = some (.cells cur 60 (0, 0))) (hL : ∃ cur, w.heap[gL]? = some (.cells cur 72 (0, 0))) (hH : ∃ cur, w.heap[gH]? = some (.cells cur 21 (0, 0))) : IRow w' v hs := by
  refine h.stay fun k cur hb => hk.block k (Array.getElem?_eq_some_iff.1 hb).1 ⟨?_, ?_, ?_⟩
  · rintro rfl
    obtain ⟨c, hc⟩ := hB
    exact absurd (type_eq hb hc) (by decide)
  · rintro rfl
    obtain ⟨c, hc⟩ := hL
    exact absurd (type_eq hb hc) (by decide)
  · rintro rfl
    obtain ⟨c, hc⟩ := hH
    exact absurd (type_eq hb hc) (by decide)
theorem IRow.of_owns {lo n : Nat} (h : w.ownsRow lo 3 1 v n (ivals hs)) (hn : n = hs.length) (h0 : 0 < n) : IRow w v hs := by
  subst hn
  rcases h.2 with ⟨rfl, h1⟩ | ⟨g, cap, cur, rfl, hb, hg, h1, h2, h3, h4⟩
  · omega
  · refine ⟨g, 0, cap, rfl, h1, h2, ⟨cur, hg⟩, fun i x hi => ?_⟩
    have hl : i < hs.length := (List.getElem?_eq_some_iff.1 hi).1
    rw [Nat.zero_add, h.cellAt i (by omega)]
    unfold ivals
    rw [List.getElem?_map, hi]; rfl
end
def refV (D : Dl) (vL vH : Value) : Value := .agg #[.int .i64 (D.N : Int), vL, vH]
structure RefAt (lo : Nat) (w : World) (D : Dl) (vL vH : Value) : Prop where
  l : NRow lo w vL D.l
  sh : vL = .slice none 0 0 ∨ ∃ b off n c, vL = .slice (some ⟨b, off, none⟩) n c
  h : IRow w vH D.hs
section
variable {lo : Nat} {w w' : World} {D : Dl} {vL vH : Value}
theorem RefAt.kept (h : RefAt lo w D vL vH) (hg : w.grownBy w' none) : RefAt lo w' D vL vH := ⟨h.l.kept hg, h.sh, h.h.kept hg⟩
theorem RefAt.kp (h : RefAt lo w D vL vH) {b gL gH : Nat} (hk : Kp b gL gH w w') (hB : ∃ cur, w.heap[b]? = some (.cells cur 60 (0, 0))) (hL : ∃ cur, w.heap[gL]? = some (.cells cur 72 (0, 0))) (hH : ∃ cur, w.heap[gH]? = some (.cells cur 21 (0, 0))) (hlo : gH < lo) : RefAt lo w' D vL vH :=
  ⟨h.l.kp hk hB hL hlo, h.sh, h.h.kp hk hB hL hH⟩
/-- what is stored into a box of the document's dials leaves them as they are -/
theorem RefAt.box (h : RefAt lo w D vL vH) (hb : ∀ (k : Nat) (cur : Array Value) (t : TypeId), (t = 21 ∨ t = 3) → w.heap[k]? = some (.cells cur t (0, 0)) → w'.heap[k]? = w.heap[k]?) : RefAt lo w' D vL vH :=
  ⟨h.l.stay fun b cur _ hc => hb b cur 21 (.inl rfl) hc, h.sh, h.h.stay fun b cur hc => hb b cur 3 (.inr rfl) hc⟩
end
/-- boxes of three cells -/
theorem alloc33 (w : World) (x y z x' y' z' : Value) (t : TypeId) : w.grownBy ((w.alloc (.cells #[x, y, z] t)).alloc (.cells #[x', y', z'] t)) none ∧ ((w.alloc (.cells #[x, y, z] t)).alloc (.cells #[x', y', z'] t)).heap.size = w.heap.size + 2 ∧
    ((w.alloc (.cells #[x, y, z] t)).alloc (.cells #[x', y', z'] t)).heap[w.heap.size]? = some (.cells #[x, y, z] t (0, 0)) ∧ ((w.alloc (.cells #[x, y, z] t)).alloc (.cells #[x', y', z'] t)).heap[w.heap.size + 1]? = some (.cells #[x', y', z'] t (0, 0)) := by
  refine ⟨grown_trans (World.grownBy_alloc _ _ none) (World.grownBy_alloc _ _ none), by simp, (Below.heap_alloc _ _ _ (by simp)).trans (heap_alloc_new w _), ?_⟩
  have := heap_alloc_new (w.alloc (.cells #[x, y, z] t)) (.cells #[x', y', z'] t)
  rwa [World.size_alloc] at this
theorem cells3 {w : World} {B : Nat} {x y z : Value} {t : TypeId} (h : w.heap[B]? = some (.cells #[x, y, z] t (0, 0))) : w.cell? ⟨B, 0, none⟩ = some x ∧ w.cell? ⟨B, 1, none⟩ = some y ∧ w.cell? ⟨B, 2, none⟩ = some z ∧ w.frozen? ⟨B, 0, none⟩ = false ∧ w.frozen? ⟨B, 1, none⟩ = false ∧ w.frozen? ⟨B, 2, none⟩ = false ∧ B < w.heap.size :=
  ⟨cell_of_head h 0, cell_of_head h 1, cell_of_head h 2, frozen_of_head h 0, frozen_of_head h 1, frozen_of_head h 2, (Array.getElem?_eq_some_iff.1 h).1⟩
theorem kept2 {w w' : World} {B : Nat} {o : Obj} (h : w.heap[B]? = some o) (hg : w.grownBy w' none) : w'.heap[B]? = some o := (hg.block B (Array.getElem?_eq_some_iff.1 h).1 (by simp)).trans h
theorem fin3 {w : World} {B : Nat} {x y z x' y' z' : Value} {t : TypeId} (h : w.heap[B]? = some (.cells #[x, y, z] t (0, 0))) : (((w.setCell ⟨B, 0, none⟩ x').setCell ⟨B, 1, none⟩ y').setCell ⟨B, 2, none⟩ z').heap[B]? = some (.cells #[x', y', z'] t (0, 0)) := head_set (head_set (head_set h 0 x') 1 y') 2 z'
theorem fin3g {w0 w : World} {B : Nat} {x' y' z' : Value} (hg : w0.grownBy w none) (hB : w0.heap.size ≤ B) : w0.grownBy (((w.setCell ⟨B, 0, none⟩ x').setCell ⟨B, 1, none⟩ y').setCell ⟨B, 2, none⟩ z') none := grown_new (grown_new (grown_new hg (grown_setCell _ _ _ _) hB) (grown_setCell _ _ _ _) hB) (grown_setCell _ _ _ _) hB
theorem RefAt.fin3 {lo : Nat} {w : World} {D : Dl} {vL vH : Value} {B : Nat} {cs : Array Value} {x' y' z' : Value} (h : RefAt lo w D vL vH) (hB : w.heap[B]? = some (.cells cs 32 (0, 0))) : RefAt lo (((w.setCell ⟨B, 0, none⟩ x').setCell ⟨B, 1, none⟩ y').setCell ⟨B, 2, none⟩ z') D vL vH := by
  refine h.box fun k cur t ht hk => ?_
  have hne : k ≠ B := by
    rintro rfl
    have := type_eq hk hB
    rcases ht with rfl | rfl <;> cases this
  exact (heap_setCell_other _ _ _ _ hne).trans ((heap_setCell_other _ _ _ _ hne).trans (heap_setCell_other _ _ _ _ hne))
theorem RefAt.set1 {lo : Nat} {w : World} {D : Dl} {vL vH : Value} {B i : Nat} {cs : Array Value} {x' : Value} (h : RefAt lo w D vL vH) (hB : w.heap[B]? = some (.cells cs 32 (0, 0))) : RefAt lo (w.setCell ⟨B, i, none⟩ x') D vL vH := by
  refine h.box fun k cur t ht hk => ?_
  have hne : k ≠ B := by
    rintro rfl
    have := type_eq hk hB
    rcases ht with rfl | rfl <;> cases this
  exact heap_setCell_other _ _ _ _ hne
theorem results_ref {fn : Func} {p : Tmp} (h : fn.results = #[.cell p 32]) (tmps : Array Value) (w : World) (g : Nat) (t : TypeId) (fr : Nat × Nat) (x y z : Value)
    (hp : tmps.getD p undef = .pointer (some ⟨g, 0, none⟩)) (hg : w.heap[g]? = some (.cells #[x, y, z] t fr)) : (results fn tmps).run Try.prog w = .ok (.agg #[x, y, z]) w := by
  have hp' : tmps[p]?.getD undef = .pointer (some ⟨g, 0, none⟩) := by simpa using hp
  simp only [results, h]
  simp [hp', asAddr, run_loadVar_row w g t 32 #[x, y, z] fr _ hg Try.underlying32 rfl (by kernel_rfl)]
theorem results_ref2 {fn : Func} {p u : Tmp} (h : fn.results = #[.cell p 32, .tmp u]) (tmps : Array Value) (w : World) (g : Nat) (t : TypeId) (fr : Nat × Nat) (x y z : Value)
    (hp : tmps.getD p undef = .pointer (some ⟨g, 0, none⟩)) (hg : w.heap[g]? = some (.cells #[x, y, z] t fr)) : (results fn tmps).run Try.prog w = .ok (.tuple #[.agg #[x, y, z], tmps.getD u undef]) w := by
  rw [results_cell_tmp h, hp]
  simp [asAddr, run_loadVar_row w g t 32 #[x, y, z] fr _ hg Try.underlying32 rfl (by kernel_rfl), Result.andThen]

theorem rnode_at (D : Dl) (vL vH : Value) (n : Int) (w : World) (hn : i32in n) {A B : Option Addr} {a c b d : Nat} (hL : vL = .slice A a c) (hH : vH = .slice B b d) : Calls Try.prog 38 #[refV D vL vH, .int .i32 n] w fun e w' => e = .returned (.bool (inN D.N n)) ∧ w.grownBy w' none := by
  have hw : IntKind.i64.wrap n = n := by unfold i32in at hn; rw [IntKind.wrap_i64]; omega
  subst hL hH
  unfold refV
  by_cases h1 : 0 ≤ n
  · have hd : decide (0 ≤ n) = true := by simp; omega
    have e : inN D.N n = decide (n < (D.N : Int)) := by unfold inN; simp [h1]
    rw [e]
    go_enter Try.func38, Try.ntmps38
    go_wp2
    go_ret
    exact ⟨rfl, World.grownBy_alloc _ _ none⟩
  · have hd : decide (0 ≤ n) = false := by simp; omega
    have e : inN D.N n = false := by unfold inN; simp [h1]
    rw [e]
    go_enter Try.func38, Try.ntmps38
    go_wp2
    go_ret
    exact ⟨rfl, World.grownBy_alloc _ _ none⟩
theorem rhand_at (D : Dl) (vL : Value) (n : Int) (w : World) {A B : Option Addr} {a c d M : Nat} (hL : vL = .slice A a c) : Calls Try.prog 39 #[refV D vL (.slice B M d), .int .i64 n] w fun e w' => e = .returned (.bool (inN M n)) ∧ w.grownBy w' none := by
  subst hL
  unfold refV
  by_cases h1 : 0 ≤ n
  · have hd : decide (0 ≤ n) = true := by simp; omega
    have e : inN M n = decide (n < (M : Int)) := by unfold inN; simp [h1]
    rw [e]
    go_enter Try.func39, Try.ntmps39
    go_wp2
    go_ret
    exact ⟨rfl, World.grownBy_alloc _ _ none⟩
  · have hd : decide (0 ≤ n) = false := by simp; omega
    have e : inN M n = false := by unfold inN; simp [h1]
    rw [e]
    go_enter Try.func39, Try.ntmps39
    go_wp2
    go_ret
    exact ⟨rfl, World.grownBy_alloc _ _ none⟩
/-- where a node stands -/
def PlPost (w : World) (D : Dl) (n : Int) (e : Ending) (w' : World) : Prop :=
  w.grownBy w' none ∧ ((e = .returned (.int .i64 (-1)) ∧ D.has n = false) ∨ ∃ k x : Nat, e = .returned (.int .i64 (k : Int)) ∧ n = (x : Int) ∧ D.l[k]? = some x)
theorem has_none {D : Dl} {n : Int} (h : ∀ x ∈ D.l, ¬ (x : Int) = n) : D.has n = false := by
  cases hh : D.has n with
  | false => rfl
  | true =>
    obtain ⟨h0, hi⟩ := Dl.has_iff.1 hh
    exact absurd (Int.toNat_of_nonneg h0) (h _ hi)
set_option maxHeartbeats 1000000 in
theorem rplace_at {lo : Nat} {w : World} {D : Dl} {vL vH : Value} (h : RefAt lo w D vL vH) (hf : D.l.length ≤ 65536) (n : Int) : Calls Try.prog 30 #[refV D vL vH, .int .i32 n] w (PlPost w D n) := by
  obtain ⟨bH, oH, cH, rfl, _⟩ := h.h
  obtain ⟨A, c, rfl, hlc, hcm, hz, hr⟩ := h.l
  unfold refV
  have HR := Lib.hid hr
  obtain ⟨L, HL⟩ : ∃ L, Hid (D.l.length = L) := ⟨_, Lib.hid rfl⟩
  obtain ⟨M, HM⟩ : ∃ M, Hid (D.hs.length = M) := ⟨_, Lib.hid rfl⟩
  rw [HL.out] at hf hlc ⊢
  rw [HM.out]
  have hg0 := World.grownBy_alloc w (.cells #[.int .i64 (D.N : Int), .slice A L c, .slice (some ⟨bH, oH, none⟩) M cH] 32) none
  obtain ⟨b0, b1, b2, _, _, _, hbl⟩ := cells3 (heap_alloc_new w (.cells #[.int .i64 (D.N : Int), .slice A L c, .slice (some ⟨bH, oH, none⟩) M cH] 32))
  have HG := Lib.hid hg0
  clear h hr hz hg0
  go_enter Try.func30, Try.ntmps30
  go_wp2_with fail
  generalize w.alloc (.cells #[.int .i64 (D.N : Int), .slice A L c, .slice (some ⟨bH, oH, none⟩) M cH] 32) = w0 at *
  go_loop [5] (fun k => ∃ k' : Nat, k' ≤ L ∧ k = .int .i64 (k' : Int) ∧ Hid (∀ x ∈ D.l.take k', ¬ (x : Int) = n)) (fun k => L - (intOf k).toNat)
  case atStart => exact ⟨0, Nat.zero_le _, by go_num, Lib.hid fun x hx => by simp at hx⟩
  case round =>
    obtain ⟨k, hk, rfl, HK⟩ := hrel
    by_cases hlt2 : k < L
    · have hx0 : ¬ D.l = [] := by intro e; have := HL.out; rw [e] at this; simp at this; omega
      obtain ⟨b1', o1, rfl, _, _, hc1⟩ := HR.out.resolve_left hx0
      obtain ⟨x, Hx⟩ : ∃ x, Hid (D.l[k]? = some x) := ⟨_, Lib.hid (List.getElem?_eq_getElem (by rw [HL.out]; exact hlt2))⟩
      have hcx := HG.out.cell (hc1 k x Hx.out) (by simp)
      have hkI : (k : Int) < (L : Int) := by omega
      clear hc1 hx0
      by_cases hxn : (x : Int) = n
      · have hbq : ((x : Int) == n) = true := by simp [hxn]
        go_wp2
        go_ret
        exact ⟨HG.out, .inr ⟨k, x, rfl, hxn.symm, Hx.out⟩⟩
      · have hbq : ((x : Int) == n) = false := by simp [hxn]
        have HK2 : Hid (∀ y ∈ D.l.take (k + 1), ¬ (y : Int) = n) := Lib.hid fun y hy => by
          rw [take_snoc Hx.out] at hy
          rcases List.mem_append.1 hy with hy | hy
          · exact HK.out y hy
          · simp at hy; subst hy; exact hxn
        go_wp2
        go_round
        case rel => exact ⟨k + 1, by omega, by go_num, HK2⟩
        case measure => simp [intOf]; omega
    · obtain rfl : k = L := by omega
      have HE : Hid (D.has n = false) := Lib.hid (has_none fun x hx => HK.out x (by rw [List.take_of_length_le (by rw [HL.out]; exact Nat.le_refl _)]; exact hx))
      go_wp2
      go_ret
      exact ⟨HG.out, .inl ⟨rfl, HE.out⟩⟩
end Go.Proofs.Ytjligfgaahcogaa
