/-
  The document's rows of nodes: one behind another, and from the end.
-/
import Derived.Test.YtmjccpgkgkindaaRows2
import Derived.Laws.AppendOwnNone
namespace Go.Proofs.Ytmjccpgkgkindaa
open Go.ChangeShapes Go.WideShapes Go.ChangeAt Go.RowKit
set_option linter.unusedVariables false

theorem nvals_append (xs ys : List Nat) : nvals (xs ++ ys) = nvals xs ++ nvals ys := by simp [nvals]
theorem nvals_one {xs : List Nat} : ∀ u ∈ nvals xs, u.oneCell' = true := by
  intro u hu
  obtain ⟨x, _, rfl⟩ := List.mem_map.1 hu
  rfl
/-- a row that is owned, and one that is read, behind it -/
theorem run_append_row {w : World} {base : Nat} {v u : Value} {xs ys : List Nat} (hv : w.ownsRow base 21 1 v xs.length (nvals xs)) (hu : NRow w u ys) (hl : xs.length + ys.length ≤ 1000000) (hb : base ≤ w.heap.size) :
    ∃ v' w', (Builtin.append_ #[43, 43] 43 #[v, u]).run Try.prog w = .ok v' w' ∧ w'.ownsRow base 21 1 v' (xs ++ ys).length (nvals (xs ++ ys)) ∧ w.grownBy w' v.ownBlock := by
  obtain ⟨i0, hi, hz0, hz1, hz2⟩ := info_parts info21
  obtain ⟨A, cap, rfl, h1, h2, h3, h4⟩ := hu
  cases A with
  | none =>
    have hc := h3 rfl
    subst hc
    have hy : ys = [] := List.eq_nil_of_length_eq_zero (by omega)
    subst hy
    refine ⟨v, w, run_append_owned_none (P := Try.prog) w base 43 43 21 i0 1 Try.underlying43 hi v xs.length _ hv, ?_, World.grownBy.refl _ _⟩
    rw [List.append_nil]; exact hv
  | some ad =>
    obtain ⟨v', w', hrun, ho, hg, _⟩ := run_append_own (P := Try.prog) w base 43 43 21 i0 (.int .i32 0) 1 4 Try.underlying43 hi hz0 hz1 hz2 rfl (by decide) v xs.length (nvals xs) hv ad ys.length cap (nvals ys) (by rw [nvals_length]; omega) (fun j u hj => by
      unfold nvals at hj
      rw [List.getElem?_map] at hj
      obtain ⟨x, hx, rfl⟩ := Option.map_eq_some_iff.1 hj
      rcases h4 with rfl | ⟨b, off, hA, _, hc⟩
      · simp at hx
      · cases hA
        rw [Go.WideShapes.add_plain]
        exact hc j x hx) nvals_one (by unfold maxLen; omega) (by omega) hb
    refine ⟨v', w', hrun, ?_, hg⟩
    rw [List.length_append, nvals_append]; exact ho
set_option maxHeartbeats 400000 in
theorem joined_at (v u : Value) (xs ys : List Nat) (w : World) (ha : NRow w v xs) (hb : NRow w u ys) (hl : xs.length + ys.length ≤ 1000000) :
    Calls Try.prog 18 #[v, u] w fun e w' => ∃ r, e = .returned r ∧ w'.ownsRow w.heap.size 21 1 r (xs ++ ys).length (nvals (xs ++ ys)) ∧ w.grownBy w' none := by
  have ho : (w.alloc (.cells #[] 21)).ownsRow w.heap.size 21 1 (.slice (some ⟨w.heap.size, 0, none⟩) 0 0) ([] : List Nat).length (nvals []) := World.ownsRow_made w #[] 0 (Nat.le_refl _) (by decide) rfl
  have hg0 := World.grownBy_alloc w (.cells #[] 21) none
  obtain ⟨v1, w1, hrun1, ho1, hg1⟩ := run_append_row ho (ha.kept hg0) (by simp; omega) (by simp)
  rw [List.nil_append] at ho1
  have hG1 : w.grownBy w1 none := grown_row hg0 hg1 fun r hr => (ho.lt r hr).1
  obtain ⟨v2, w2, hrun2, ho2, hg2⟩ := run_append_row ho1 (hb.kept hG1) hl hG1.size
  have hG2 : w.grownBy w2 none := grown_row hG1 hg2 fun r hr => (ho1.lt r hr).1
  obtain ⟨A, ca, rfl, _⟩ := ha
  obtain ⟨B, cb, rfl, _⟩ := hb
  have HR1 := Lib.hid hrun1
  have HR2 := Lib.hid hrun2
  have HO := Lib.hid ho2
  have HG := Lib.hid hG2
  obtain ⟨A1, c1, rfl⟩ := owns_slice ho1
  obtain ⟨A2, c2, rfl⟩ := owns_slice ho2
  clear hrun1 hrun2 ho ho1 ho2 hg0 hg1 hg2 hG1 hG2
  go_enter Try.func18, Try.ntmps18
  go_wp2_with (first | (at_builtin; refine append_run rfl (.tmp 6) (.tmp 7) 43 rfl rfl rfl HR1.out ?_) | (at_builtin; refine append_run rfl (.tmp 9) (.tmp 10) 43 rfl rfl rfl HR2.out ?_))
  go_ret
  exact ⟨_, rfl, by rw [List.length_append] at HO; rw [List.length_append]; exact HO.out, HG.out⟩
set_option maxHeartbeats 1000000 in
theorem turned_at (v : Value) (xs : List Nat) (w : World) (ha : NRow w v xs) (hl : xs.length ≤ 1000000) :
    Calls Try.prog 23 #[v] w fun e w' => ∃ r, e = .returned r ∧ w'.ownsRow w.heap.size 21 1 r xs.length (nvals xs.reverse) ∧ w.grownBy w' none := by
  obtain ⟨i0, hi, hz0, hz1, hz2⟩ := info_parts info21
  have HI := Lib.hid hi
  have HZ0 := Lib.hid hz0
  have HZ1 := Lib.hid hz1
  have HZ2 := Lib.hid hz2
  clear hi hz0 hz1 hz2
  have HA := Lib.hid ha
  obtain ⟨A, ca, rfl, _, _, _, hA⟩ := ha
  have HAA := Lib.hid hA
  clear hA
  obtain ⟨n, Hn⟩ : ∃ n, Hid (xs.length = n) := ⟨_, Lib.hid rfl⟩
  rw [Hn.out] at HA hl ⊢
  go_enter Try.func23, Try.ntmps23
  go_wp2_with fail
  go_loopw [3, 4] (fun v i wr => ∃ k : Nat, k ≤ n ∧ i = .int .i64 ((n : Int) - 1 - (k : Int)) ∧ Hid (wr.ownsRow w.heap.size 21 1 v k (nvals (xs.reverse.take k))) ∧ Hid (w.grownBy wr none)) (fun v _ _ => n - slen v)
  case atStart => exact ⟨0, Nat.zero_le _, by simp, Lib.hid (World.ownsRow_nil _ _ _ _), Lib.hid (World.grownBy.refl _ _)⟩
  case round =>
    obtain ⟨k, hk, rfl, HR, HG⟩ := hrel
    obtain ⟨A1, cap1, rfl⟩ := owns_slice HR.out
    by_cases hlt : k < n
    · obtain ⟨m, hm⟩ : ∃ m : Nat, (n : Int) - 1 - (k : Int) = (m : Int) := ⟨n - 1 - k, by omega⟩
      have hmn : m < n := by omega
      have hx0 : ¬ xs = [] := by intro e; have := Hn.out; rw [e] at this; simp at this; omega
      obtain ⟨b1, o1, rfl, _, hc1⟩ := HAA.out.resolve_left hx0
      obtain ⟨x, Hx⟩ : ∃ x, Hid (xs[m]? = some x) := ⟨_, Lib.hid (List.getElem?_eq_getElem (by rw [Hn.out]; exact hmn))⟩
      have Hxr : Hid (xs.reverse[k]? = some x) := Lib.hid (by rw [List.getElem?_reverse (by rw [Hn.out]; exact hlt), Hn.out, show n - 1 - k = m by omega]; exact Hx.out)
      have hcell := HG.out.cell (hc1 m x Hx.out) (by simp)
      obtain ⟨g', cap', w1, hrun, ho, hgr, hft⟩ := run_append_foot (P := Try.prog) (wr.alloc (.cells #[.int .i32 (x : Int)] 21)) w.heap.size 43 43 21 i0 (.int .i32 0) 1 4 Try.underlying43 HI.out HZ0.out HZ1.out HZ2.out rfl (by decide) (.slice A1 k cap1) k (nvals (xs.reverse.take k)) (HR.out.alloc _) ⟨wr.heap.size, 0, none⟩ 1 [.int .i32 (x : Int)] rfl (cell_new1 wr 21 _) (by simp [Value.oneCell']) (by unfold maxLen; omega) (by omega) (by have := HG.out.size; simp; omega)
      have HR1 : Hid (w1.ownsRow w.heap.size 21 1 (.slice (some ⟨g', 0, none⟩) (k + 1) cap') (k + 1) (nvals (xs.reverse.take (k + 1)))) := Lib.hid (by rw [take_snoc Hxr.out, nvals_snoc]; exact ho)
      have HG1 : Hid (w.grownBy w1 none) := Lib.hid (grown_row (grown_trans HG.out (World.grownBy_alloc _ _ none)) hgr fun r hr => (HR.out.lt r hr).1)
      have HRUN := Lib.hid hrun
      clear hrun ho hgr hft hc1 hx0
      rw [hm]
      have hmE := Lib.hid hm
      clear hm
      go_wp2_with (at_builtin; refine append_run rfl (.tmp 12) (.tmp 17) 43 rfl rfl rfl HRUN.out ?_)
      go_roundw
      case rel => exact ⟨k + 1, by omega, by have := hmE.out; first | (congr 1; omega) | go_num, HR1, HG1⟩
      case measure => simp only [slen]; omega
    · obtain rfl : k = n := by omega
      have HF : Hid (wr.ownsRow w.heap.size 21 1 (.slice A1 k cap1) k (nvals xs.reverse)) := Lib.hid (by
        have := HR.out
        rwa [List.take_of_length_le (by rw [List.length_reverse, Hn.out]; exact Nat.le_refl _)] at this)
      have hd : ((k : Int) - 1 - (k : Int)) = -1 := by omega
      rw [hd]
      clear HR
      go_wp2
      go_ret
      exact ⟨_, rfl, HF.out, HG.out⟩
end Go.Proofs.Ytmjccpgkgkindaa
