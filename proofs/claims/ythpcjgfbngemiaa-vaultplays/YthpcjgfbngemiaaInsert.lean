/-
  A gap is put into a row of gaps: slices.Insert.
-/
import Derived.Test.YthpcjgfbngemiaaInsM
import Derived.Laws.Externs
namespace Go.Proofs.Ythpcjgfbngemiaa
open Go.ChangeShapes Go.WideShapes Go.ChangeAt Go.RowKit
set_option linter.unusedVariables false
set_option maxRecDepth 100000
theorem append_runT {P : Program} {w : World} {ops : Array Oper} {rest : List Oper} {o : Oper} {a : Act} {Q : Exit → Act → World → Prop} (hg : o.guard = none) (s x : Operand) (t t' : TypeId)
    (hop : o.op = Op.call { callee := Callee.builtin Builtin.append, args := #[s, x], argTypes := #[t, t'] }) {v u v' : Value} {w' : World} (hs : a.eval s = v) (hx : a.eval x = u)
    (hrun : (Builtin.append_ #[t, t'] o.type #[v, u]).run P w = .ok v' w') (hK : wpList P ops Q rest (a.put o.dst v') w') : wpList P ops Q (o :: rest) a w := by
  refine wpList_plain hg fun K k => ?_
  unfold Oper.wp
  simp [execOp, hop, resolve, invoke, builtin, hs, hx, hrun, Result.andThen]
  exact k _ _ hK
section
variable {w : World} {lo g q n c i : Nat} {l : List (Int × Int)} {x : Int × Int}
theorem overlaps_no {cur : Array Value} {A B : Array Value} {a b la ca lb cb : Nat} (hq : w.heap[q]? = some (.cells A 76 (0, 0))) (hg : w.heap[g]? = some (.cells B 76 (0, 0))) (hB : B.size ≠ 0) (hne : q ≠ g) :
    (callFunc 53 #[.slice (some ⟨q, a, none⟩) la ca, .slice (some ⟨g, b, none⟩) lb cb]).run Try.prog w = .ok (.value (.bool false)) w := by
  rw [run_callFunc_extern Try.func53 (by kernel_rfl) (by kernel_rfl) (by kernel_rfl) (e := Extern.SlicesOverlaps.overlaps #[54, 54] #[4]) (by kernel_rfl),
    Lib.run_overlaps_apart w 54 4 76 Try.underlying54 2 (fun w => by obtain ⟨i, h1, _, h3, _⟩ := info_parts info76; simp [sizeOf, typeInfo, h1, h3]) ⟨q, a, none⟩ ⟨g, b, none⟩ la ca lb cb hne 76 76 A.size B.size (by simp [World.shape?, hq]) (by simp [World.shape?, hg]) hB (frozen_of_head hq _) (frozen_of_head hq _)]
  rfl
/-- what Insert leaves -/
def InsPost (w : World) (lo : Nat) (v : Value) (l : List (Int × Int)) (e : Ending) (w' : World) : Prop := ∃ g' c', e = .returned (.slice (some ⟨g', 0, none⟩) l.length c') ∧ GRow w' lo (.slice (some ⟨g', 0, none⟩) l.length c') l ∧ w.grownBy w' v.ownBlock ∧ (v.ownBlock = some g' ∨ w.heap.size ≤ g')
set_option maxHeartbeats 400000 in
theorem insert_end {A : Option Addr} (h : GRow w lo (.slice A l.length c) l) (hq : w.heap[q]? = some (.cells #[.int .i64 x.1, .int .i64 x.2] 76 (0, 0))) (hn : l.length ≤ 1000000) (hlo : lo ≤ w.heap.size) :
    Calls Try.prog 37 #[.slice A l.length c, .int .i64 (l.length : Int), .slice (some ⟨q, 0, none⟩) 1 1] w (InsPost w lo (.slice A l.length c) (l ++ [x])) := by
  obtain ⟨i0, hi0, hz0, hz1, hz2⟩ := info_parts info76
  obtain ⟨g', cap', w', hrun, ho, hg, hft⟩ := run_append_foot (P := Try.prog) w lo 54 54 76 i0 _ 2 16 Try.underlying54 hi0 hz0 hz1 hz2 rfl (by decide) (.slice A l.length c) l.length (gvals l) h ⟨q, 0, none⟩ 1 (genc x) rfl (cells_x hq) (genc_one x) (by unfold maxLen; omega) (by omega) hlo
  have HRun := Lib.hid hrun
  have HO : Hid (InsPost w lo (.slice A l.length c) (l ++ [x]) (.returned (.slice (some ⟨g', 0, none⟩) (l.length + 1) cap')) w') := Lib.hid ⟨g', cap', by simp, by
    unfold GRow
    rw [gvals_append, show gvals [x] = genc x from List.append_nil _]
    simpa using ho, hg, hft⟩
  have hcap := owns_cap h
  obtain ⟨n, HN⟩ : ∃ n, Hid (l.length = n) := ⟨_, Lib.hid rfl⟩
  rw [HN.out] at HRun HO hcap hn ⊢
  have HA : Hid (A = none → n = 0 ∧ c = 0) := Lib.hid fun hA => by
    subst hA
    rcases h.2 with ⟨e, h0⟩ | ⟨_, _, _, e, _⟩
    · injection e with _ _ e; exact ⟨by rw [← HN.out]; exact h0, e⟩
    · simp at e
  have HA2 : Hid (∀ a, A = some a → ∃ g, a = ⟨g, 0, none⟩) := Lib.hid fun a hA => by
    subst hA
    rcases h.2 with ⟨e, h0⟩ | ⟨g, _, _, e, _⟩
    · simp at e
    · injection e with e; injection e with e; exact ⟨g, e⟩
  clear h hrun ho hg hft hi0 hz0 hz1 hz2
  have k1 : (0 : Int) ≤ (n : Int) := by omega
  cases A with
  | none =>
    obtain ⟨rfl, rfl⟩ := HA.out rfl
    go_enter Try.func37, Try.ntmps37
    go_wp2_with (at_builtin; refine append_run rfl (.tmp 23) (.tmp 24) 54 rfl rfl rfl HRun.out ?_)
    go_ret
    exact HO.out
  | some a =>
    obtain ⟨g, rfl⟩ := HA2.out a rfl
    by_cases hc : c = n
    · subst hc
      go_enter Try.func37, Try.ntmps37
      go_wp2_with (at_builtin; refine append_run rfl (.tmp 23) (.tmp 24) 54 rfl rfl rfl HRun.out ?_)
      go_ret
      exact HO.out
    · have k2 : (n : Int) ≤ (c : Int) := by omega
      have k3 : ¬ (c : Int) = (n : Int) := by omega
      go_enter Try.func37, Try.ntmps37
      go_wp2_with (at_builtin; refine append_run rfl (.tmp 23) (.tmp 24) 54 rfl rfl rfl HRun.out ?_)
      go_ret
      exact HO.out
set_option maxHeartbeats 400000 in
theorem insert_room (h : GRow w lo (.slice (some ⟨g, 0, none⟩) l.length c) l) (hq : w.heap[q]? = some (.cells #[.int .i64 x.1, .int .i64 x.2] 76 (0, 0))) (hgq : q ≠ g) (hn : l.length ≤ 1000000) (hi : i < l.length) (hc : l.length + 1 ≤ c) :
    Calls Try.prog 37 #[.slice (some ⟨g, 0, none⟩) l.length c, .int .i64 (i : Int), .slice (some ⟨q, 0, none⟩) 1 1] w (InsPost w lo (.slice (some ⟨g, 0, none⟩) l.length c) (ins l i x)) := by
  obtain ⟨n, HN⟩ : ∃ n, Hid (l.length = n) := ⟨_, Lib.hid rfl⟩
  have hov : ∀ b la ca lb cb, (callFunc 53 #[.slice (some ⟨q, 0, none⟩) la ca, .slice (some ⟨g, b, none⟩) lb cb]).run Try.prog w = .ok (.value (.bool false)) w := fun b la ca lb cb => by
    rcases h.2 with ⟨e, _⟩ | ⟨g', cap', cur, e, hbg, hgb, hnc, hcm, hcs, ht⟩
    · simp at e
    · simp only [Value.slice.injEq, Option.some.injEq, Addr.mk.injEq, and_true, true_and] at e
      obtain ⟨rfl, rfl⟩ := e
      exact overlaps_no (cur := cur) hq hgb (by rw [hcs]; omega) hgq
  have HM : Hid (∀ w4, w.grownBy w4 none → _) := Lib.hid fun w4 (hg4 : w.grownBy w4 none) => ins_room (x := x) (q := q) (owns_stay h fun k hk => hg4.block k (h.lt k hk).2 (by simp)) HN.out (by rw [← HN.out]; exact hi) (by rw [← HN.out]; exact hc) (kept2 hq hg4) hgq 3
  have HLn := Lib.hid (ins_len (x := x) (Nat.le_of_lt hi))
  rw [HN.out] at hn hi hc HLn ⊢
  clear h hq
  have k1 : (0 : Int) ≤ (i : Int) := by omega
  have k2 : (i : Int) ≤ (n : Int) := by omega
  have k3 : (i : Int) ≤ (c : Int) := by omega
  have k4 : ¬ (c : Int) = (i : Int) := by omega
  have k5 : ¬ (i : Int) = (n : Int) := by omega
  have k6 : ¬ (c : Int) < (n : Int) + 1 := by omega
  have k7 : (n : Int) + 1 ≤ (c : Int) := by omega
  have k8 : (0 : Int) ≤ (i : Int) + 1 := by omega
  have k9 : (i : Int) + 1 ≤ (n : Int) + 1 := by omega
  have k10 : (i : Int) + 1 ≤ (c : Int) := by omega
  have k11 : ¬ (c : Int) = (i : Int) + 1 := by omega
  have k12 : (i : Int) ≤ (n : Int) + 1 := by omega
  have k13 : (0 : Int) ≤ (n : Int) + 1 := by omega
  go_enter Try.func37, Try.ntmps37
  go_wp2_with fail
  refine region_tail 8 (by kernel_rfl) (by kernel_rfl) ?_
  intro w4 hw4
  have HG4 : Hid (w.grownBy w4 none) := Lib.hid (by rw [hw4]; exact grown_drewN w 1 none)
  have e3 : IntKind.i64.wrap ((i : Int) + 1) = (i : Int) + 1 := by rw [IntKind.wrap_i64]; omega
  obtain ⟨w5, w6, hr5, hr6, ho6, hg5, hg6⟩ := HM.out w4 HG4.out
  have HO6 : Hid (InsPost w lo (.slice (some ⟨g, 0, none⟩) n c) (ins l i x) (.returned (.slice (some ⟨g, 0, none⟩) (n + 1) c)) w6) := Lib.hid (by
    refine ⟨g, c, by rw [HLn.out], ?_, grown_trans (grown_trans (grown_any HG4.out _) hg5) hg6, .inl rfl⟩
    unfold GRow
    rw [HLn.out]
    exact ho6)
  clear hw4 ho6 hg5 hg6 HG4 HM HLn hov
  simp only [List.take_succ_cons, List.take_zero, List.drop_succ_cons, List.drop_zero]
  repeat still_step
  refine wpStill_nil ?_
  go_wp2_with fail
  go_ret
  exact HO6.out
set_option maxHeartbeats 400000 in
theorem insert_grow (h : GRow w lo (.slice (some ⟨g, 0, none⟩) l.length c) l) (hq : w.heap[q]? = some (.cells #[.int .i64 x.1, .int .i64 x.2] 76 (0, 0))) (hn : l.length ≤ 1000000) (hi : i < l.length) (hc : c < l.length + 1) (hlo : lo ≤ w.heap.size) :
    Calls Try.prog 37 #[.slice (some ⟨g, 0, none⟩) l.length c, .int .i64 (i : Int), .slice (some ⟨q, 0, none⟩) 1 1] w (InsPost w lo (.slice (some ⟨g, 0, none⟩) l.length c) (ins l i x)) := by
  obtain ⟨n, HN⟩ : ∃ n, Hid (l.length = n) := ⟨_, Lib.hid rfl⟩
  have hcap := owns_cap h
  have HM := ins_grow1 (x := x) (i := i) h HN.out (by rw [← HN.out]; exact hi) (by rw [← HN.out]; exact hc) (by rw [← HN.out]; exact hn) hq 54 3
  obtain ⟨cap', w0, w1, cur1, hr0, hge, hle, hr1, hb1, hs1, ht1, hg1⟩ := HM
  have HM2 : Hid (∀ w4, w1.grownBy w4 none → _) := Lib.hid fun w4 (hg4 : w1.grownBy w4 none) => ins_grow2 (x := x) (i := i) (owns_stay h fun k hk => (grown_trans hg1 hg4).block k (h.lt k hk).2 (by simp)) HN.out (by rw [← HN.out]; exact hi) hge hle (kept2 hb1 hg4) hs1 ht1 hlo 3
  have HLn := Lib.hid (ins_len (x := x) (Nat.le_of_lt hi))
  rw [HN.out] at hn hi hc HLn hcap ⊢
  have HG1 := Lib.hid hg1
  have HR0 := Lib.hid hr0
  obtain rfl : c = n := by omega
  clear h hq hb1 hs1 ht1 hg1 hr0 hcap hc hle
  have k1 : (0 : Int) ≤ (i : Int) := by omega
  have k2 : (i : Int) ≤ (c : Int) := by omega
  have k4 : ¬ (c : Int) = (i : Int) := by omega
  have k5 : ¬ (i : Int) = (c : Int) := by omega
  have k6 : (c : Int) < (c : Int) + 1 := by omega
  have k8 : (0 : Int) ≤ (i : Int) + 1 := by omega
  have k9 : (i : Int) + 1 ≤ (c : Int) + 1 := by omega
  have k10 : (i : Int) + 1 ≤ (cap' : Int) := by omega
  have k11 : ¬ (cap' : Int) = (i : Int) + 1 := by omega
  have k12 : (i : Int) ≤ (c : Int) + 1 := by omega
  have k13 : (i : Int) ≤ (cap' : Int) := by omega
  have k14 : ¬ (cap' : Int) = (i : Int) := by omega
  go_enter Try.func37, Try.ntmps37
  go_wp2_with (at_builtin; refine append_runT rfl (.tmp 34) (.tmp 39) 54 3 rfl rfl rfl (HR0.out _ (by omega)) ?_)
  refine region_tail 8 (by kernel_rfl) (by kernel_rfl) ?_
  intro w4 hw4
  have HG4 : Hid (w1.grownBy w4 none) := Lib.hid (by rw [hw4]; exact grown_drewN w1 1 none)
  have e3 : IntKind.i64.wrap ((i : Int) + 1) = (i : Int) + 1 := by rw [IntKind.wrap_i64]; omega
  obtain ⟨w6, hr6, ho6, hg6⟩ := HM2.out w4 HG4.out
  have HO6 : Hid (InsPost w lo (.slice (some ⟨g, 0, none⟩) c c) (ins l i x) (.returned (.slice (some ⟨w.heap.size, 0, none⟩) (c + 1) cap')) w6) := Lib.hid (by
    refine ⟨w.heap.size, cap', by rw [HLn.out], ?_, grown_any (grown_new (grown_trans HG1.out HG4.out) hg6 (Nat.le_refl _)) _, .inr (Nat.le_refl _)⟩
    unfold GRow
    rw [HLn.out]
    exact ho6)
  clear hw4 ho6 hg6 HG4 HM2 HLn HR0 hr1
  simp only [List.take_succ_cons, List.take_zero, List.drop_succ_cons, List.drop_zero]
  repeat still_step
  refine wpStill_nil ?_
  go_wp2_with fail
  go_ret
  exact HO6.out
/-- a gap is put in at a place -/
theorem insert_at {A : Option Addr} (h : GRow w lo (.slice A l.length c) l) (hq : w.heap[q]? = some (.cells #[.int .i64 x.1, .int .i64 x.2] 76 (0, 0))) (hgq : A = none ∨ ∃ a, A = some a ∧ q ≠ a.block) (hn : l.length ≤ 1000000) (hi : i ≤ l.length) (hlo : lo ≤ w.heap.size) :
    Calls Try.prog 37 #[.slice A l.length c, .int .i64 (i : Int), .slice (some ⟨q, 0, none⟩) 1 1] w (InsPost w lo (.slice A l.length c) (ins l i x)) := by
  by_cases hil : i = l.length
  · subst hil
    have e : ins l l.length x = l ++ [x] := by unfold ins; rw [List.take_length, List.drop_length]
    rw [e]
    exact insert_end h hq hn hlo
  · obtain ⟨g, cap', e⟩ := owns_some h (by omega)
    injection e with e1 _ _
    subst e1
    have hgq' : q ≠ g := by
      rcases hgq with e | ⟨a, e, h'⟩
      · cases e
      · injection e with e; subst e; exact h'
    by_cases hc : l.length + 1 ≤ c
    · exact insert_room h hq hgq' hn (by omega) hc
    · exact insert_grow h hq hn (by omega) (by omega) hlo
end
end Go.Proofs.Ythpcjgfbngemiaa
