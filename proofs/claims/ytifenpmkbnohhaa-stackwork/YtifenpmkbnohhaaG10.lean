/-
  The library's IndexFunc and DeleteFunc with the program's own closures.
  The library's DeleteFunc with the program's own closures.
  Configs: which may be, how many pages may be hot.
-/
import Derived.Test.YtifenpmkbnohhaaG09
import Derived.Shelf.Abstract
import Derived.Test.YtifenpmkbnohhaaG06
namespace Go.Proofs.Ytifenpmkbnohhaa
open Go.RowKit
open Go.Proofs.StackM
set_option linter.unusedVariables false
set_option maxHeartbeats 400000 in
theorem clo82 (p : Pg) (k : Int) (q : Nat) (w : World) (hq : w.cell? ⟨q, 0, none⟩ = some (.int .u64 k)) :
    Calls Try.prog 82 #[.agg #[.int .u64 p.key, .int .i64 p.kind, .bool p.test, .bool p.mark], .pointer (some ⟨q, 0, none⟩)] w fun e w' => e = .returned (.bool (decide (p.key = k))) ∧ Below w.heap.size w w' := by
  obtain ⟨y, hy⟩ : ∃ y, y = p.key := ⟨_, rfl⟩
  rw [← hy]
  clear hy
  have hlt := Lib.lt_of_cell hq
  by_cases hk : y = k
  · subst hk
    have hq2 : (w.alloc (.cells #[.int .u64 y, .int .i64 p.kind, .bool p.test, .bool p.mark] 59)).cell? ⟨q, 0, none⟩ = some (.int .u64 y) := by rw [(alloc_below w _).cell hlt]; exact hq
    go_enter Try.func82, Try.ntmps82
    go_wp2
    go_ret
    exact ⟨by simp, alloc_below _ _⟩
  · have hq2 : (w.alloc (.cells #[.int .u64 y, .int .i64 p.kind, .bool p.test, .bool p.mark] 59)).cell? ⟨q, 0, none⟩ = some (.int .u64 k) := by rw [(alloc_below w _).cell hlt]; exact hq
    go_enter Try.func82, Try.ntmps82
    go_wp2
    go_ret
    exact ⟨by simp [hk], alloc_below _ _⟩
theorem fi_some {l : List Pg} {k : Int} {i : Nat} (hi : i < l.length) (h : l[i].key = k) (hj : ∀ j (h1 : j < i) (h2 : j < l.length), l[j].key ≠ k) : fi l k = (i : Int) := by rw [fi, fnd_some hi h hj]
theorem fi_none {l : List Pg} {k : Int} (hj : ∀ j (h2 : j < l.length), l[j].key ≠ k) : fi l k = -1 := by rw [fi, fnd_none hj]
theorem e82 : ∀ args w, (callFunc 82 args).run Try.prog w = .ok (.enter 82 args) w := enters_of Try.func82 (by kernel_rfl) rfl
set_option maxHeartbeats 1000000 in
set_option maxRecDepth 100000 in
theorem ixp_at (l : List Pg) (k : Int) (A : Option Addr) (n cap q : Nat) (hn : n = l.length) (hb : n ≤ 1000000) (w : World) (hr : PRow w A cap l) (hq : w.cell? ⟨q, 0, none⟩ = some (.int .u64 k)) :
    Calls Try.prog 92 #[.slice A n cap, .func (.func 82) #[] #[.pointer (some ⟨q, 0, none⟩)]] w fun e w' => e = .returned (.int .i64 (fi l k)) ∧ Below w.heap.size w w' := by
  obtain ⟨r, hrr⟩ : ∃ r, r = fi l k := ⟨_, rfl⟩
  rw [← hrr]
  have HR := Lib.hid hrr
  have HN := Lib.hid hn
  have HP := Lib.hid hr
  have HQ := Lib.hid hq
  have hlq := Lib.lt_of_cell hq
  clear hrr hn hr hq
  go_enter Try.func92, Try.ntmps92
  go_wp2
  go_loopw [5, 8] (fun _ i wr => ∃ m : Nat, m ≤ n ∧ i = .int .i64 (m : Int) ∧ Hid (Below w.heap.size w wr) ∧ Hid (∀ j (h1 : j < m) (h2 : j < l.length), l[j].key ≠ k)) (fun _ i _ => n - (intOf i).toNat)
  case atStart => exact ⟨0, by omega, by go_num, Lib.hid (Below.refl _ _), Lib.hid (fun j h1 => absurd h1 (by omega))⟩
  case round =>
    obtain ⟨m, hm, rfl, HB, HK⟩ := hrel
    by_cases hlt : m < n
    · have hml : m < l.length := by have := HN.out; omega
      obtain ⟨b, off, rfl, hc⟩ := (PRow.kept HP.out HB.out).at hml
      obtain ⟨c0, c1, c2, c3⟩ := hc m hml
      have hcq : wr.cell? ⟨q, 0, none⟩ = some (.int .u64 k) := by rw [HB.out.cell hlq]; exact HQ.out
      obtain ⟨p, hp⟩ : ∃ p, p = l[m] := ⟨_, rfl⟩
      rw [← hp] at c0 c1 c2 c3
      have HY := Lib.hid hp
      have C := Lib.hid (clo82 p k q wr hcq)
      clear hc hp hcq
      by_cases hxy : p.key = k
      · rw [decide_eq_true hxy] at C
        have HXY := Lib.hid hxy
        clear hxy
        go_wp2_with fail
        refine C.out.mono ?_
        rintro e w' ⟨rfl, h⟩
        go_wp2_with fail
        go_ret
        refine ⟨?_, HB.out.trans (h.mono HB.out.size)⟩
        rw [HR.out, fi_some hml (by rw [← HY.out]; exact HXY.out) HK.out]
        rfl
      · rw [decide_eq_false hxy] at C
        have HXY := Lib.hid hxy
        clear hxy
        go_wp2_with fail
        refine C.out.mono ?_
        rintro e w' ⟨rfl, h⟩
        go_wp2_with fail
        go_round
        case rel => exact ⟨m + 1, by omega, by go_num, Lib.hid (HB.out.trans (h.mono HB.out.size)), Lib.hid (fun j h1 h2 => by
          rcases Nat.lt_succ_iff_lt_or_eq.1 h1 with h | rfl
          · exact HK.out j h h2
          · rw [← HY.out]; exact HXY.out)⟩
        case measure => simp only [intOf]; omega
    · go_wp2
      go_ret
      refine ⟨?_, HB.out⟩
      rw [HR.out, fi_none (fun j h2 => HK.out j (by have := HN.out; omega) h2)]
      rfl
set_option maxHeartbeats 400000 in
theorem clo86 (y : Int) (k : Int) (q : Nat) (w : World) (hq : w.cell? ⟨q, 0, none⟩ = some (.int .u64 k)) :
    Calls Try.prog 86 #[.int .u64 y, .pointer (some ⟨q, 0, none⟩)] w fun e w' => e = .returned (.bool (decide (y = k))) ∧ Below w.heap.size w w' := by
  by_cases hk : y = k
  · subst hk
    go_enter Try.func86, Try.ntmps86
    go_wp2
    go_ret
    exact ⟨by simp, Below.refl _ _⟩
  · go_enter Try.func86, Try.ntmps86
    go_wp2
    go_ret
    exact ⟨by simp [hk], Below.refl _ _⟩
/-- the place of a key among keys, -1: there is none -/
def iu (l : List Int) (k : Int) : Int := match l.findIdx? fun x => decide (x = k) with | some i => (i : Int) | none => -1
theorem iu_some {l : List Int} {k : Int} {i : Nat} (hi : i < l.length) (h : l[i] = k) (hj : ∀ j (h1 : j < i) (h2 : j < l.length), l[j] ≠ k) : iu l k = (i : Int) := by
  have : (l.findIdx? fun x => decide (x = k)) = some i := by
    rw [List.findIdx?_eq_some_iff_getElem]
    exact ⟨hi, by simp [h], fun j h1 => by simpa using hj j h1 (by omega)⟩
  unfold iu
  rw [this]
theorem iu_none {l : List Int} {k : Int} (hj : ∀ j (h2 : j < l.length), l[j] ≠ k) : iu l k = -1 := by
  have : (l.findIdx? fun x => decide (x = k)) = none := by
    rw [List.findIdx?_eq_none_iff]
    intro p hp
    obtain ⟨j, hj2, rfl⟩ := List.getElem_of_mem hp
    simpa using hj j hj2
  unfold iu
  rw [this]
theorem e86 : ∀ args w, (callFunc 86 args).run Try.prog w = .ok (.enter 86 args) w := enters_of Try.func86 (by kernel_rfl) rfl
set_option maxHeartbeats 1000000 in
set_option maxRecDepth 100000 in
theorem ixu_at (l : List Int) (k : Int) (A : Option Addr) (n cap q : Nat) (hn : n = l.length) (hb : n ≤ 1000000) (w : World) (hr : URow w A cap l) (hq : w.cell? ⟨q, 0, none⟩ = some (.int .u64 k)) :
    Calls Try.prog 94 #[.slice A n cap, .func (.func 86) #[] #[.pointer (some ⟨q, 0, none⟩)]] w fun e w' => e = .returned (.int .i64 (iu l k)) ∧ Below w.heap.size w w' := by
  obtain ⟨r, hrr⟩ : ∃ r, r = iu l k := ⟨_, rfl⟩
  rw [← hrr]
  have HR := Lib.hid hrr
  have HN := Lib.hid hn
  have HP := Lib.hid hr
  have HQ := Lib.hid hq
  have hlq := Lib.lt_of_cell hq
  clear hrr hn hr hq
  go_enter Try.func94, Try.ntmps94
  go_wp2
  go_loopw [5, 8] (fun _ i wr => ∃ m : Nat, m ≤ n ∧ i = .int .i64 (m : Int) ∧ Hid (Below w.heap.size w wr) ∧ Hid (∀ j (h1 : j < m) (h2 : j < l.length), l[j] ≠ k)) (fun _ i _ => n - (intOf i).toNat)
  case atStart => exact ⟨0, by omega, by go_num, Lib.hid (Below.refl _ _), Lib.hid (fun j h1 => absurd h1 (by omega))⟩
  case round =>
    obtain ⟨m, hm, rfl, HB, HK⟩ := hrel
    by_cases hlt : m < n
    · have hml : m < l.length := by have := HN.out; omega
      obtain ⟨b, off, rfl, hc⟩ := (URow.kept HP.out HB.out).at hml
      have c0 := hc m hml
      have hcq : wr.cell? ⟨q, 0, none⟩ = some (.int .u64 k) := by rw [HB.out.cell hlq]; exact HQ.out
      obtain ⟨p, hp⟩ : ∃ p, p = l[m] := ⟨_, rfl⟩
      rw [← hp] at c0
      have HY := Lib.hid hp
      have C := Lib.hid (clo86 p k q wr hcq)
      clear hc hp hcq
      by_cases hxy : p = k
      · rw [decide_eq_true hxy] at C
        have HXY := Lib.hid hxy
        clear hxy
        go_wp2_with fail
        refine C.out.mono ?_
        rintro e w' ⟨rfl, h⟩
        go_wp2_with fail
        go_ret
        refine ⟨?_, HB.out.trans (h.mono HB.out.size)⟩
        rw [HR.out, iu_some hml (by rw [← HY.out]; exact HXY.out) HK.out]
        rfl
      · rw [decide_eq_false hxy] at C
        have HXY := Lib.hid hxy
        clear hxy
        go_wp2_with fail
        refine C.out.mono ?_
        rintro e w' ⟨rfl, h⟩
        go_wp2_with fail
        go_round
        case rel => exact ⟨m + 1, by omega, by go_num, Lib.hid (HB.out.trans (h.mono HB.out.size)), Lib.hid (fun j h1 h2 => by
          rcases Nat.lt_succ_iff_lt_or_eq.1 h1 with h | rfl
          · exact HK.out j h h2
          · rw [← HY.out]; exact HXY.out)⟩
        case measure => simp only [intOf]; omega
    · go_wp2
      go_ret
      refine ⟨?_, HB.out⟩
      rw [HR.out, iu_none (fun j h2 => HK.out j (by have := HN.out; omega) h2)]
      rfl
end Go.Proofs.Ytifenpmkbnohhaa
namespace Go.Proofs.Ytifenpmkbnohhaa
open Go.RowKit
open Go.Proofs.StackM
set_option linter.unusedVariables false
/-- a row while it is filtered in place: i are written, j are read -/
structure Kpd {α : Type} (f : α → Bool) (l cur : List α) (i j : Nat) : Prop where
  len : cur.length = l.length
  lt : i < j
  take : cur.take i = (l.take j).filter f
  drop : cur.drop j = l.drop j
theorem take_filter_all {α : Type} {f : α → Bool} {l : List α} {m : Nat} (h : ∀ j (h1 : j < m) (h2 : j < l.length), f l[j] = true) : (l.take m).filter f = l.take m := by
  rw [List.filter_eq_self]
  intro x hx
  obtain ⟨j, hj, rfl⟩ := List.mem_take_iff_getElem.1 hx
  exact h j (by omega) (by omega)
theorem Kpd.start {α : Type} {f : α → Bool} {l : List α} {m : Nat} (hm : m < l.length) (h : ∀ j (h1 : j < m) (h2 : j < l.length), f l[j] = true) (hk : f l[m] = false) : Kpd f l l m (m + 1) :=
  ⟨rfl, by omega, by rw [List.take_add_one, List.getElem?_eq_getElem hm, Option.toList_some, List.filter_append, take_filter_all h]; simp [hk], rfl⟩
theorem Kpd.at {α : Type} {f : α → Bool} {l cur : List α} {i j : Nat} (h : Kpd f l cur i j) (hj : j < l.length) : cur[j]'(by rw [h.len]; exact hj) = l[j] := by
  have e := h.drop
  rw [List.drop_eq_getElem_cons hj, List.drop_eq_getElem_cons (by rw [h.len]; exact hj)] at e
  injection e
theorem Kpd.skip {α : Type} {f : α → Bool} {l cur : List α} {i j : Nat} (h : Kpd f l cur i j) (hj : j < l.length) (hk : f l[j] = false) : Kpd f l cur i (j + 1) :=
  ⟨h.len, by have := h.lt; omega, by rw [h.take, List.take_add_one, List.getElem?_eq_getElem hj, Option.toList_some, List.filter_append]; simp [hk], by
    have e := h.drop
    rw [List.drop_eq_getElem_cons hj, List.drop_eq_getElem_cons (by rw [h.len]; exact hj)] at e
    injection e⟩
theorem Kpd.keep {α : Type} {f : α → Bool} {l cur : List α} {i j : Nat} (h : Kpd f l cur i j) (hj : j < l.length) (hk : f l[j] = true) : Kpd f l (cur.set i l[j]) (i + 1) (j + 1) := by
  have hi : i < cur.length := by have := h.lt; rw [h.len]; omega
  refine ⟨by rw [List.length_set, h.len], by have := h.lt; omega, ?_, ?_⟩
  · rw [List.take_add_one, List.getElem?_set_self hi, Option.toList_some, List.take_set_of_le (Nat.le_refl _), h.take, List.take_add_one, List.getElem?_eq_getElem hj, Option.toList_some, List.filter_append]
    simp [hk]
  · rw [List.drop_set_of_lt (by have := h.lt; omega)]
    have e := h.drop
    rw [List.drop_eq_getElem_cons hj, List.drop_eq_getElem_cons (by rw [h.len]; exact hj)] at e
    injection e
theorem Kpd.fin {α : Type} {f : α → Bool} {l cur : List α} {i : Nat} (h : Kpd f l cur i l.length) : cur.take i = l.filter f ∧ i = (l.filter f).length := by
  have e := h.take
  rw [List.take_length] at e
  exact ⟨e, by have := h.lt; rw [← e, List.length_take, h.len]; omega⟩
/-- the end of a row is cleared -/
theorem clear_tail {P : Program} {w : World} {lo e sz g n c : Nat} {xs : List Value} (ho : w.ownsRow lo e sz (.slice (some ⟨g, 0, none⟩) n c) n xs) (T : TypeId) (hT : P.underlying T = some (.slice e)) (z : Value) (hv : ∀ w, (zeroValue e).run P w = .ok z w) (hz : z.cells.size = sz) (h1 : ∀ v ∈ z.cells, v.oneCell' = true)
    (i : Nat) (hi : i < n) : ∃ w', (∀ cc ty, (Builtin.clear_ #[T] ty #[.slice (some ⟨g, i * sz, none⟩) (n - i) cc]).run P w = .ok (.tuple #[]) w') ∧ w'.ownsRow lo e sz (.slice (some ⟨g, 0, none⟩) i c) i (xs.take (i * sz)) ∧ w.grownBy w' (some g) := by
  have hlen := ho.1
  rcases ho.2 with ⟨e1, _⟩ | ⟨g', cap', cur, e1, hg, hgb, hnc, hcm, hcs, ht⟩
  · simp at e1
  · simp only [Value.slice.injEq, Option.some.injEq, Addr.mk.injEq, and_true, true_and] at e1
    obtain ⟨rfl, rfl⟩ := e1
    have hm : i * sz + (n - i) * sz = n * sz := by rw [← Nat.add_mul]; congr 1; omega
    have hcn : n * sz ≤ cur.size := by rw [hcs]; exact Nat.mul_le_mul_right _ hnc
    have hlz : (Builtin.zeroCells z.cells (n - i)).toList.length = (n - i) * sz := by rw [Array.length_toList, size_zeroCells, hz]
    have hone : ∀ v ∈ (Builtin.zeroCells z.cells (n - i)).toList, v.oneCell' = true := by
      intro v hv
      simp only [Builtin.zeroCells, Array.toList_map, List.mem_map] at hv
      obtain ⟨j, hj0, rfl⟩ := hv
      have hp : 0 < z.cells.size := by
        rcases Nat.eq_zero_or_pos z.cells.size with h0 | h0
        · rw [h0] at hj0
          simp at hj0
        · exact h0
      have hj : j % z.cells.size < z.cells.size := Nat.mod_lt _ hp
      rw [getElem!_pos z.cells _ hj]
      exact h1 _ (Array.getElem_mem hj)
    have hst := run_storeCells_at P g (i * sz) e (Builtin.zeroCells z.cells (n - i)).toList 0 cur w hgb (by rw [hlz]; omega) hone
    simp only [Nat.add_zero] at hst
    obtain ⟨d, hd⟩ : ∃ d, n - i = d + 1 := ⟨n - i - 1, by omega⟩
    refine ⟨w.setRow g (cur.toList.take (i * sz) ++ (Builtin.zeroCells z.cells (n - i)).toList ++ cur.toList.drop (i * sz + (Builtin.zeroCells z.cells (n - i)).toList.length)).toArray, fun cc ty => by rw [hd] at hst ⊢; simp [Builtin.clear_, run_underlying hT, hv, hst], ⟨by rw [List.length_take, hlen]; omega, .inr ⟨g, c, _, rfl, hg, setRow_heap w g cur _ e _ hgb, by omega, hcm, ?_, ?_⟩⟩, grown_setRow _⟩
    · have hlz2 : (Builtin.zeroCells z.cells (n - i)).size = (n - i) * sz := by rw [size_zeroCells, hz]
      simp only [List.size_toArray, List.length_append, List.length_take, List.length_drop, Array.length_toList, hlz2]
      omega
    · rw [List.append_assoc, List.take_append_of_le_length (by rw [List.length_take, Array.length_toList]; omega), List.take_take, Nat.min_self, ← ht, List.take_take]
      congr 1
      omega
theorem fi_kpd (l : List Pg) (k : Int) : (fi l k = -1 ∧ wo l k = l) ∨ ∃ m : Nat, ∃ h : m < l.length, fi l k = (m : Int) ∧ Kpd (fun p => decide (p.key ≠ k)) l l m (m + 1) := by
  cases hf : fnd l k with
  | none => exact .inl ⟨by rw [fi, hf], by unfold wo; rw [List.filter_eq_self]; intro p hp; simpa using fnd_no hf p hp⟩
  | some m =>
    unfold fnd at hf
    obtain ⟨hi, h1, h2⟩ := List.findIdx?_eq_some_iff_getElem.1 hf
    exact .inr ⟨m, hi, by rw [fi]; unfold fnd; rw [hf], Kpd.start hi (fun j h3 h4 => by simpa using h2 j h3) (by simpa using h1)⟩
def DelFPostp (w : World) (lo : Nat) (A : Option Addr) (c : Nat) (l : List Pg) (e : Ending) (w' : World) : Prop := e = .returned (.slice A l.length c) ∧ GRw w' lo (.slice A l.length c) l ∧ w.grownBy w' (Value.slice A 0 c).ownBlock
set_option maxHeartbeats 2000000 in
set_option maxRecDepth 100000 in
theorem delp_at (l : List Pg) (k : Int) (A : Option Addr) (c q lo : Nat) (hb : l.length ≤ 1000000) (w : World) (ho : GRw w lo (.slice A l.length c) l) (hq : w.heap[q]? = some (.cells #[.int .u64 k] 27 (0, 0))) (hne : ∀ a, A = some a → a.block ≠ q) :
    Calls Try.prog 81 #[.slice A l.length c, .func (.func 82) #[] #[.pointer (some ⟨q, 0, none⟩)]] w (DelFPostp w lo A c (wo l k)) := by
  obtain ⟨n, hn⟩ : ∃ n, n = l.length := ⟨_, rfl⟩
  unfold GRw at ho
  rw [← hn] at ho hb ⊢
  obtain ⟨A', c', hA', hcap, hvr, hlt0⟩ := owns_vrow ho
  injection hA' with hA1 _ hA3
  subst hA1 hA3
  have hqc : w.cell? ⟨q, 0, none⟩ = some (.int .u64 k) := by rw [cell_of_head hq]; rfl
  have C := Lib.hid (ixp_at l k A n c q hn hb w hvr hqc)
  rcases fi_kpd l k with ⟨h1, h2⟩ | ⟨m, hm, h1, hK⟩
  · rw [h1] at C
    rw [h2]
    have HO := Lib.hid (And.intro ho hn)
    clear ho hn hq hqc hvr h1 h2 hlt0
    go_enter Try.func81, Try.ntmps81
    go_wp2_with fail
    refine C.out.mono ?_
    rintro e w' ⟨rfl, h⟩
    go_wp2_with fail
    go_ret
    refine ⟨by show Ending.returned (Value.slice A n c) = _; rw [← HO.out.2], ?_, grown_any (below_grown h) _⟩
    unfold GRw
    rw [← HO.out.2]
    exact own_below HO.out.1 h
  · rw [h1] at C
    obtain ⟨g, cap, e⟩ := owns_some ho (by omega)
    injection e with e1 e2 e3
    subst e1 e3
    have hgq : g ≠ q := hne _ rfl
    have HO := Lib.hid ho
    have HN := Lib.hid hn
    have HQ := Lib.hid hq
    have HK0 := Lib.hid hK
    have hmn : m < n := by omega
    have hql : q < w.heap.size := (Array.getElem?_eq_some_iff.1 hq).1
    have hgl : g < w.heap.size := hlt0 _ rfl |>.2
    have hm1 : ((m : Int) == -1) = false := beq_eq_false_iff_ne.2 (by omega)
    clear ho hn hq hqc hvr h1 hlt0 hK hne
    go_enter Try.func81, Try.ntmps81
    go_wp2_with fail
    refine C.out.mono ?_
    rintro e w1 ⟨rfl, h⟩
    have H1 := Lib.hid (And.intro (own_below HO.out h) (grown_any (below_grown h) (some g)))
    clear h
    go_wp2_with fail
    go_loopw [5, 6, 7] (fun a b _ wr => ∃ (i j : Nat) (cur : List Pg), j ≤ n ∧ i < j ∧ a = .int .i64 (i : Int) ∧ b = .int .i64 (j : Int) ∧ Hid (Kpd (fun p => decide (p.key ≠ k)) l cur i j) ∧ Hid (wr.ownsRow lo 59 4 (.slice (some ⟨g, 0, none⟩) n c) n (pvals cur) ∧ w.grownBy wr (some g))) (fun _ b _ _ => n - (intOf b).toNat)
    case atStart => exact ⟨m, m + 1, l, by omega, by omega, by go_num, by go_num, HK0, H1⟩
    case round =>
      obtain ⟨i, j, cur, hjn, hij, rfl, rfl, HK, HB⟩ := hrel
      by_cases hlt : j < n
      · have hjl : j < l.length := by have := HN.out; omega
        obtain ⟨o, gr⟩ := HB.out
        obtain ⟨p0, p1, p2, p3⟩ := pvals_at cur j (by rw [HK.out.len]; exact hjl)
        have c0 := o.cellAt (j * 4) (by omega)
        have c1 := o.cellAt (j * 4 + 1) (by omega)
        have c2 := o.cellAt (j * 4 + 2) (by omega)
        have c3 := o.cellAt (j * 4 + 3) (by omega)
        rw [p0, HK.out.at hjl] at c0
        rw [p1, HK.out.at hjl] at c1
        rw [p2, HK.out.at hjl] at c2
        rw [p3, HK.out.at hjl] at c3
        obtain ⟨p, hp⟩ : ∃ p, p = l[j] := ⟨_, rfl⟩
        rw [← hp] at c0 c1 c2 c3
        have HY := Lib.hid hp
        have hcq : ∀ W, Below wr.heap.size wr W → W.cell? ⟨q, 0, none⟩ = some (.int .u64 k) := fun W hW => by
          have hb1 := hW.block q (Nat.lt_of_lt_of_le hql gr.size)
          rw [gr.block q hql (by simp; exact fun e => hgq e.symm), HQ.out] at hb1
          rw [cell_of_head hb1]; rfl
        have CC := Lib.hid (clo82 p k q (wr.alloc (.cells #[.int .u64 p.key, .int .i64 p.kind, .bool p.test, .bool p.mark] 59)) (hcq _ (alloc_below wr _)))
        have HG := Lib.hid (And.intro o gr)
        clear hp hcq o gr HB
        by_cases hxy : p.key = k
        · rw [decide_eq_true hxy] at CC
          have HXY := Lib.hid hxy
          clear hxy
          go_wp2_with fail
          refine CC.out.mono ?_
          rintro e w2 ⟨rfl, h⟩
          have hb2 : Below wr.heap.size wr w2 := (alloc_below wr _).trans (h.mono ((alloc_below wr _).size))
          have H2 := Lib.hid (And.intro (own_below HG.out.1 hb2) (grown_trans HG.out.2 (grown_any (below_grown hb2) (some g))))
          clear h hb2
          go_wp2_with fail
          go_round
          case rel =>
            exact ⟨i, j + 1, cur, by omega, by omega, by go_num, by go_num, Lib.hid (HK.out.skip hjl (by rw [← HY.out]; simpa using HXY.out)), H2⟩
          case measure => simp only [intOf]; omega
        · rw [decide_eq_false hxy] at CC
          have HXY := Lib.hid hxy
          clear hxy
          go_wp2_with fail
          refine CC.out.mono ?_
          rintro e w2 ⟨rfl, h⟩
          have hb2 : Below wr.heap.size wr w2 := (alloc_below wr _).trans (h.mono ((alloc_below wr _).size))
          have o2 := own_below HG.out.1 hb2
          have g2 := grown_trans HG.out.2 (grown_any (below_grown hb2) (some g))
          clear hb2
          have d0 : w2.cell? ⟨wr.heap.size, 0, none⟩ = some (.int .u64 p.key) := by rw [h.cell (by simp)]; simp [World.cell?_alloc_new]
          have d1 : w2.cell? ⟨wr.heap.size, 1, none⟩ = some (.int .i64 p.kind) := by rw [h.cell (by simp)]; simp [World.cell?_alloc_new]
          have d2 : w2.cell? ⟨wr.heap.size, 2, none⟩ = some (.bool p.test) := by rw [h.cell (by simp)]; simp [World.cell?_alloc_new]
          have d3 : w2.cell? ⟨wr.heap.size, 3, none⟩ = some (.bool p.mark) := by rw [h.cell (by simp)]; simp [World.cell?_alloc_new]
          have a0 := o2.cellAt (i * 4) (by omega)
          have a1 := o2.cellAt (i * 4 + 1) (by omega)
          have a2 := o2.cellAt (i * 4 + 2) (by omega)
          have a3 := o2.cellAt (i * 4 + 3) (by omega)
          obtain ⟨q0, q1, q2, q3⟩ := pvals_at cur i (by rw [HK.out.len]; omega)
          rw [q0] at a0
          rw [q1] at a1
          rw [q2] at a2
          rw [q3] at a3
          have f0 := o2.frozenAt (i * 4)
          have f1 := o2.frozenAt (i * 4 + 1)
          have f2 := o2.frozenAt (i * 4 + 2)
          have f3 := o2.frozenAt (i * 4 + 3)
          have o3 := ((((o2.stored (i * 4) (.int .u64 p.key)).1.stored (i * 4 + 1) (.int .i64 p.kind)).1.stored (i * 4 + 2) (.bool p.test)).1.stored (i * 4 + 3) (.bool p.mark)).1
          rw [← pvals_set cur i (by rw [HK.out.len]; omega) p] at o3
          have g3 := grown_trans (grown_trans (grown_trans (grown_trans g2 (grown_setCell _ g (i * 4) (.int .u64 p.key))) (grown_setCell _ g (i * 4 + 1) (.int .i64 p.kind))) (grown_setCell _ g (i * 4 + 2) (.bool p.test))) (grown_setCell _ g (i * 4 + 3) (.bool p.mark))
          have H3 := Lib.hid (And.intro o3 g3)
          clear q0 q1 q2 q3 o3 g3 o2 g2 h
          have hin : i < n := by omega
          go_wp2_with fail
          go_round
          case rel => exact ⟨i + 1, j + 1, cur.set i p, by omega, by omega, by go_num, by go_num, Lib.hid (by rw [HY.out]; exact HK.out.keep hjl (by rw [← HY.out]; simpa using HXY.out)), H3⟩
          case measure => simp only [intOf]; omega
      · obtain rfl : j = n := by omega
        have hKf : Kpd (fun p => decide (p.key ≠ k)) l cur i l.length := by rw [← HN.out]; exact HK.out
        obtain ⟨f1, f2⟩ := hKf.fin
        obtain ⟨w3, hr3, o3, g3⟩ := clear_tail HB.out.1 25 Try.underlying25 _ zero59 rfl (by intro v hv; simp [Value.cells] at hv; rcases hv with rfl | rfl | rfl | rfl <;> rfl) i (by omega)
        have k1 : (0 : Int) ≤ (i : Int) := by omega
        have k2 : (i : Int) ≤ (j : Int) := by omega
        have k3 : (i : Int) ≤ (c : Int) := by omega
        have k4 : ¬ (c : Int) = (i : Int) := by omega
        have k5 : (j : Int) ≤ (c : Int) := by omega
        have H3 : Hid (DelFPostp w lo (some ⟨g, 0, none⟩) c (wo l k) (.returned (.slice (some ⟨g, 0, none⟩) i c)) w3) := Lib.hid ⟨by show _ = Ending.returned (.slice _ (l.filter (fun p => decide (p.key ≠ k))).length _); rw [← f2], by
          show w3.ownsRow lo 59 4 (.slice _ (l.filter (fun p => decide (p.key ≠ k))).length _) (l.filter (fun p => decide (p.key ≠ k))).length (pvals (l.filter (fun p => decide (p.key ≠ k))))
          rw [← f2, ← f1, pvals_take]
          exact o3, grown_trans HB.out.2 g3⟩
        clear f1 f2 hKf o3 g3 HK HB HN C
        go_wp2_with fail
        go_ret
        exact H3.out
theorem iu_kpd (l : List Int) (k : Int) : (iu l k = -1 ∧ ls l k = l) ∨ ∃ m : Nat, ∃ h : m < l.length, iu l k = (m : Int) ∧ Kpd (fun x => decide (x ≠ k)) l l m (m + 1) := by
  cases hf : l.findIdx? (fun x => decide (x = k)) with
  | none =>
    refine .inl ⟨by rw [iu, hf], ?_⟩
    rw [List.findIdx?_eq_none_iff] at hf
    unfold ls
    rw [List.filter_eq_self]
    intro p hp
    simpa using hf p hp
  | some m =>
    have hf2 := hf
    obtain ⟨hi, h1, h2⟩ := List.findIdx?_eq_some_iff_getElem.1 hf
    exact .inr ⟨m, hi, by rw [iu, hf2], Kpd.start hi (fun j h3 h4 => by simpa using h2 j h3) (by simpa using h1)⟩
def DelFPostu (w : World) (lo : Nat) (A : Option Addr) (c : Nat) (l : List Int) (e : Ending) (w' : World) : Prop := e = .returned (.slice A l.length c) ∧ GRu w' lo (.slice A l.length c) l ∧ w.grownBy w' (Value.slice A 0 c).ownBlock
set_option maxHeartbeats 2000000 in
set_option maxRecDepth 100000 in
theorem delu_at (l : List Int) (k : Int) (A : Option Addr) (c q lo : Nat) (hb : l.length ≤ 1000000) (w : World) (ho : GRu w lo (.slice A l.length c) l) (hq : w.heap[q]? = some (.cells #[.int .u64 k] 27 (0, 0))) (hne : ∀ a, A = some a → a.block ≠ q) :
    Calls Try.prog 85 #[.slice A l.length c, .func (.func 86) #[] #[.pointer (some ⟨q, 0, none⟩)]] w (DelFPostu w lo A c (ls l k)) := by
  obtain ⟨n, hn⟩ : ∃ n, n = l.length := ⟨_, rfl⟩
  unfold GRu at ho
  rw [← hn] at ho hb ⊢
  obtain ⟨A', c', hA', hcap, hvr, hlt0⟩ := owns_vrow ho
  injection hA' with hA1 _ hA3
  subst hA1 hA3
  have hqc : w.cell? ⟨q, 0, none⟩ = some (.int .u64 k) := by rw [cell_of_head hq]; rfl
  have C := Lib.hid (ixu_at l k A n c q hn hb w hvr hqc)
  rcases iu_kpd l k with ⟨h1, h2⟩ | ⟨m, hm, h1, hK⟩
  · rw [h1] at C
    rw [h2]
    have HO := Lib.hid (And.intro ho hn)
    clear ho hn hq hqc hvr h1 h2 hlt0
    go_enter Try.func85, Try.ntmps85
    go_wp2_with fail
    refine C.out.mono ?_
    rintro e w' ⟨rfl, h⟩
    go_wp2_with fail
    go_ret
    refine ⟨by show Ending.returned (Value.slice A n c) = _; rw [← HO.out.2], ?_, grown_any (below_grown h) _⟩
    unfold GRu
    rw [← HO.out.2]
    exact own_below HO.out.1 h
  · rw [h1] at C
    obtain ⟨g, cap, e⟩ := owns_some ho (by omega)
    injection e with e1 e2 e3
    subst e1 e3
    have hgq : g ≠ q := hne _ rfl
    have HO := Lib.hid ho
    have HN := Lib.hid hn
    have HQ := Lib.hid hq
    have HK0 := Lib.hid hK
    have hmn : m < n := by omega
    have hql : q < w.heap.size := (Array.getElem?_eq_some_iff.1 hq).1
    have hgl : g < w.heap.size := hlt0 _ rfl |>.2
    have hm1 : ((m : Int) == -1) = false := beq_eq_false_iff_ne.2 (by omega)
    clear ho hn hq hqc hvr h1 hlt0 hK hne
    go_enter Try.func85, Try.ntmps85
    go_wp2_with fail
    refine C.out.mono ?_
    rintro e w1 ⟨rfl, h⟩
    have H1 := Lib.hid (And.intro (own_below HO.out h) (grown_any (below_grown h) (some g)))
    clear h
    go_wp2_with fail
    go_loopw [5, 6, 7] (fun a b _ wr => ∃ (i j : Nat) (cur : List Int), j ≤ n ∧ i < j ∧ a = .int .i64 (i : Int) ∧ b = .int .i64 (j : Int) ∧ Hid (Kpd (fun x => decide (x ≠ k)) l cur i j) ∧ Hid (wr.ownsRow lo 27 1 (.slice (some ⟨g, 0, none⟩) n c) n (uvals cur) ∧ w.grownBy wr (some g))) (fun _ b _ _ => n - (intOf b).toNat)
    case atStart => exact ⟨m, m + 1, l, by omega, by omega, by go_num, by go_num, HK0, H1⟩
    case round =>
      obtain ⟨i, j, cur, hjn, hij, rfl, rfl, HK, HB⟩ := hrel
      by_cases hlt : j < n
      · have hjl : j < l.length := by have := HN.out; omega
        obtain ⟨o, gr⟩ := HB.out
        have c0 := o.cellAt j (by omega)
        have p0 : (uvals cur)[j]? = some (.int .u64 l[j]) := by rw [← HK.out.at hjl]; simp [uvals, HK.out.len, hjl]
        rw [p0] at c0
        obtain ⟨p, hp⟩ : ∃ p, p = l[j] := ⟨_, rfl⟩
        rw [← hp] at c0
        have HY := Lib.hid hp
        have hcq : ∀ W, Below wr.heap.size wr W → W.cell? ⟨q, 0, none⟩ = some (.int .u64 k) := fun W hW => by
          have hb1 := hW.block q (Nat.lt_of_lt_of_le hql gr.size)
          rw [gr.block q hql (by simp; exact fun e => hgq e.symm), HQ.out] at hb1
          rw [cell_of_head hb1]; rfl
        have CC := Lib.hid (clo86 p k q wr (hcq _ (Below.refl wr.heap.size wr)))
        have HG := Lib.hid (And.intro o gr)
        clear hp hcq o gr HB
        by_cases hxy : p = k
        · rw [decide_eq_true hxy] at CC
          have HXY := Lib.hid hxy
          clear hxy
          go_wp2_with fail
          refine CC.out.mono ?_
          rintro e w2 ⟨rfl, h⟩
          have hb2 : Below wr.heap.size wr w2 := (Below.refl wr.heap.size wr).trans (h.mono ((Below.refl wr.heap.size wr).size))
          have H2 := Lib.hid (And.intro (own_below HG.out.1 hb2) (grown_trans HG.out.2 (grown_any (below_grown hb2) (some g))))
          clear h hb2
          go_wp2_with fail
          go_round
          case rel =>
            exact ⟨i, j + 1, cur, by omega, by omega, by go_num, by go_num, Lib.hid (HK.out.skip hjl (by rw [← HY.out]; simpa using HXY.out)), H2⟩
          case measure => simp only [intOf]; omega
        · rw [decide_eq_false hxy] at CC
          have HXY := Lib.hid hxy
          clear hxy
          go_wp2_with fail
          refine CC.out.mono ?_
          rintro e w2 ⟨rfl, h⟩
          have hb2 : Below wr.heap.size wr w2 := (Below.refl wr.heap.size wr).trans (h.mono ((Below.refl wr.heap.size wr).size))
          have o2 := own_below HG.out.1 hb2
          have g2 := grown_trans HG.out.2 (grown_any (below_grown hb2) (some g))
          clear hb2
          have a0 := o2.cellAt i (by omega)
          have q0 : (uvals cur)[i]? = some (.int .u64 (cur[i]'(by rw [HK.out.len]; omega))) := by simp [uvals]
          rw [q0] at a0
          have f0 := o2.frozenAt i
          have o3 := (o2.stored i (.int .u64 p)).1
          have e3 : (uvals cur).set i (.int .u64 p) = uvals (cur.set i p) := by simp [uvals, List.map_set]
          rw [e3] at o3
          have g3 := grown_trans g2 (grown_setCell _ g i (.int .u64 p))
          have H3 := Lib.hid (And.intro o3 g3)
          generalize cur[i]'(by rw [HK.out.len]; omega) = old at a0
          clear q0 e3 o3 g3 o2 g2 h
          have hin : i < n := by omega
          go_wp2_with fail
          go_round
          case rel => exact ⟨i + 1, j + 1, cur.set i p, by omega, by omega, by go_num, by go_num, Lib.hid (by rw [HY.out]; exact HK.out.keep hjl (by rw [← HY.out]; simpa using HXY.out)), H3⟩
          case measure => simp only [intOf]; omega
      · obtain rfl : j = n := by omega
        have hKf : Kpd (fun x => decide (x ≠ k)) l cur i l.length := by rw [← HN.out]; exact HK.out
        obtain ⟨f1, f2⟩ := hKf.fin
        obtain ⟨w3, hr3, o3, g3⟩ := clear_tail HB.out.1 26 Try.underlying26 _ zero27 rfl (by intro v hv; simp [Value.cells] at hv; subst hv; rfl) i (by omega)
        simp only [Nat.mul_one] at hr3
        have k1 : (0 : Int) ≤ (i : Int) := by omega
        have k2 : (i : Int) ≤ (j : Int) := by omega
        have k3 : (i : Int) ≤ (c : Int) := by omega
        have k4 : ¬ (c : Int) = (i : Int) := by omega
        have k5 : (j : Int) ≤ (c : Int) := by omega
        have H3 : Hid (DelFPostu w lo (some ⟨g, 0, none⟩) c (ls l k) (.returned (.slice (some ⟨g, 0, none⟩) i c)) w3) := Lib.hid ⟨by show _ = Ending.returned (.slice _ (l.filter (fun x => decide (x ≠ k))).length _); rw [← f2], by
          show w3.ownsRow lo 27 1 (.slice _ (l.filter (fun x => decide (x ≠ k))).length _) (l.filter (fun x => decide (x ≠ k))).length (uvals (l.filter (fun x => decide (x ≠ k))))
          rw [← f2, ← f1, uvals_take]
          exact o3, grown_trans HB.out.2 g3⟩
        clear f1 f2 hKf o3 g3 HK HB HN C
        go_wp2_with fail
        go_ret
        exact H3.out
end Go.Proofs.Ytifenpmkbnohhaa
namespace Go.Proofs.Ytifenpmkbnohhaa
open Go.RowKit
open Go.Proofs.StackM
set_option linter.unusedVariables false
def nm (p : Int) : List UInt8 := if p = 1 then [108, 105, 114, 115] else if p = 2 then [99, 108, 111, 99, 107] else if p = 3 then [108, 114, 117] else if p = 4 then [115, 101, 99, 111, 110, 100] else []
def ck (p c q g : Int) : Int := if Mb p c q g then 0 else 2
def ns (p : Int) : ByteArray := ⟨(nm p).toArray⟩
theorem ns_eq {p : Int} {x : ByteArray} : ns p = x ↔ nm p = x.data.toList := by
  constructor
  · rintro rfl; simp [ns]
  · intro h; rw [ns, h]
theorem name_at (p : Int) (w : World) : Calls Try.prog 87 #[.int .i64 p] w fun e w' => e = .returned (.string (ns p)) ∧ w' = w := by
  have hn : p = 1 ∨ p = 2 ∨ p = 3 ∨ p = 4 ∨ (p ≠ 1 ∧ p ≠ 2 ∧ p ≠ 3 ∧ p ≠ 4) := by omega
  rcases hn with rfl | rfl | rfl | rfl | ⟨h1, h2, h3, h4⟩
  · go_enter Try.func87, Try.ntmps87
    go_wp2
    go_ret
    exact ⟨rfl, rfl⟩
  · go_enter Try.func87, Try.ntmps87
    go_wp2
    go_ret
    exact ⟨rfl, rfl⟩
  · go_enter Try.func87, Try.ntmps87
    go_wp2
    go_ret
    exact ⟨rfl, rfl⟩
  · go_enter Try.func87, Try.ntmps87
    go_wp2
    go_ret
    exact ⟨rfl, rfl⟩
  · have e : ns p = ⟨#[]⟩ := by rw [ns, nm, if_neg h1, if_neg h2, if_neg h3, if_neg h4]
    rw [e]
    clear e
    go_enter Try.func87, Try.ntmps87
    go_wp2
    go_ret
    exact ⟨rfl, rfl⟩
theorem within_at (n a b : Int) (w : World) : Calls Try.prog 88 #[.int .i64 n, .int .i64 a, .int .i64 b] w fun e w' => e = .returned (.bool (decide (a ≤ n ∧ n ≤ b))) ∧ w' = w := by
  by_cases h1 : a ≤ n
  · by_cases h2 : n ≤ b
    · rw [decide_eq_true (And.intro h1 h2)]
      go_enter Try.func88, Try.ntmps88
      go_wp2
      go_ret
      exact ⟨rfl, rfl⟩
    · rw [decide_eq_false (fun h => h2 h.2)]
      go_enter Try.func88, Try.ntmps88
      go_wp2
      go_ret
      exact ⟨rfl, rfl⟩
  · rw [decide_eq_false (fun h => h1 h.1)]
    go_enter Try.func88, Try.ntmps88
    go_wp2
    go_ret
    exact ⟨rfl, rfl⟩
theorem nbl_ne {a b : ByteArray} (h : a ≠ b) : (a.toList == b.toList) = false := by
  rw [ByteArray.toList_eq, ByteArray.toList_eq, beq_eq_false_iff_ne]
  exact fun e => h (ByteArray.ext (Array.toList_inj.1 e))
theorem nm_none {p : Int} (h : ¬ (1 ≤ p ∧ p ≤ 4)) : nm p = [] := by
  rw [nm, if_neg (by omega), if_neg (by omega), if_neg (by omega), if_neg (by omega)]
theorem nm_some {p : Int} (h : 1 ≤ p ∧ p ≤ 4) : nm p ≠ [] := by
  have : p = 1 ∨ p = 2 ∨ p = 3 ∨ p = 4 := by omega
  rcases this with rfl | rfl | rfl | rfl <;> decide
theorem ns_none {p : Int} (h : ¬ (1 ≤ p ∧ p ≤ 4)) : ns p = ⟨#[]⟩ := by rw [ns, nm_none h]
theorem ns_some {p : Int} (h : 1 ≤ p ∧ p ≤ 4) : ns p ≠ ⟨#[]⟩ := fun e => nm_some h (ns_eq.1 e)
theorem emp_ne {a : ByteArray} (h : a ≠ ⟨#[]⟩) : a.toList.isEmpty = false := by
  have := nbl_ne h
  simpa using this
set_option maxHeartbeats 400000 in
set_option maxRecDepth 100000 in
theorem check_at (p c q g : Int) (w : World) : Calls Try.prog 68 #[.agg #[.int .i64 p, .int .i64 c, .int .i64 q, .int .i64 g]] w fun e w' => e = .returned (.int .i64 (ck p c q g)) ∧ Below w.heap.size w w' := by
  obtain ⟨x, hx⟩ : ∃ x, x = ns p := ⟨_, rfl⟩
  have cn : ∀ W, Calls Try.prog 87 #[.int .i64 p] W fun e w' => e = .returned (.string x) ∧ w' = W := fun W => hx ▸ name_at p W
  by_cases hp : 1 ≤ p ∧ p ≤ 4
  · have hne := emp_ne (show x ≠ ⟨#[]⟩ by rw [hx]; exact ns_some hp)
    have hne2 : ¬ x.toList = [] := fun e => by rw [e] at hne; cases hne
    clear hx
    by_cases hc : 2 ≤ c ∧ c ≤ 256
    · have cc : ∀ W, Calls Try.prog 88 #[.int .i64 c, .int .i64 2, .int .i64 256] W fun e w' => e = .returned (.bool true) ∧ w' = W := fun W => decide_eq_true hc ▸ within_at c 2 256 W
      by_cases hq : 1 ≤ q ∧ q < c
      · have cq : ∀ W, Calls Try.prog 88 #[.int .i64 q, .int .i64 1, .int .i64 (c - 1)] W fun e w' => e = .returned (.bool true) ∧ w' = W := fun W => decide_eq_true (show 1 ≤ q ∧ q ≤ c - 1 by omega) ▸ within_at q 1 (c - 1) W
        by_cases hg : 0 ≤ g ∧ g ≤ 512
        · have cg : ∀ W, Calls Try.prog 88 #[.int .i64 g, .int .i64 0, .int .i64 512] W fun e w' => e = .returned (.bool true) ∧ w' = W := fun W => decide_eq_true hg ▸ within_at g 0 512 W
          rw [ck, if_pos ⟨hp, hc, hq, hg⟩]
          clear hp hq hg
          go_enter Try.func68, Try.ntmps68
          go_wp2_with (first | (with_reducible refine (cn _).mono ?_; rintro e w' ⟨rfl, rfl⟩) | (with_reducible refine (cc _).mono ?_; rintro e w' ⟨rfl, rfl⟩) | (with_reducible refine (cq _).mono ?_; rintro e w' ⟨rfl, rfl⟩) | (with_reducible refine (cg _).mono ?_; rintro e w' ⟨rfl, rfl⟩))
          go_ret
          exact ⟨rfl, alloc_below _ _⟩
        · have cg : ∀ W, Calls Try.prog 88 #[.int .i64 g, .int .i64 0, .int .i64 512] W fun e w' => e = .returned (.bool false) ∧ w' = W := fun W => decide_eq_false hg ▸ within_at g 0 512 W
          rw [ck, if_neg (fun h => hg h.2.2.2)]
          clear hp hq hg
          go_enter Try.func68, Try.ntmps68
          go_wp2_with (first | (with_reducible refine (cn _).mono ?_; rintro e w' ⟨rfl, rfl⟩) | (with_reducible refine (cc _).mono ?_; rintro e w' ⟨rfl, rfl⟩) | (with_reducible refine (cq _).mono ?_; rintro e w' ⟨rfl, rfl⟩) | (with_reducible refine (cg _).mono ?_; rintro e w' ⟨rfl, rfl⟩))
          go_ret
          exact ⟨rfl, alloc_below _ _⟩
      · have cq : ∀ W, Calls Try.prog 88 #[.int .i64 q, .int .i64 1, .int .i64 (c - 1)] W fun e w' => e = .returned (.bool false) ∧ w' = W := fun W => decide_eq_false (show ¬ (1 ≤ q ∧ q ≤ c - 1) by omega) ▸ within_at q 1 (c - 1) W
        rw [ck, if_neg (fun h => hq h.2.2.1)]
        clear hp hq
        go_enter Try.func68, Try.ntmps68
        go_wp2_with (first | (with_reducible refine (cn _).mono ?_; rintro e w' ⟨rfl, rfl⟩) | (with_reducible refine (cc _).mono ?_; rintro e w' ⟨rfl, rfl⟩) | (with_reducible refine (cq _).mono ?_; rintro e w' ⟨rfl, rfl⟩))
        go_ret
        exact ⟨rfl, alloc_below _ _⟩
    · have cc : ∀ W, Calls Try.prog 88 #[.int .i64 c, .int .i64 2, .int .i64 256] W fun e w' => e = .returned (.bool false) ∧ w' = W := fun W => decide_eq_false hc ▸ within_at c 2 256 W
      rw [ck, if_neg (fun h => hc h.2.1)]
      clear hp hc
      go_enter Try.func68, Try.ntmps68
      go_wp2_with (first | (with_reducible refine (cn _).mono ?_; rintro e w' ⟨rfl, rfl⟩) | (with_reducible refine (cc _).mono ?_; rintro e w' ⟨rfl, rfl⟩))
      go_ret
      exact ⟨rfl, alloc_below _ _⟩
  · rw [ns_none hp] at hx
    subst hx
    rw [ck, if_neg (fun h => hp h.1)]
    clear hp
    go_enter Try.func68, Try.ntmps68
    go_wp2_with (first | (with_reducible refine (cn _).mono ?_; rintro e w' ⟨rfl, rfl⟩))
    go_ret
    exact ⟨rfl, alloc_below _ _⟩
theorem ck_ok {p c q g : Int} (h : Mb p c q g) : ck p c q g = 0 := if_pos h
theorem ck_no {p c q g : Int} (h : ¬ Mb p c q g) : ck p c q g = 2 := if_neg h
def rm (p c q g : Int) : Int := if Mb p c q g then c - q else 0
def At4 (w : World) (b : Nat) (p c q g : Int) : Prop := w.cell? ⟨b, 0, none⟩ = some (.int .i64 p) ∧ w.cell? ⟨b, 1, none⟩ = some (.int .i64 c) ∧ w.cell? ⟨b, 2, none⟩ = some (.int .i64 q) ∧ w.cell? ⟨b, 3, none⟩ = some (.int .i64 g)
theorem At4.lt {w : World} {b : Nat} {p c q g : Int} (h : At4 w b p c q g) : b < w.heap.size := Lib.lt_of_cell h.1
theorem At4.kept {w w' : World} {b B : Nat} {p c q g : Int} (h : At4 w b p c q g) (hb : Below B w w') (hl : b < B) : At4 w' b p c q g :=
  ⟨by rw [hb.cell (by exact hl)]; exact h.1, by rw [hb.cell (by exact hl)]; exact h.2.1, by rw [hb.cell (by exact hl)]; exact h.2.2.1, by rw [hb.cell (by exact hl)]; exact h.2.2.2⟩
theorem at4_alloc (w : World) (p c q g : Int) : At4 (w.alloc (.cells #[.int .i64 p, .int .i64 c, .int .i64 q, .int .i64 g] 24)) w.heap.size p c q g :=
  ⟨by rw [World.cell?_alloc_new]; rfl, by rw [World.cell?_alloc_new]; rfl, by rw [World.cell?_alloc_new]; rfl, by rw [World.cell?_alloc_new]; rfl⟩
set_option maxHeartbeats 400000 in
set_option maxRecDepth 100000 in
theorem croom_at (p c q g : Int) (w : World) : Calls Try.prog 63 #[.agg #[.int .i64 p, .int .i64 c, .int .i64 q, .int .i64 g]] w fun e w' => e = .returned (.int .i64 (rm p c q g)) ∧ Below w.heap.size w w' := by
  have cc := fun W => check_at p c q g W
  by_cases h : Mb p c q g
  · rw [rm, if_pos h]
    rw [ck_ok h] at cc
    obtain ⟨_, h2, h3, _⟩ := h
    go_enter Try.func63, Try.ntmps63
    go_wp2_with fail
    refine (cc _).mono ?_
    rintro e w2 ⟨rfl, hb⟩
    obtain ⟨d0, d1, d2, d3⟩ := (at4_alloc w p c q g).kept hb (at4_alloc w p c q g).lt
    have HB := Lib.hid hb
    clear hb
    go_wp2
    go_ret
    exact ⟨rfl, (alloc_below w _).trans (HB.out.mono (by simp))⟩
  · rw [rm, if_neg h]
    rw [ck_no h] at cc
    clear h
    go_enter Try.func63, Try.ntmps63
    go_wp2_with fail
    refine (cc _).mono ?_
    rintro e w2 ⟨rfl, hb⟩
    have HB := Lib.hid hb
    clear hb
    go_wp2
    go_ret
    exact ⟨rfl, (alloc_below w _).trans (HB.out.mono (by simp))⟩
instance (c : Cf) : Decidable (Cl c) := by unfold Cl; infer_instance
theorem cl_mb {c : Cf} (h : Cl c) : Mb c.p c.c c.q c.g := ⟨by have := h.1; omega, h.2⟩
set_option maxHeartbeats 400000 in
set_option maxRecDepth 100000 in
theorem lirs_at (p c q g : Int) (w : World) : Calls Try.prog 41 #[.agg #[.int .i64 p, .int .i64 c, .int .i64 q, .int .i64 g]] w fun e w' => e = .returned (.bool (decide (Cl ⟨p, c, q, g⟩))) ∧ Below w.heap.size w w' := by
  have cc := fun W => check_at p c q g W
  by_cases h : Mb p c q g
  · rw [ck_ok h] at cc
    have CC := Lib.hid cc
    clear cc
    by_cases hp : p = 1
    · rw [decide_eq_true (show Cl ⟨p, c, q, g⟩ from ⟨hp, h.2⟩)]
      have HP := Lib.hid hp
      clear h hp
      go_enter Try.func41, Try.ntmps41
      go_wp2_with fail
      refine (CC.out _).mono ?_
      rintro e w2 ⟨rfl, hb⟩
      obtain ⟨d0, d1, d2, d3⟩ := (at4_alloc w p c q g).kept hb (at4_alloc w p c q g).lt
      have HB := Lib.hid ((alloc_below w _).trans (hb.mono (alloc_below w _).size))
      have hp2 : (p == 1) = true := by simpa using HP.out
      clear hb
      go_wp2_with fail
      go_ret
      exact ⟨rfl, HB.out⟩
    · rw [decide_eq_false (fun h : Cl ⟨p, c, q, g⟩ => hp h.1)]
      have HP := Lib.hid hp
      clear h hp
      go_enter Try.func41, Try.ntmps41
      go_wp2_with fail
      refine (CC.out _).mono ?_
      rintro e w2 ⟨rfl, hb⟩
      obtain ⟨d0, d1, d2, d3⟩ := (at4_alloc w p c q g).kept hb (at4_alloc w p c q g).lt
      have HB := Lib.hid ((alloc_below w _).trans (hb.mono (alloc_below w _).size))
      have hp2 : (p == 1) = false := by simpa using HP.out
      clear hb
      go_wp2_with fail
      go_ret
      exact ⟨rfl, HB.out⟩
  · rw [ck_no h] at cc
    rw [decide_eq_false (fun hc : Cl ⟨p, c, q, g⟩ => h (cl_mb hc))]
    have CC := Lib.hid cc
    clear cc h
    go_enter Try.func41, Try.ntmps41
    go_wp2_with fail
    refine (CC.out _).mono ?_
    rintro e w2 ⟨rfl, hb⟩
    have HB := Lib.hid ((alloc_below w _).trans (hb.mono (alloc_below w _).size))
    clear hb
    go_wp2_with fail
    go_ret
    exact ⟨rfl, HB.out⟩
end Go.Proofs.Ytifenpmkbnohhaa
