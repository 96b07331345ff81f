/-
  The document's rows: two rows of keys, two rows of pages compared.
  The document's states: no key twice; the pages are as they should be; two states are the same.
  The document's states: the queue is spilled.
-/
import Derived.Test.YtifenpmkbnohhaaG02
import Derived.Test.YtifenpmkbnohhaaG03
import Derived.Test.YtifenpmkbnohhaaG01
namespace Go.Proofs.Ytifenpmkbnohhaa
open Go.RowKit
open Go.Proofs.StackM
set_option linter.unusedVariables false
set_option maxHeartbeats 2000000 in
set_option maxRecDepth 100000 in
theorem same_at (a b : List Int) (A B : Option Addr) (n m c c' : Nat) (hn : n = a.length) (hm : m = b.length) (hb : n ≤ 1000000) (hb2 : m ≤ 1000000) (w : World) (ha : URow w A c a) (hbr : URow w B c' b) :
    Calls Try.prog 25 #[.slice A n c, .slice B m c'] w fun e w' => e = .returned (.bool (decide (a = b))) ∧ Below w.heap.size w w' := by
  obtain ⟨r, hr⟩ : ∃ r, r = decide (a = b) := ⟨_, rfl⟩
  rw [← hr]
  have HR := Lib.hid hr
  have HN := Lib.hid (And.intro hn hm)
  have HA := Lib.hid (And.intro ha hbr)
  clear hr hn hm ha hbr
  by_cases hnm : n = m
  · subst hnm
    go_enter Try.func25, Try.ntmps25
    go_wp2_with fail
    go_loopw [5] (fun i wr => ∃ (k q : Nat), k ≤ n ∧ i = .int .i64 (k : Int) ∧ wr = w.drewN q ∧ Hid (∀ j (h1 : j < k) (h2 : j < a.length) (h3 : j < b.length), a[j] = b[j])) (fun i _ => n - (intOf i).toNat)
    case atStart => exact ⟨0, 0, by omega, by go_num, by simp [World.drewN], Lib.hid (fun j h1 => absurd h1 (by omega))⟩
    case round =>
      obtain ⟨k, q, hk, rfl, rfl, HK⟩ := hrel
      by_cases hlt : k < n
      · have hka : k < a.length := by have := HN.out.1; omega
        have hkb : k < b.length := by have := HN.out.2; omega
        obtain ⟨ba, offa, rfl, hca⟩ := HA.out.1.at hka
        obtain ⟨bb, offb, rfl, hcb⟩ := HA.out.2.at hkb
        have d1 := hca k hka
        have d2 := hcb k hkb
        obtain ⟨y, hy⟩ : ∃ y, y = a[k] := ⟨_, rfl⟩
        obtain ⟨z, hz⟩ : ∃ z, z = b[k] := ⟨_, rfl⟩
        rw [← hy] at d1
        rw [← hz] at d2
        clear hca hcb
        by_cases hyz : y = z
        · have HS : Hid (a[k] = b[k]) := Lib.hid (by rw [← hy, ← hz, hyz])
          clear hy hz
          subst hyz
          go_wp2_with fail
          go_quiet (fail)
          go_wp2_with fail
          go_round
          case rel => exact ⟨k + 1, _, by omega, by go_num, rfl, Lib.hid (fun j h1 h2 h3 => by
            rcases Nat.lt_succ_iff_lt_or_eq.1 h1 with h | rfl
            · exact HK.out j h h2 h3
            · exact HS.out)⟩
          case measure => simp only [intOf]; omega
        · have HD : Hid (¬ a[k] = b[k]) := Lib.hid (by rw [← hy, ← hz]; exact hyz)
          clear hy hz
          have HE : Hid (r = false) := Lib.hid (by
            rw [HR.out]
            exact decide_eq_false (fun e => HD.out (by subst e; rfl)))
          go_wp2_with fail
          go_quiet (fail)
          go_wp2_with fail
          go_ret
          exact ⟨by rw [HE.out]; rfl, below_drew (below_drew (Below.refl _ _) _) _⟩
      · have HE : Hid (r = true) := Lib.hid (by
          rw [HR.out]
          refine decide_eq_true (List.ext_getElem (HN.out.1.symm.trans HN.out.2) (fun j h1 h2 => HK.out j (by have := HN.out.1; omega) h1 h2))
        )
        go_wp2
        go_ret
        exact ⟨by rw [HE.out]; rfl, below_drew (Below.refl _ _) q⟩
  · have hne : ¬ (n : Int) = (m : Int) := by omega
    have HE : Hid (r = false) := Lib.hid (by rw [HR.out]; exact decide_eq_false (fun e => hnm (by rw [HN.out.1, HN.out.2, e])))
    clear hnm
    go_enter Try.func25, Try.ntmps25
    go_wp2
    go_ret
    exact ⟨by rw [HE.out]; rfl, Below.refl _ _⟩
set_option maxHeartbeats 2000000 in
set_option maxRecDepth 100000 in
theorem pgs_at (a b : List Pg) (A B : Option Addr) (n m c c' : Nat) (hn : n = a.length) (hm : m = b.length) (hb : n ≤ 1000000) (hb2 : m ≤ 1000000) (w : World) (ha : PRow w A c a) (hbr : PRow w B c' b) :
    Calls Try.prog 43 #[.slice A n c, .slice B m c'] w fun e w' => e = .returned (.bool (decide (a = b))) ∧ Below w.heap.size w w' := by
  obtain ⟨r, hr⟩ : ∃ r, r = decide (a = b) := ⟨_, rfl⟩
  rw [← hr]
  have HR := Lib.hid hr
  have HN := Lib.hid (And.intro hn hm)
  have HA := Lib.hid (And.intro ha hbr)
  clear hr hn hm ha hbr
  by_cases hnm : n = m
  · subst hnm
    go_enter Try.func43, Try.ntmps43
    go_wp2_with fail
    go_loopw [5] (fun i wr => ∃ (k q : Nat), k ≤ n ∧ i = .int .i64 (k : Int) ∧ wr = w.drewN q ∧ Hid (∀ j (h1 : j < k) (h2 : j < a.length) (h3 : j < b.length), a[j] = b[j])) (fun i _ => n - (intOf i).toNat)
    case atStart => exact ⟨0, 0, by omega, by go_num, by simp [World.drewN], Lib.hid (fun j h1 => absurd h1 (by omega))⟩
    case round =>
      obtain ⟨k, q, hk, rfl, rfl, HK⟩ := hrel
      by_cases hlt : k < n
      · have hka : k < a.length := by have := HN.out.1; omega
        have hkb : k < b.length := by have := HN.out.2; omega
        obtain ⟨ba, offa, rfl, hca⟩ := HA.out.1.at hka
        obtain ⟨bb, offb, rfl, hcb⟩ := HA.out.2.at hkb
        obtain ⟨d0, d1, d2, d3⟩ := hca k hka
        obtain ⟨e0, e1, e2, e3⟩ := hcb k hkb
        obtain ⟨y, hy⟩ : ∃ y, y = a[k] := ⟨_, rfl⟩
        obtain ⟨z, hz⟩ : ∃ z, z = b[k] := ⟨_, rfl⟩
        rw [← hy] at d0 d1 d2 d3
        rw [← hz] at e0 e1 e2 e3
        obtain ⟨y0, y1, y2, y3⟩ := y
        obtain ⟨z0, z1, z2, z3⟩ := z
        dsimp only at d0 d1 d2 d3 e0 e1 e2 e3
        clear hca hcb
        by_cases h0 : y0 = z0
        · subst h0
          by_cases h1 : y1 = z1
          · subst h1
            by_cases h2 : y2 = z2
            · subst h2
              by_cases h3 : y3 = z3
              · subst h3
                have HS : Hid (a[k] = b[k]) := Lib.hid (by rw [← hy, ← hz])
                clear hy hz
                go_wp2_with fail
                go_quiet (fail)
                go_wp2_with fail
                go_round
                case rel => exact ⟨k + 1, _, by omega, by go_num, rfl, Lib.hid (fun j h1 h2 h3 => by
                  rcases Nat.lt_succ_iff_lt_or_eq.1 h1 with h | rfl
                  · exact HK.out j h h2 h3
                  · exact HS.out)⟩
                case measure => simp only [intOf]; omega
              · have HD : Hid (¬ a[k] = b[k]) := Lib.hid (by rw [← hy, ← hz]; intro e; injection e; contradiction)
                clear hy hz
                have HE : Hid (r = false) := Lib.hid (by
                  rw [HR.out]
                  exact decide_eq_false (fun e => HD.out (by subst e; rfl)))
                go_wp2_with fail
                go_quiet (fail)
                go_wp2_with fail
                go_ret
                exact ⟨by rw [HE.out]; rfl, below_drew (below_drew (Below.refl _ _) _) _⟩
            · have HD : Hid (¬ a[k] = b[k]) := Lib.hid (by rw [← hy, ← hz]; intro e; injection e; contradiction)
              clear hy hz
              have HE : Hid (r = false) := Lib.hid (by
                rw [HR.out]
                exact decide_eq_false (fun e => HD.out (by subst e; rfl)))
              go_wp2_with fail
              go_quiet (fail)
              go_wp2_with fail
              go_ret
              exact ⟨by rw [HE.out]; rfl, below_drew (below_drew (Below.refl _ _) _) _⟩
          · have HD : Hid (¬ a[k] = b[k]) := Lib.hid (by rw [← hy, ← hz]; intro e; injection e; contradiction)
            clear hy hz
            have HE : Hid (r = false) := Lib.hid (by
              rw [HR.out]
              exact decide_eq_false (fun e => HD.out (by subst e; rfl)))
            go_wp2_with fail
            go_quiet (fail)
            go_wp2_with fail
            go_ret
            exact ⟨by rw [HE.out]; rfl, below_drew (below_drew (Below.refl _ _) _) _⟩
        · have HD : Hid (¬ a[k] = b[k]) := Lib.hid (by rw [← hy, ← hz]; intro e; injection e; contradiction)
          clear hy hz
          have HE : Hid (r = false) := Lib.hid (by
            rw [HR.out]
            exact decide_eq_false (fun e => HD.out (by subst e; rfl)))
          go_wp2_with fail
          go_quiet (fail)
          go_wp2_with fail
          go_ret
          exact ⟨by rw [HE.out]; rfl, below_drew (below_drew (Below.refl _ _) _) _⟩
      · have HE : Hid (r = true) := Lib.hid (by
          rw [HR.out]
          refine decide_eq_true (List.ext_getElem (HN.out.1.symm.trans HN.out.2) (fun j h1 h2 => HK.out j (by have := HN.out.1; omega) h1 h2))
        )
        go_wp2
        go_ret
        exact ⟨by rw [HE.out]; rfl, below_drew (Below.refl _ _) q⟩
  · have hne : ¬ (n : Int) = (m : Int) := by omega
    have HE : Hid (r = false) := Lib.hid (by rw [HR.out]; exact decide_eq_false (fun e => hnm (by rw [HN.out.1, HN.out.2, e])))
    clear hnm
    go_enter Try.func43, Try.ntmps43
    go_wp2
    go_ret
    exact ⟨by rw [HE.out]; rfl, Below.refl _ _⟩
end Go.Proofs.Ytifenpmkbnohhaa
namespace Go.Proofs.Ytifenpmkbnohhaa
open Go.RowKit
open Go.Proofs.StackM
set_option linter.unusedVariables false
def OnceP (l : List Pg) : Prop := ∀ j (h : j < l.length), fi l l[j].key = (j : Int)
def OnceU (l : List Int) : Prop := ∀ j (h : j < l.length), l[j] ∉ l.take j
instance (l : List Pg) : Decidable (OnceP l) := by unfold OnceP; infer_instance
instance (l : List Int) : Decidable (OnceU l) := by unfold OnceU; infer_instance
set_option maxHeartbeats 2000000 in
set_option maxRecDepth 100000 in
theorem oncep_at (l : List Pg) (A : Option Addr) (n c : Nat) (hn : n = l.length) (hb : n ≤ 1000000) (w : World) (ha : PRow w A c l) :
    Calls Try.prog 27 #[.slice A n c] w fun e w' => e = .returned (.bool (decide (OnceP l))) ∧ w' = w := by
  obtain ⟨r, hr⟩ : ∃ r, r = decide (OnceP l) := ⟨_, rfl⟩
  rw [← hr]
  have HR := Lib.hid hr
  have HN := Lib.hid hn
  have HA := Lib.hid ha
  clear hr hn ha
  go_enter Try.func27, Try.ntmps27
  go_wp2_with fail
  go_loopw [3] (fun i wr => ∃ k : Nat, k ≤ n ∧ i = .int .i64 (k : Int) ∧ wr = w ∧ Hid (∀ j (h1 : j < k) (h : j < l.length), fi l l[j].key = (j : Int))) (fun i _ => n - (intOf i).toNat)
  case atStart => exact ⟨0, by omega, by go_num, by first | rfl | trivial, Lib.hid (fun j h1 => absurd h1 (by omega))⟩
  case round =>
    obtain ⟨k, hk, rfl, rfl, HK⟩ := hrel
    by_cases hlt : k < n
    · have hkl : k < l.length := by have := HN.out; omega
      obtain ⟨b, off, rfl, hc⟩ := HA.out.at hkl
      obtain ⟨c0, _, _, _⟩ := hc k hkl
      obtain ⟨y, hy⟩ : ∃ y, y = l[k].key := ⟨_, rfl⟩
      rw [← hy] at c0
      obtain ⟨q, hq⟩ : ∃ q, q = fi l y := ⟨_, rfl⟩
      have C37 := Lib.hid (find_at l y (some ⟨b, off, none⟩) n c HN.out hb wr HA.out)
      rw [← hq] at C37
      clear hc
      by_cases he : q = (k : Int)
      · have HS : Hid (fi l l[k].key = (k : Int)) := Lib.hid (by rw [← hy, ← hq]; exact he)
        subst he
        clear hy hq
        go_wp2_with fail
        refine C37.out.mono ?_
        rintro e w2 ⟨rfl, h2⟩
        subst h2
        go_wp2_with fail
        go_round
        case rel => exact ⟨k + 1, by omega, by go_num, by first | rfl | trivial, Lib.hid (fun j h1 h => by
          rcases Nat.lt_succ_iff_lt_or_eq.1 h1 with h2 | rfl
          · exact HK.out j h2 h
          · exact HS.out)⟩
        case measure => simp only [intOf]; omega
      · have HE : Hid (r = false) := Lib.hid (by rw [HR.out]; exact decide_eq_false (fun h => he (by rw [hq, hy]; exact h k hkl)))
        clear hy hq
        go_wp2_with fail
        refine C37.out.mono ?_
        rintro e w2 ⟨rfl, h2⟩
        subst h2
        go_wp2_with fail
        go_ret
        exact ⟨by rw [HE.out]; rfl, by trivial⟩
    · have HE : Hid (r = true) := Lib.hid (by rw [HR.out]; exact decide_eq_true (fun j h => HK.out j (by have := HN.out; omega) h))
      go_wp2
      go_ret
      exact ⟨by rw [HE.out]; rfl, by trivial⟩
theorem urow_take {w : World} {b off c : Nat} {l : List Int} (h : URow w (some ⟨b, off, none⟩) c l) (k : Nat) (hk : k ≤ l.length) : URow w (some ⟨b, off, none⟩) c (l.take k) := by
  rcases h with ⟨h, _⟩ | ⟨b', off', e, hc⟩
  · cases h
  · refine .inr ⟨b', off', e, fun j hj => ?_⟩
    have hj2 : j < k := by rw [uvals_len, List.length_take] at hj; omega
    rw [hc j (by rw [uvals_len]; omega)]
    simp [uvals]
set_option maxHeartbeats 2000000 in
set_option maxRecDepth 100000 in
theorem onceu_at (l : List Int) (A : Option Addr) (n c : Nat) (hn : n = l.length) (hb : n ≤ 1000000) (hcap : n ≤ c) (w : World) (ha : URow w A c l) :
    Calls Try.prog 28 #[.slice A n c] w fun e w' => e = .returned (.bool (decide (OnceU l))) ∧ Below w.heap.size w w' := by
  obtain ⟨r, hr⟩ : ∃ r, r = decide (OnceU l) := ⟨_, rfl⟩
  rw [← hr]
  have HR := Lib.hid hr
  have HN := Lib.hid hn
  have HA := Lib.hid ha
  clear hr hn ha
  go_enter Try.func28, Try.ntmps28
  go_wp2_with fail
  go_loopw [3] (fun i wr => ∃ k : Nat, k ≤ n ∧ i = .int .i64 (k : Int) ∧ Hid (Below w.heap.size w wr) ∧ Hid (∀ j (h1 : j < k) (h : j < l.length), l[j] ∉ l.take j)) (fun i _ => n - (intOf i).toNat)
  case atStart => exact ⟨0, by omega, by go_num, Lib.hid (Below.refl _ _), Lib.hid (fun j h1 => absurd h1 (by omega))⟩
  case round =>
    obtain ⟨k, hk, rfl, HB, HK⟩ := hrel
    by_cases hlt : k < n
    · have hkl : k < l.length := by have := HN.out; omega
      obtain ⟨b, off, rfl, hc⟩ := HA.out.at hkl
      have c0 := hc k hkl
      obtain ⟨y, hy⟩ : ∃ y, y = l[k] := ⟨_, rfl⟩
      rw [← hy] at c0
      have x0 : ∀ W : GrB wr, W.v.cell? ⟨b, off + k, none⟩ = some (.int .u64 y) := fun W => by
        have := HB.out.trans (W.h.mono HB.out.size)
        rw [this.cell (by exact Lib.lt_of_cell c0)]; exact c0
      obtain ⟨q, hq⟩ : ∃ q, q = decide (y ∈ l.take k) := ⟨_, rfl⟩
      have C38 : Hid (∀ W : GrB wr, Calls Try.prog 55 #[.slice (some ⟨b, off, none⟩) k c, .int .u64 y] W.v fun e w' => e = .returned (.bool q) ∧ ∃ W' : GrB wr, w' = W'.v) := Lib.hid (grown_call (w := wr) fun V hV => (has_at (l.take k) y (some ⟨b, off, none⟩) k c (by rw [List.length_take]; omega) (by omega) V (urow_take (HA.out.kept (HB.out.trans (hV.mono HB.out.size))) k (by omega))).mono fun e w' ⟨e1, e2⟩ => ⟨by rw [hq]; exact e1, e2 ▸ Below.refl _ _⟩)
      have hkc : (k : Int) ≤ (c : Int) := by omega
      have hcs : c ≤ 9223372036854775807 ∨ True := .inr trivial
      clear hc c0 hcs
      cases hqq : q with
      | false =>
        have HS : Hid (l[k] ∉ l.take k) := Lib.hid (by rw [← hy]; intro h; rw [hqq] at hq; exact absurd (decide_eq_true h) (by rw [← hq]; decide))
        subst hqq
        clear hy hq
        go_wp2_with fail
        refine region_grown (by kernel_rfl) (by kernel_rfl) ?_
        repeat (go_big_quiet_step (first | (go_at_call 55; exact C38.out _)))
        refine wpQuiet_nil ?_
        rintro w9 ⟨⟨w8, hgl⟩, rfl⟩
        clear x0
        go_wp2_with fail
        go_round
        case rel => exact ⟨k + 1, by omega, by go_num, Lib.hid (HB.out.trans (hgl.mono HB.out.size)), Lib.hid (fun j h1 h => by
          rcases Nat.lt_succ_iff_lt_or_eq.1 h1 with h2 | rfl
          · exact HK.out j h2 h
          · exact HS.out)⟩
        case measure => simp only [intOf]; omega
      | true =>
        have HE : Hid (r = false) := Lib.hid (by
          rw [HR.out]
          rw [hqq] at hq
          exact decide_eq_false (fun h => h k hkl (by rw [← hy]; exact of_decide_eq_true hq.symm)))
        subst hqq
        clear hy hq
        go_wp2_with fail
        refine region_grown (by kernel_rfl) (by kernel_rfl) ?_
        repeat (go_big_quiet_step (first | (go_at_call 55; exact C38.out _)))
        refine wpQuiet_nil ?_
        rintro w9 ⟨⟨w8, hgl⟩, rfl⟩
        clear x0
        go_wp2_with fail
        go_ret
        exact ⟨by rw [HE.out]; rfl, HB.out.trans (hgl.mono HB.out.size)⟩
    · have HE : Hid (r = true) := Lib.hid (by rw [HR.out]; exact decide_eq_true (fun j h => HK.out j (by have := HN.out; omega) h))
      go_wp2
      go_ret
      exact ⟨by rw [HE.out]; rfl, HB.out⟩
end Go.Proofs.Ytifenpmkbnohhaa
namespace Go.Proofs.Ytifenpmkbnohhaa
open Go.RowKit
open Go.Proofs.StackM
set_option linter.unusedVariables false
/-- what spill tells: a state, and a row of keys -/
def spA (s : St) (r : R3) (A : Option Addr) (n c : Nat) : Array Value := (sA s r).push (.slice A n c)
theorem spA_len (s : St) (r : R3) (A : Option Addr) (n c : Nat) : (spA s r A n c).size = 21 := rfl
theorem spA_one (s : St) (r : R3) (A : Option Addr) (n c : Nat) : ((spA s r A n c).all fun x => x.oneCell') = true := by simp [spA, sA, Value.oneCell']
def B76 (w : World) (b : Nat) (cs : Array Value) : Prop := w.heap[b]? = some (.cells cs 94 (0, 0)) ∧ cs.size = 21
theorem B76.kept {w w' : World} {b B : Nat} {cs : Array Value} (h : B76 w b cs) (hb : Below B w w') (hB : b < B) : B76 w' b cs := ⟨by rw [hb.block b hB]; exact h.1, h.2⟩
theorem B76.lt {w : World} {b : Nat} {cs : Array Value} (h : B76 w b cs) : b < w.heap.size := (Array.getElem?_eq_some_iff.1 h.1).1
theorem B76.cellOther {w : World} {b : Nat} {cs : Array Value} {p : Addr} {v : Value} (h : B76 w b cs) (hne : b ≠ p.block) : B76 (w.setCell p v) b cs := ⟨by rw [Below.heap_setCell w p v b hne]; exact h.1, h.2⟩
theorem info76 : (Try.prog.info? 94).map (·.size) = some 21 := by kernel_rfl
theorem st76 {ops : Array Oper} {rest : List Oper} {o : Oper} {a : Act} {w : World} {Q : Exit → Act → World → Prop} (hgd : o.guard = none) (x y : Operand) (ho : o.op = .store 94 x y) (g : Nat) (s : St) (r : R3) (A : Option Addr) (n c : Nat) (hx : a.eval x = .pointer (some ⟨g, 0, none⟩)) (hy : a.eval y = .agg (spA s r A n c)) (cs : Array Value) (h : B76 w g cs)
    (hK : wpList Try.prog ops Q rest a (w.setRow g (spA s r A n c))) (hd : o.dst = none := by rfl) : wpList Try.prog ops Q (o :: rest) a w :=
  wpList_store_row hgd 94 x y ho g (spA s r A n c) hx hy 94 cs h.1 (by rw [spA_len]; exact info76) (by rw [spA_len, h.2]) (spA_one s r A n c) (by rw [hd]; exact hK)
theorem bld76run (s : St) (r : R3) (A : Option Addr) (n c : Nat) (w : World) : (Instr.build 94 #[(0, sV s r), (1, .slice A n c)]).run Try.prog w = .ok (.agg (spA s r A n c)) w := by
  simp [go_sem, Instr.build, Instr.fill, sA, spA, Result.andThen]
theorem bld76 {ops : Array Oper} {rest : List Oper} {o : Oper} {a : Act} {w : World} {Q : Exit → Act → World → Prop} (hg : o.guard = none) (x y : Operand) (ho : o.op = .build 94 #[(0, x), (1, y)]) (s : St) (r : R3) (A : Option Addr) (n c : Nat) (hx : a.eval x = sV s r) (hy : a.eval y = .slice A n c)
    (hK : wpList Try.prog ops Q rest (a.put o.dst (.agg (spA s r A n c))) w) : wpList Try.prog ops Q (o :: rest) a w := by
  refine wpList_plain hg fun K k => ?_
  unfold Oper.wp
  have := bld76run s r A n c w
  simp [execOp, ho, hx, hy, this]
  exact k _ _ hK
theorem results_sp {fn : Func} {p : Tmp} (h : fn.results = #[.cell p 94]) (tmps : Array Value) (w : World) (g : Nat) (cs : Array Value)
    (hp : tmps.getD p undef = .pointer (some ⟨g, 0, none⟩)) (hg : B76 w g cs) : (results fn tmps).run Try.prog w = .ok (.agg cs) w := by
  have hp' : tmps[p]?.getD undef = .pointer (some ⟨g, 0, none⟩) := by simpa using hp
  have hl : (loadVar 94 ⟨g, 0, none⟩).run Try.prog w = .ok (.agg cs) w := run_loadVar_row (P := Try.prog) w g 94 94 cs (0, 0) _ hg.1 Try.underlying94 rfl (by rw [hg.2]; kernel_rfl)
  simp only [results, h]
  simp [hp', asAddr, hl]
/-- the frame of spill -/
structure F3 (w : World) (r0 : R3) (w' : World) (s : St) (r : R3) : Prop where
  fr : Fr w (w.heap.size + 2) r0 w' w.heap.size s r
  res : ∃ cs, B76 w' (w.heap.size + 1) cs
section
variable {w w1 w2 : World} {r0 r : R3} {s : St}
theorem F3.keep (x : F3 w r0 w1 s r) (hb : Below w1.heap.size w1 w2) : F3 w r0 w2 s r := ⟨x.fr.keep hb, by obtain ⟨cs, h⟩ := x.res; exact ⟨cs, h.kept hb h.lt⟩⟩
theorem F3.cellset (x : F3 w r0 w1 s r) {k : Nat} {v : Value} {s' : St} {r' : R3} (y : Fr w (w.heap.size + 2) r0 (w1.setCell ⟨w.heap.size, k, none⟩ v) w.heap.size s' r') : F3 w r0 (w1.setCell ⟨w.heap.size, k, none⟩ v) s' r' := ⟨y, by obtain ⟨cs, h⟩ := x.res; exact ⟨cs, h.cellOther (by simp)⟩⟩
theorem F3.fresh (x : F3 w r0 w1 s r) {A : Option Addr} (h : ∀ a, A = some a → w1.heap.size ≤ a.block) : ∀ a, A = some a → w.heap.size + 2 ≤ a.block := fun a e => Nat.le_trans x.fr.hi (h a e)
theorem F3.start {s : St} {r : R3} (h : SR w s r) (cs : Array Value) (hc : cs.size = 21) : F3 w r ((w.alloc (.cells (sA s r) 31)).alloc (.cells cs 94)) s r :=
  ⟨Fr.start h _, cs, by
    refine ⟨?_, hc⟩
    rw [show w.heap.size + 1 = (w.alloc (.cells (sA s r) 31)).heap.size from by simp]
    exact heap_alloc_new _ _⟩
end
/-- the row of what is evicted stays where the box's cells are set -/
theorem owns_cell {w : World} {lo e sz n B k : Nat} {v u : Value} {xs : List Value} (ho : w.ownsRow lo e sz v n xs) (hB : B < lo) : (w.setCell ⟨B, k, none⟩ u).ownsRow lo e sz v n xs := by
  refine ho.kept (row := some B) ⟨rfl, rfl, rfl, by simp [World.setCell], fun j hj hne => Below.heap_setCell w ⟨B, k, none⟩ u j (fun e => hne (by rw [e]))⟩ ?_
  cases e : v.ownBlock with
  | none => exact .inl rfl
  | some g =>
    right
    intro e2
    have := (ho.lt g e).1
    injection e2 with e2
    omega
theorem owns_some {w : World} {base n : Nat} {e : TypeId} {size : Nat} {v : Value} {xs : List Value} (h : w.ownsRow base e size v n xs) (hn : 0 < n) : ∃ g cap, v = .slice (some ⟨g, 0, none⟩) n cap := by
  rcases h.2 with ⟨rfl, h0⟩ | ⟨g, cap, cur, rfl, _⟩
  · omega
  · exact ⟨_, _, rfl⟩
theorem run_append_foot {P : Program} (w : World) (base : Nat) (t ty e : TypeId) (i : TypeInfo) (z : Value) (size bytes : Nat) (ht : P.underlying t = some (.slice e)) (hi : P.info? e = some i) (hz : i.zero = some z)
    (hsize : i.size = size) (hby : i.bytes = bytes) (hzs : z.cells.size = size) (hsz : 0 < size)
    (v : Value) (n : Nat) (xs : List Value) (hown : w.ownsRow base e size v n xs)
    (a : Addr) (c : Nat) (ys : List Value) (hl : ys.length = size) (hnews : ∀ j u, ys[j]? = some u → w.cell? (a.add j) = some u) (h1' : ∀ u ∈ ys, u.oneCell' = true)
    (h63 : n + 1 ≤ maxLen) (hbytes : (n + 1) * bytes ≤ 140737488355328) (hbase : base ≤ w.heap.size) :
    ∃ g' cap' w', (Builtin.append_ #[t, t] ty #[v, .slice (some a) 1 c]).run P w = .ok (.slice (some ⟨g', 0, none⟩) (n + 1) cap') w' ∧ w'.ownsRow base e size (.slice (some ⟨g', 0, none⟩) (n + 1) cap') (n + 1) (xs ++ ys) ∧ w.grownBy w' v.ownBlock ∧
      (v.ownBlock = some g' ∨ w.heap.size ≤ g') := by
  have hl1 : ys.length = 1 * size := by omega
  obtain ⟨v', w', hrun, ho, hg, _⟩ := run_append_own (P := P) w base t ty e i z size bytes ht hi hz hsize hby hzs hsz v n xs hown a 1 c ys hl1 hnews h1' h63 hbytes hbase
  obtain ⟨g', cap', rfl⟩ := owns_some ho (by omega)
  refine ⟨g', cap', w', hrun, ho, hg, ?_⟩
  have h9 : n + 1 ≤ 9223372036854775807 := by unfold maxLen at h63; omega
  rcases hown.2 with ⟨rfl, rfl⟩ | ⟨g, cap, cur, rfl, hbg, hgb, hnc, hcm, hcs, htake⟩
  · obtain ⟨v2, w2, hrun2, ho2, _, _⟩ := run_append_own (P := P) w w.heap.size t ty e i z size bytes ht hi hz hsize hby hzs hsz (.slice none 0 0) 0 [] (World.ownsRow_nil w _ e size) a 1 c ys hl1 hnews h1' h63 hbytes (Nat.le_refl _)
    rw [hrun] at hrun2
    injection hrun2 with e1 _
    subst e1
    exact .inr (ho2.lt g' rfl).1
  · by_cases hroom : n + 1 ≤ cap
    · have hr := run_append_room (P := P) w t ty e i ht hi g n cap cur hgb a 1 c ys (by rw [hsize]; exact hl1) hnews h1' hroom (by
        rw [hsize, hl, hcs]
        have := Nat.mul_le_mul_right size hroom
        rw [Nat.add_mul] at this; omega)
      rw [hrun] at hr
      injection hr with e1 _
      injection e1 with e1
      injection e1 with e1
      injection e1 with e1
      exact .inl (by rw [e1]; rfl)
    · have hr := run_append_grow (P := P) w t ty e i z ht hi hz ⟨g, 0, none⟩ n cap xs (by rw [hsize]; exact hown.1) (hown.cells (g := g) rfl) a 1 c ys (by rw [hsize]; exact hl1) hnews (by omega) (by omega) (growslice_fits (by omega) (by rw [hby]; exact hbytes))
      rw [hrun] at hr
      injection hr with e1 _
      injection e1 with e1
      injection e1 with e1
      injection e1 with e1
      exact .inr (by rw [e1]; exact Nat.le_refl _)

theorem grown_any {w w' : World} (h : w.grownBy w' none) (row : Option Nat) : w.grownBy w' row := ⟨h.os, h.tape, h.output, h.size, fun k hk _ => h.block k hk (by simp)⟩
theorem grown_tr {a b c : World} {row : Option Nat} (h1 : a.grownBy b row) (h2 : b.grownBy c row) : a.grownBy c row :=
  ⟨h2.os.trans h1.os, h2.tape.trans h1.tape, h2.output.trans h1.output, Nat.le_trans h1.size h2.size, fun k hk hr => (h2.block k (Nat.lt_of_lt_of_le hk h1.size) hr).trans (h1.block k hk hr)⟩
/-- one key more in the row of what is evicted -/
theorem appU1 {w : World} {lo q : Nat} {v : Value} {l : List Int} (x : Int) (ho : w.ownsRow lo 27 1 v q (uvals l)) (hb : lo ≤ w.heap.size) (hq : q ≤ 900000) :
    ∃ g' cap' w2, (Builtin.append_ #[26, 26] 26 #[v, .slice (some ⟨w.heap.size, 0, none⟩) 1 1]).run Try.prog (w.alloc (.cells #[.int .u64 x] 27)) = .ok (.slice (some ⟨g', 0, none⟩) (q + 1) cap') w2 ∧ w2.ownsRow lo 27 1 (.slice (some ⟨g', 0, none⟩) (q + 1) cap') (q + 1) (uvals (l ++ [x])) ∧ w.grownBy w2 v.ownBlock ∧ (v.ownBlock = some g' ∨ w.heap.size ≤ g') := by
  obtain ⟨i0, hi, hz0, hz1, hz2⟩ := info_parts infoU
  have hs : (w.alloc (.cells #[.int .u64 x] 27)).heap.size = w.heap.size + 1 := by simp
  obtain ⟨g', cap', w2, h1, h2, h3, h4⟩ := run_append_foot (P := Try.prog) (w.alloc (.cells #[.int .u64 x] 27)) lo 26 26 27 i0 (.int .u64 0) 1 8 Try.underlying26 hi hz0 hz1 hz2 rfl (by decide) v q (uvals l) (own_below ho (alloc_below w _)) ⟨w.heap.size, 0, none⟩ 1 (uvals [x]) rfl (fun j u hu => by
    have hj : j < 1 := (List.getElem?_eq_some_iff.1 hu).1
    obtain rfl : j = 0 := by omega
    simp [uvals] at hu
    subst hu
    rw [Lib.add_plain, World.cell?_alloc_new]
    rfl) (uvals_one [x]) (by unfold maxLen; omega) (by omega) (by omega)
  refine ⟨g', cap', w2, h1, by rw [uvals_app]; exact h2, grown_tr (grown_any (World.grownBy_alloc w _ none) _) h3, ?_⟩
  rcases h4 with h4 | h4
  · exact .inl h4
  · exact .inr (by omega)
/-- the row of what is evicted is none of the state's rows -/
def Aw (v : Value) (r : R3) : Prop := ∀ g, v.ownBlock = some g → (∀ a, r.a1 = some a → a.block ≠ g) ∧ (∀ a, r.a2 = some a → a.block ≠ g) ∧ (∀ a, r.a3 = some a → a.block ≠ g)
theorem vrow_grown {w w' : World} {row : Option Nat} {A : Option Addr} {cap : Nat} {vs : List Value} (h : VRow w A cap vs) (hg : w.grownBy w' row) (ha : ∀ g, row = some g → ∀ a, A = some a → a.block ≠ g) : VRow w' A cap vs := by
  rcases h with h | ⟨b, off, e, h⟩
  · exact .inl h
  · refine .inr ⟨b, off, e, fun j hj => ?_⟩
    have hl := Lib.lt_of_cell (h j hj)
    rw [← h j hj]
    simp only [World.cell?]
    rw [hg.block b hl (fun e2 => ha b e2.symm _ e rfl)]
theorem F3.grown {w w1 w2 : World} {r0 r : R3} {s : St} {v : Value} (x : F3 w r0 w1 s r) (hg : w1.grownBy w2 v.ownBlock) (hv : ∀ g, v.ownBlock = some g → w.heap.size + 2 ≤ g) (ha : Aw v r) : F3 w r0 w2 s r := by
  have hne : ∀ k, k < w.heap.size + 2 → some k ≠ v.ownBlock := fun k hk e => by have := hv k e.symm; omega
  have hblk : ∀ k, k < w.heap.size + 2 → k < w1.heap.size → w2.heap[k]? = w1.heap[k]? := fun k h1 h2 => hg.block k h2 (hne k h1)
  refine ⟨⟨⟨by rw [hblk _ (by omega) x.fr.box.lt]; exact x.fr.box.1, x.fr.box.2⟩, ⟨⟨vrow_grown x.fr.rows.pg.row hg (fun g e => (ha g e).1), fun a e => Nat.lt_of_lt_of_le (x.fr.rows.pg.lt a e) hg.size, x.fr.rows.pg.le⟩, ⟨vrow_grown x.fr.rows.qu.row hg (fun g e => (ha g e).2.1), fun a e => Nat.lt_of_lt_of_le (x.fr.rows.qu.lt a e) hg.size, x.fr.rows.qu.le⟩, ⟨vrow_grown x.fr.rows.gh.row hg (fun g e => (ha g e).2.2), fun a e => Nat.lt_of_lt_of_le (x.fr.rows.gh.lt a e) hg.size, x.fr.rows.gh.le⟩⟩, x.fr.frm, x.fr.old, ?_, x.fr.lo, x.fr.up, Nat.le_trans x.fr.hi hg.size⟩, ?_⟩
  · exact ⟨hg.os.trans x.fr.bel.os, hg.tape.trans x.fr.bel.tape, hg.output.trans x.fr.bel.output, Nat.le_trans x.fr.bel.size hg.size, fun k hk => (hblk k (by omega) (by have := x.fr.bel.size; omega)).trans (x.fr.bel.block k hk)⟩
  · obtain ⟨cs, h⟩ := x.res
    exact ⟨cs, by rw [hblk _ (by omega) h.lt]; exact h.1, h.2⟩
theorem B76.rowSet {w : World} {b : Nat} {cs ds : Array Value} (h : B76 w b cs) (hd : ds.size = 21) : B76 (w.setRow b ds) b ds := by
  refine ⟨?_, hd⟩
  simp only [World.setRow, Array.getElem?_modify, ↓reduceIte, h.1, Option.map_some]
theorem Aw.fresh2 {w : World} {lo e sz n : Nat} {v : Value} {xs : List Value} {r : R3} {A : Option Addr} {c : Nat} (h : Aw v r) (ho : w.ownsRow lo e sz v n xs) (hA : ∀ a, A = some a → w.heap.size ≤ a.block) : Aw v { r with a2 := A, c2 := c } := fun g hg =>
  ⟨(h g hg).1, fun a e => by have := hA a e; have := (ho.lt g hg).2; omega, (h g hg).2.2⟩
/-- a row of pages is copied, and one page of it set -/
theorem pvals_set (l : List Pg) (i : Nat) (hi : i < l.length) (p : Pg) : pvals (l.set i p) = ((((pvals l).set (i * 4) (.int .u64 p.key)).set (i * 4 + 1) (.int .i64 p.kind)).set (i * 4 + 2) (.bool p.test)).set (i * 4 + 3) (.bool p.mark) := by
  induction l generalizing i with
  | nil => cases hi
  | cons a l ih =>
    cases i with
    | zero => rfl
    | succ i =>
      have e : ∀ q : List Pg, ∀ b : Pg, pvals (b :: q) = .int .u64 b.key :: .int .i64 b.kind :: .bool b.test :: .bool b.mark :: pvals q := fun _ _ => rfl
      rw [List.set_cons_succ, e, e, ih i (by simpa using hi)]
      have h0 : (i + 1) * 4 = i * 4 + 1 + 1 + 1 + 1 := by omega
      rw [h0]
      simp
/-- what spill tells -/
def SpPost (w : World) (r : R3) (s' : St) (out : List Int) (e : Ending) (w' : World) : Prop := ∃ r' A n c, e = .returned (.agg (spA s' r' A n c)) ∧ n = out.length ∧ SR w' s' r' ∧ UR w' A c out ∧ (∀ a, A = some a → w.heap.size ≤ a.block) ∧ Frm w.heap.size r r' ∧ Below w.heap.size w w'
theorem spS_many (s : St) (k : Int) : many (spS s k).pg 1 ≤ many s.pg 1 := by
  unfold spS; split
  · exact many_set _ _ _
  · exact Nat.le_refl _
def Lsp (s : St) : Prop := s.pg.length ≤ 60000 ∧ s.qu.length + s.gh.length ≤ 60000
theorem Lsp.lim {s : St} (h : Lsp s) : Lim s 100000 := ⟨by have := h.1; omega, by have := h.2; omega, by have := h.2; omega⟩
theorem spS_lsp {s : St} {k : Int} (hk : k ∈ s.qu) (h : Lsp s) : Lsp (spS s k) := by
  have h1 := ls_lt hk
  obtain ⟨h2, h3⟩ := h
  unfold spS; split
  · rename_i i hi
    refine ⟨by show (s.pg.set i ⟨k, 3, false, false⟩).length ≤ 60000; rw [List.length_set]; exact h2, ?_⟩
    show (ls s.qu k).length + (s.gh ++ [k]).length ≤ 60000
    simp only [List.length_append, List.length_singleton]
    omega
  · exact ⟨h2, by show (ls s.qu k).length + s.gh.length ≤ 60000; omega⟩
set_option maxHeartbeats 2000000 in
set_option maxRecDepth 100000 in
theorem spill_at (s : St) (r : R3) (most : Int) (h0 : 0 ≤ most ∧ most ≤ 100000) (hh : (many s.pg 1 : Int) ≤ most) (hl : Lim s 30000) (w : World) (hr : SR w s r) : Calls Try.prog 77 #[sV s r, .int .i64 most] w (SpPost w r (spill most s).1 (spill most s).2) := by
  have x := F3.start hr #[.int .i64 0, .int .i64 0, .int .i64 0, .int .i64 0, .int .i64 0, .slice none 0 0, .slice none 0 0, .slice none 0 0, .int .i64 0, .int .i64 0, .int .u64 0, .int .u64 0, .int .u64 0, .int .u64 0, .int .u64 0, .int .u64 0, .int .u64 0, .int .u64 0, .int .u64 0, .int .u64 0, .slice none 0 0] rfl
  obtain ⟨w1, hw1⟩ : ∃ w1, w1 = (w.alloc (.cells (sA s r) 31)).alloc (.cells #[.int .i64 0, .int .i64 0, .int .i64 0, .int .i64 0, .int .i64 0, .slice none 0 0, .slice none 0 0, .slice none 0 0, .int .i64 0, .int .i64 0, .int .u64 0, .int .u64 0, .int .u64 0, .int .u64 0, .int .u64 0, .int .u64 0, .int .u64 0, .int .u64 0, .int .u64 0, .int .u64 0, .slice none 0 0] 94) := ⟨_, rfl⟩
  rw [← hw1] at x
  have HA := Lib.hid hw1
  have HX := Lib.hid x
  have HL : Hid (Lsp s ∧ (many s.pg 1 : Int) ≤ most) := Lib.hid ⟨⟨by have := hl.1; omega, by have := hl.2.1; have := hl.2.2; omega⟩, hh⟩
  obtain ⟨h01, h02⟩ := h0
  clear x hw1 hl hr hh
  show Calls Try.prog 77 #[sV s r, .int .i64 most] w fun e w' => SpPost w r (spill most s).1 (spill most s).2 e w'
  go_enter Try.func77, Try.ntmps77
  go_wp2_with fail
  rw [← HA.out]
  go_loopw [5] (fun v wr => ∃ (cur : St) (rr : R3) (out : List Int) (q : Nat), Hid (F3 w r wr cur rr) ∧ Hid (Lsp cur ∧ (many cur.pg 1 : Int) ≤ most ∧ (spill most s).1 = (spill most cur).1 ∧ (spill most s).2 = out ++ (spill most cur).2 ∧ q = out.length ∧ q + cur.qu.length ≤ 30000 + 30000) ∧ Hid (wr.ownsRow (w.heap.size + 2) 27 1 v q (uvals out) ∧ Aw v rr)) (fun _ wr => lenAt wr w.heap.size 6)
  case atStart => exact ⟨s, r, [], 0, HX, Lib.hid ⟨HL.out.1, HL.out.2, rfl, by simp, rfl, by have := HL.out.1.2; omega⟩, Lib.hid ⟨by simpa [uvals] using World.ownsRow_nil w1 (w.heap.size + 2) 27 1, fun g hg => by cases hg⟩⟩
  case round =>
    obtain ⟨cur, rr, out, q, HF, HC, HO⟩ := hrel
    have HM := Lib.hid (lenAt_of (at6 HF.out.fr.box))
    obtain ⟨nh, hnh⟩ : ∃ n, n = many cur.pg 1 := ⟨_, rfl⟩
    obtain ⟨nq, hnq⟩ : ∃ n, n = cur.qu.length := ⟨_, rfl⟩
    have hql : nq ≤ 100000 := by rw [hnq]; exact HC.out.1.lim.2.1
    have hhl : nh ≤ 100000 := by rw [hnh]; have := many_le cur.pg 1; have := HC.out.1.1; omega
    have x5 : ∀ W : GrB wr, W.v.cell? ⟨w.heap.size, 5, none⟩ = some (.slice rr.a1 cur.pg.length rr.c1) := fun W => at5 (HF.out.keep W.h).fr.box
    have x6 : ∀ W : GrB wr, W.v.cell? ⟨w.heap.size, 6, none⟩ = some (.slice rr.a2 nq rr.c2) := fun W => by rw [hnq]; exact at6 (HF.out.keep W.h).fr.box
    have C23 : Hid (∀ W : GrB wr, Calls Try.prog 23 #[.slice rr.a1 cur.pg.length rr.c1, .int .i64 1] W.v fun e w' => e = .returned (.int .i64 (nh : Int)) ∧ ∃ W' : GrB wr, w' = W'.v) := Lib.hid (grown_call (w := wr) fun V hV => (many_at cur.pg 1 rr.a1 cur.pg.length rr.c1 rfl (by have := HC.out.1.1; omega) V (HF.out.keep hV).fr.rows.pg.row).mono fun e w' ⟨e1, e2⟩ => ⟨by rw [hnh]; exact e1, e2 ▸ Below.refl _ _⟩)
    have HNN := Lib.hid (And.intro hnh hnq)
    clear hnh hnq
    by_cases hm : most < (nh : Int) + (nq : Int)
    · go_wp2_with fail
      refine region_grown (by kernel_rfl) (by kernel_rfl) ?_
      repeat (go_big_quiet_step (first | (go_at_call 23; exact C23.out _)))
      refine wpQuiet_nil ?_
      rintro w9 ⟨⟨w8, hgl⟩, rfl⟩
      have HF9 := Lib.hid (HF.out.keep hgl)
      have HO9 := Lib.hid (own_below HO.out.1 hgl)
      have HA9 := Lib.hid HO.out.2
      clear x5 x6 C23 hgl HF HO
      have hpos : 0 < cur.qu.length := by
        rcases Nat.eq_zero_or_pos cur.qu.length with h | h
        · exfalso
          have h1 := HC.out.2.1
          have h2 := HNN.out.1
          have h3 := HNN.out.2
          omega
        · exact h
      obtain ⟨b, off, ha, hc⟩ := HF9.out.fr.rows.qu.row.at hpos
      have c0 := hc 0 hpos
      rw [Nat.add_zero] at c0
      obtain ⟨k, hk⟩ : ∃ k, k = cur.qu[0] := ⟨_, rfl⟩
      rw [← hk] at c0
      have hkr : ∃ t, cur.qu = k :: t := by
        cases e : cur.qu with
        | nil => rw [e] at hpos; simp at hpos
        | cons x t => exact ⟨t, by rw [hk]; simp [e]⟩
      obtain ⟨t, ht⟩ := hkr
      have hkm : k ∈ cur.qu := by rw [ht]; simp
      have hE := spill_step (most := most) (s := cur) (k := k) (r := t) (by rw [← HNN.out.1, ← HNN.out.2]; exact hm) ht
      have HE : Hid ((spill most s).1 = (spill most (spS cur k)).1 ∧ (spill most s).2 = (out ++ [k]) ++ (spill most (spS cur k)).2) := Lib.hid ⟨by rw [HC.out.2.2.1, hE], by rw [HC.out.2.2.2.1, hE]; simp⟩
      have HKM := Lib.hid hkm
      have d6 := at6 HF9.out.fr.box
      rw [← HNN.out.2, ha] at d6
      have z0 : (0 : Int) < (nq : Int) := by have := HNN.out.2; omega
      have C50 := less_at cur.qu k rr.a2 cur.qu.length rr.c2 rfl (by have := HC.out.1.2; omega) w9 HF9.out.fr.rows.qu.row
      rw [ha, ← HNN.out.2] at C50
      have HAA := Lib.hid ha
      clear hpos hc hk ht hkm hE ha hm
      go_wp2_with fail
      refine C50.mono ?_
      rintro e w3 ⟨A1, n1, k1, rfl, hn1, hp1, hf1, hb1⟩
      have x3 := HF9.out.keep hb1
      have o3 := own_below HO9.out hb1
      have y3 := x3.cellset (x3.fr.setQu hp1 (HF9.out.fresh hf1) hn1)
      have z3 := y3.cellset (y3.fr.setEv (up cur.ct.ev))
      have hvlt : ∀ g, u5.ownBlock = some g → w.heap.size + 2 ≤ g := fun g e => (o3.lt g e).1
      have aw3 : Aw u5 { rr with a2 := A1, c2 := k1 } := HA9.out.fresh2 HO9.out hf1
      have e6 := at6 x3.fr.box
      have f6 := x3.fr.box.free 6
      have o4 := owns_cell (B := w.heap.size) (k := 6) (u := .slice A1 n1 k1) o3 (by omega)
      obtain ⟨w4, hw4⟩ : ∃ w4, w4 = w3.setCell ⟨w.heap.size, 6, none⟩ (.slice A1 n1 k1) := ⟨_, rfl⟩
      rw [← hw4] at y3 o4
      obtain ⟨g5, c5, w5, hrun, o5, hg5, hn5⟩ := appU1 k o4 y3.fr.hi (by have := HC.out.2.2.2.2.2; omega)
      have x5 := y3.grown hg5 hvlt aw3
      have aw5 : Aw (.slice (some ⟨g5, 0, none⟩) (q + 1) c5) { rr with a2 := A1, c2 := k1 } := fun g hg => by
        injection hg with hg
        have hg : g5 = g := hg
        subst hg
        rcases hn5 with h | h
        · exact aw3 g5 h
        · exact ⟨fun a e => by have := y3.fr.rows.pg.lt a e; omega, fun a e => by have := y3.fr.rows.qu.lt a e; omega, fun a e => by have := y3.fr.rows.gh.lt a e; omega⟩
      have y5 := x5.cellset (x5.fr.setEv (up cur.ct.ev))
      have o5' := owns_cell (B := w.heap.size) (k := 15) (u := .int .u64 (up cur.ct.ev)) o5 (by omega)
      have e15 := at15 x5.fr.box
      have f15 := x5.fr.box.free 15
      have hup := wrap_up cur.ct.ev
      have d5 := at5 x5.fr.box
      obtain ⟨w6, hw6⟩ : ∃ w6, w6 = w5.setCell ⟨w.heap.size, 15, none⟩ (.int .u64 (up cur.ct.ev)) := ⟨_, rfl⟩
      rw [← hw6] at y5 o5'
      have s4 : w4.heap.size = w3.heap.size := by rw [hw4]; simp [World.setCell]
      rw [s4] at hrun
      have HR := Lib.hid hrun
      have HW4 := Lib.hid hw4
      have HW6 := Lib.hid hw6
      have H6 := Lib.hid (And.intro y5 (And.intro o5' aw5))
      rw [HAA.out] at e6
      clear C50 x3 o3 y3 hn1 hp1 hf1 hb1 d6 c0 s4 HF9 HO9 HA9 hvlt aw3 o4 hw4 hrun o5 hg5 hn5 x5 aw5 y5 o5' hw6
      go_wp2_with (at_builtin; rw [← HW4.out]; refine append_run rfl (.tmp 27) (.tmp 29) 26 rfl rfl rfl HR.out ?_)
      rw [← HW6.out]
      clear e6 f6 e15 f15 d5 hup HR HW4 HW6
      refine (find_at cur.pg k rr.a1 cur.pg.length rr.c1 rfl (by have := HC.out.1.1; omega) w6 H6.out.1.fr.rows.pg.row).mono ?_
      rintro e wf ⟨rfl, h7⟩
      have h7' := h7.symm
      subst h7'
      cases hf : fnd cur.pg k with
      | none =>
        have hfi : fi cur.pg k = -1 := by rw [fi, hf]
        rw [hfi]
        have hS : spS cur k = { cur with qu := ls cur.qu k, ct := { cur.ct with ev := up cur.ct.ev } } := by unfold spS; rw [hf]
        have HS := Lib.hid hS
        clear hf hfi hS
        go_wp2_with fail
        go_round
        case rel => exact ⟨spS cur k, _, out ++ [k], q + 1, by rw [HS.out]; exact H6.out.1, Lib.hid ⟨spS_lsp HKM.out HC.out.1, by have := spS_many cur k; have := HC.out.2.1; omega, HE.out.1, HE.out.2, by have := HC.out.2.2.2.2.1; simp; omega, by rw [spS_qu]; have := ls_lt HKM.out; have := HC.out.2.2.2.2.2; omega⟩, Lib.hid H6.out.2⟩
        case measure =>
          rw [HM.out, lenAt_of (at6 H6.out.1.fr.box)]
          exact ls_lt HKM.out
      | some i =>
        obtain ⟨hil, hik⟩ := fnd_at hf
        have hfi : fi cur.pg k = (i : Int) := by rw [fi, hf]
        rw [hfi]
        have hS : spS cur k = { cur with qu := ls cur.qu k, pg := cur.pg.set i ⟨k, 3, false, false⟩, gh := cur.gh ++ [k], ct := { cur.ct with ev := up cur.ct.ev } } := by unfold spS; rw [hf]
        have HS := Lib.hid hS
        have l0 : (w6.alloc (.cells #[] 59)).ownsRow w6.heap.size 59 4 (.slice (some ⟨w6.heap.size, 0, none⟩) 0 0) 0 (pvals []) := World.ownsRow_lit (base := w6.heap.size) (e := 59) (size := 4) w6 #[] 0 (Nat.le_refl _) (by decide) rfl
        have hpl := HC.out.1.1
        obtain ⟨v7, w7, hrun7, o7, hb7⟩ := appP (n := 0) (m := cur.pg.length) (r := cur.pg) (A := rr.a1) (cap := rr.c1) l0 (H6.out.1.fr.rows.pg.row.kept (alloc_below w6 (.cells #[] 59))) rfl (by omega) (alloc_below w6 (.cells #[] 59)).size
        rw [List.nil_append] at o7
        obtain ⟨g7, c7, rfl⟩ := owns_some o7 (by omega)
        have q7 := (alloc_below w6 (.cells #[] 59)).trans hb7
        have hg7 := o7.lt g7 rfl
        obtain ⟨a0, a1, a2, a3⟩ := pvals_at cur.pg i hil
        have m0 := o7.cellAt (i * 4) (by omega)
        have m1 := o7.cellAt (i * 4 + 1) (by omega)
        have m2 := o7.cellAt (i * 4 + 2) (by omega)
        have m3 := o7.cellAt (i * 4 + 3) (by omega)
        rw [a0] at m0
        rw [a1] at m1
        rw [a2] at m2
        rw [a3] at m3
        have t0 := o7.frozenAt (i * 4)
        have t1 := o7.frozenAt (i * 4 + 1)
        have t2 := o7.frozenAt (i * 4 + 2)
        have t3 := o7.frozenAt (i * 4 + 3)
        have o8 := (((o7.stored (i * 4) (.int .u64 k)).1.stored (i * 4 + 1) (.int .i64 3)).1.stored (i * 4 + 2) (.bool false)).1.stored (i * 4 + 3) (.bool false)
        have o8 := o8.1
        rw [← pvals_set cur.pg i hil ⟨k, 3, false, false⟩] at o8
        have b8 := below_setCell (k := i * 4 + 3) (v := .bool false) (below_setCell (k := i * 4 + 2) (v := .bool false) (below_setCell (k := i * 4 + 1) (v := .int .i64 3) (below_setCell (k := i * 4) (v := .int .u64 k) q7 hg7.1) hg7.1) hg7.1) hg7.1
        have x7 := H6.out.1.keep q7
        have e5 := at5 x7.fr.box
        have f5 := x7.fr.box.free 5
        have e7 := at7 x7.fr.box
        have hne : w.heap.size ≠ g7 := by have := H6.out.1.fr.box.lt; omega
        have d5 := at5 (H6.out.1.keep (alloc_below w6 (.cells #[] 59))).fr.box
        obtain ⟨w8, hw8⟩ : ∃ w8, w8 = (((w7.setCell ⟨g7, i * 4, none⟩ (.int .u64 k)).setCell ⟨g7, i * 4 + 1, none⟩ (.int .i64 3)).setCell ⟨g7, i * 4 + 2, none⟩ (.bool false)).setCell ⟨g7, i * 4 + 3, none⟩ (.bool false) := ⟨_, rfl⟩
        rw [← hw8] at o8 b8
        have x8 := H6.out.1.keep b8
        obtain ⟨A8, cc8, hA8, hcap8, hv8, hf8⟩ := owns_vrow o8
        have o9 := own_below H6.out.2.1 b8
        have aw8 : Aw (.slice (some ⟨g5, 0, none⟩) (q + 1) c5) { rr with a2 := A1, c2 := k1, a1 := A8, c1 := cc8 } := fun g hg => ⟨fun a e => by have := (hf8 a e).1; have := (H6.out.2.1.lt g hg).2; omega, (H6.out.2.2 g hg).2.1, (H6.out.2.2 g hg).2.2⟩
        have y8 := x8.cellset (x8.fr.setPg (l := cur.pg.set i ⟨k, 3, false, false⟩) (A := A8) (c := cc8) (n := 0 + cur.pg.length) ⟨hv8, fun a e => (hf8 a e).2, by rw [List.length_set]; omega⟩ (fun a e => by have := (hf8 a e).1; have := H6.out.1.fr.hi; omega) (by rw [List.length_set]; omega))
        have o9' := owns_cell (B := w.heap.size) (k := 5) (u := .slice A8 (0 + cur.pg.length) cc8) o9 (by omega)
        obtain ⟨w9', hw9⟩ : ∃ w9', w9' = w8.setCell ⟨w.heap.size, 5, none⟩ (.slice A8 (0 + cur.pg.length) cc8) := ⟨_, rfl⟩
        rw [← hw9] at y8 o9'
        have H9 := Lib.hid (And.intro y8 (And.intro o9' aw8))
        injection hA8 with hA1 hA2 hA3
        have HW9 := Lib.hid (And.intro hw8 (And.intro hw9 (And.intro hA1 hA3)))
        have R7 := Lib.hid hrun7
        have hi0 : (0 : Int) ≤ (i : Int) := by omega
        have hin : i < 0 + cur.pg.length := by omega
        clear hf hfi hS l0 hrun7 o7 hb7 q7 hg7 a0 a1 a2 a3 o8 b8 x7 hw8 x8 hcap8 hv8 hf8 o9 aw8 y8 o9' hw9 hA1 hA2 hA3 hik
        go_wp2_with (at_builtin; refine append_run rfl (.tmp 43) (.tmp 45) 25 rfl rfl rfl R7.out ?_)
        rw [← HW9.out.1]
        have e9 : w8.setCell ⟨w.heap.size, 5, none⟩ (.slice (some ⟨g7, 0, none⟩) cur.pg.length c7) = w9' := by rw [HW9.out.2.1, ← HW9.out.2.2.1, ← HW9.out.2.2.2, Nat.zero_add]
        rw [e9]
        clear e9 e5 f5 e7 hne d5 m0 m1 m2 m3 t0 t1 t2 t3 HW9 R7 hi0 hin
        refine (more_at cur.gh k rr.a3 cur.gh.length rr.c3 rfl (by have := HC.out.1.2; omega) w9' H9.out.1.fr.rows.gh.row).mono ?_
        rintro e w10 ⟨A2, n2, k2, rfl, hn2, hp2, hf2, hb2⟩
        have x10 := H9.out.1.keep hb2
        have y10 := x10.cellset (x10.fr.setGh hp2 (H9.out.1.fresh hf2) hn2)
        have o10 := owns_cell (B := w.heap.size) (k := 7) (u := .slice A2 n2 k2) (own_below H9.out.2.1 hb2) (by omega)
        have aw10 : Aw (.slice (some ⟨g5, 0, none⟩) (q + 1) c5) { rr with a2 := A1, c2 := k1, a1 := A8, c1 := cc8, a3 := A2, c3 := k2 } := fun g hg => ⟨(H9.out.2.2 g hg).1, (H9.out.2.2 g hg).2.1, fun a e => by have := hf2 a e; have := (H9.out.2.1.lt g hg).2; omega⟩
        have e7 := at7 x10.fr.box
        have f7 := x10.fr.box.free 7
        have HZ := Lib.hid (And.intro y10 (And.intro o10 aw10))
        clear x10 y10 o10 aw10 hn2 hp2 hf2 hb2 H9
        go_wp2_with fail
        go_round
        case rel => exact ⟨spS cur k, _, out ++ [k], q + 1, by rw [HS.out]; exact HZ.out.1, Lib.hid ⟨spS_lsp HKM.out HC.out.1, by have := spS_many cur k; have := HC.out.2.1; omega, HE.out.1, HE.out.2, by have := HC.out.2.2.2.2.1; simp; omega, by rw [spS_qu]; have := ls_lt HKM.out; have := HC.out.2.2.2.2.2; omega⟩, Lib.hid HZ.out.2⟩
        case measure =>
          rw [HM.out, lenAt_of (at6 HZ.out.1.fr.box)]
          exact ls_lt HKM.out
    · have HE : Hid ((spill most s).1 = cur ∧ (spill most s).2 = out) := Lib.hid (by
        have := spill_done (most := most) (s := cur) (by rw [← HNN.out.1, ← HNN.out.2]; exact hm)
        exact ⟨by rw [HC.out.2.2.1, this], by rw [HC.out.2.2.2.1, this]; simp⟩)
      have hd : decide (most < (nh : Int) + (nq : Int)) = false := decide_eq_false hm
      obtain ⟨cs, hcs⟩ := HF.out.res
      have HCS := Lib.hid hcs
      clear hcs hm
      go_wp2_with fail
      refine region_grown (by kernel_rfl) (by kernel_rfl) ?_
      repeat (go_big_quiet_step (first | (go_at_call 23; exact C23.out _)))
      refine wpQuiet_nil ?_
      rintro w9 ⟨⟨w8, hgl⟩, rfl⟩
      have HF9 := Lib.hid (HF.out.keep hgl)
      have HO9 := Lib.hid (own_below HO.out.1 hgl)
      have HR9 := Lib.hid (HCS.out.kept hgl HCS.out.lt)
      clear x5 x6 C23 hgl HF HO HCS
      obtain ⟨A, c, rfl, hcap, hv, hfr⟩ := owns_vrow HO9.out
      go_wp2_with (first | fail | refine ld31 rfl (.tmp 2) rfl _ rfl _ HF9.out.fr.box ?_ | refine bld76 rfl (.tmp 59) (.tmp 60) rfl cur rr A q c rfl rfl ?_ | refine st76 rfl (.tmp 4) (.tmp 61) rfl _ cur rr A q c rfl rfl _ HR9.out ?_)
      refine bodyPost_ret (results_sp rfl _ _ _ _ rfl (HR9.out.rowSet rfl)) rfl ?_
      rw [HE.out.1, HE.out.2]
      have hq := HC.out.2.2.2.2.1
      have hne : ∀ a, A = some a → a.block ≠ w.heap.size + 1 := fun a e => by have := (hfr a e).1; omega
      refine ⟨rr, A, q, c, rfl, hq, sr_row HF9.out.fr.rows HF9.out.fr.frm HF9.out.fr.old (Nat.le_succ _) (by omega) _, ⟨vrow_row hv hne, fun a e => by rw [size_setRow]; exact (hfr a e).2, by omega⟩, fun a e => by have := (hfr a e).1; omega, HF9.out.fr.frm.weak (by omega), below_setRow HF9.out.fr.bel (Nat.le_succ _)⟩
end Go.Proofs.Ytifenpmkbnohhaa
