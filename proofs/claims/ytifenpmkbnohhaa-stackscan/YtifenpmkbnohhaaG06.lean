/-
  The document's states: Admit of a key that is kept.
  Which configs may be: the document's.
  The document's states: New; which configs may be.
  The document's states: Resize.
  The document's states: what Admit and Resize ask, of right states.
-/
import Derived.Test.YtifenpmkbnohhaaG05
import Derived.Test.YtifenpmkbnohhaaG02
import Derived.Test.YtifenpmkbnohhaaG01
namespace Go.Proofs.Ytifenpmkbnohhaa
open Go.RowKit
open Go.Proofs.StackM
set_option linter.unusedVariables false
set_option maxHeartbeats 2000000 in
set_option maxRecDepth 100000 in
theorem admit_no (s : St) (r : R3) (k : Int) (hk : Kpt s k) (hl : Lim s 10000) (w : World) (hr : SR w s r) : Calls Try.prog 47 #[sV s r, .int .u64 k] w fun e w' => S3Post w r (admit s k) (admOut s k) false e w' := by
  have x := F2.start hr
  obtain ⟨w1, hw1⟩ : ∃ w1, w1 = (w.alloc (.cells (sA s r) 31)).alloc (.cells (sA S0 R0) 31) := ⟨_, rfl⟩
  rw [← hw1] at x
  have hA : (w.alloc (.cells (sA s r) 31)).alloc (.cells #[.int .i64 0, .int .i64 0, .int .i64 0, .int .i64 0, .int .i64 0, .slice none 0 0, .slice none 0 0, .slice none 0 0, .int .i64 0, .int .i64 0, .int .u64 0, .int .u64 0, .int .u64 0, .int .u64 0, .int .u64 0, .int .u64 0, .int .u64 0, .int .u64 0, .int .u64 0, .int .u64 0] 31) = w1 := hw1.symm
  have HA := Lib.hid hA
  have HX := Lib.hid x
  have C18 := Lib.hid (kept_at s r k (hl.up (by omega)) w1 x.fr.rows)
  rw [decide_eq_true hk] at C18
  rw [show admit s k = s by unfold admit; rw [if_pos hk], show admOut s k = [] by unfold admOut; rw [if_pos hk]]
  clear x hw1 hA hl hr hk
  go_enter Try.func47, Try.ntmps47
  go_wp2_with (first | fail | (rw [HA.out]; refine ld31 rfl (.tmp 2) rfl _ rfl _ HX.out.fr.box ?_))
  refine C18.out.mono ?_
  rintro e w2 ⟨rfl, hb2⟩
  have H2 := Lib.hid (HX.out.keep hb2)
  clear hb2 HX HA C18
  go_wp2_with (first | fail | refine ld31 rfl (.tmp 2) rfl _ rfl _ H2.out.fr.box ?_ | refine st31 rfl (.tmp 4) (.tmp 12) rfl _ _ _ rfl rfl _ H2.out.res ?_)
  refine bodyPost_ret (results_s3 rfl _ _ _ _ rfl (H2.out.res.rowSet (sA_len _ _))) rfl ?_
  have y := H2.out
  exact ⟨r, none, 0, 0, rfl, rfl, sr_row y.fr.rows y.fr.frm y.fr.old (Nat.le_succ _) (by omega) _, ⟨.inl ⟨rfl, rfl, rfl⟩, fun a e => (by cases e), Nat.le_refl _⟩, fun a e => (by cases e), y.fr.frm.weak (by omega), below_setRow y.fr.bel (Nat.le_succ _)⟩
end Go.Proofs.Ytifenpmkbnohhaa
namespace Go.Proofs.Ytifenpmkbnohhaa
open Go.RowKit
open Go.Proofs.StackM
set_option linter.unusedVariables false
def Mb (p c q g : Int) : Prop := (1 ≤ p ∧ p ≤ 4) ∧ (2 ≤ c ∧ c ≤ 256) ∧ (1 ≤ q ∧ q < c) ∧ (0 ≤ g ∧ g ≤ 512)
instance (p c q g : Int) : Decidable (Mb p c q g) := by unfold Mb; infer_instance
set_option maxHeartbeats 400000 in
set_option maxRecDepth 100000 in
theorem may_at (p c q g : Int) (w : World) : Calls Try.prog 26 #[.agg #[.int .i64 p, .int .i64 c, .int .i64 q, .int .i64 g]] w fun e w' => e = .returned (.bool (decide (Mb p c q g))) ∧ Below w.heap.size w w' := by
  by_cases hp1 : 1 ≤ p
  · by_cases hp2 : p ≤ 4
    · by_cases hc1 : 2 ≤ c
      · by_cases hc2 : c ≤ 256
        · by_cases hq1 : 1 ≤ q
          · by_cases hq2 : q < c
            · by_cases hg1 : 0 ≤ g
              · by_cases hg2 : g ≤ 512
                · rw [decide_eq_true (show Mb p c q g from ⟨⟨hp1, hp2⟩, ⟨hc1, hc2⟩, ⟨hq1, hq2⟩, ⟨hg1, hg2⟩⟩)]
                  go_enter Try.func26, Try.ntmps26
                  go_wp2
                  go_ret
                  exact ⟨rfl, alloc_below _ _⟩
                · rw [decide_eq_false (fun h : Mb p c q g => hg2 h.2.2.2.2)]
                  go_enter Try.func26, Try.ntmps26
                  go_wp2
                  go_ret
                  exact ⟨rfl, alloc_below _ _⟩
              · rw [decide_eq_false (fun h : Mb p c q g => hg1 h.2.2.2.1)]
                go_enter Try.func26, Try.ntmps26
                go_wp2
                go_ret
                exact ⟨rfl, alloc_below _ _⟩
            · rw [decide_eq_false (fun h : Mb p c q g => hq2 h.2.2.1.2)]
              go_enter Try.func26, Try.ntmps26
              go_wp2
              go_ret
              exact ⟨rfl, alloc_below _ _⟩
          · rw [decide_eq_false (fun h : Mb p c q g => hq1 h.2.2.1.1)]
            go_enter Try.func26, Try.ntmps26
            go_wp2
            go_ret
            exact ⟨rfl, alloc_below _ _⟩
        · rw [decide_eq_false (fun h : Mb p c q g => hc2 h.2.1.2)]
          go_enter Try.func26, Try.ntmps26
          go_wp2
          go_ret
          exact ⟨rfl, alloc_below _ _⟩
      · rw [decide_eq_false (fun h : Mb p c q g => hc1 h.2.1.1)]
        go_enter Try.func26, Try.ntmps26
        go_wp2
        go_ret
        exact ⟨rfl, alloc_below _ _⟩
    · rw [decide_eq_false (fun h : Mb p c q g => hp2 h.1.2)]
      go_enter Try.func26, Try.ntmps26
      go_wp2
      go_ret
      exact ⟨rfl, alloc_below _ _⟩
  · rw [decide_eq_false (fun h : Mb p c q g => hp1 h.1.1)]
    go_enter Try.func26, Try.ntmps26
    go_wp2
    go_ret
    exact ⟨rfl, alloc_below _ _⟩
end Go.Proofs.Ytifenpmkbnohhaa
namespace Go.Proofs.Ytifenpmkbnohhaa
open Go.RowKit
open Go.Proofs.StackM
set_option linter.unusedVariables false
abbrev cA (c : Cf) : Array Value := #[.int .i64 c.p, .int .i64 c.c, .int .i64 c.q, .int .i64 c.g]
abbrev cV (c : Cf) : Value := .agg (cA c)
def newS (c : Cf) : St := { S0 with cf := c }
theorem info24 : (Try.prog.info? 24).map (·.size) = some 4 := by kernel_rfl
theorem bld31run (c : Cf) (w : World) : (Instr.build 31 #[(0, cV c)]).run Try.prog w = .ok (sV (newS c) R0) w := by
  simp [go_sem, Instr.build, Instr.fill, sA, newS, S0, R0, Result.andThen]
theorem bld31 {ops : Array Oper} {rest : List Oper} {o : Oper} {a : Act} {w : World} {Q : Exit → Act → World → Prop} (hg : o.guard = none) (x : Operand) (ho : o.op = .build 31 #[(0, x)]) (c : Cf) (hx : a.eval x = cV c)
    (hK : wpList Try.prog ops Q rest (a.put o.dst (sV (newS c) R0)) w) : wpList Try.prog ops Q (o :: rest) a w := by
  refine wpList_plain hg fun K k => ?_
  unfold Oper.wp
  have := bld31run c w
  simp [execOp, ho, hx, this]
  exact k _ _ hK
set_option maxHeartbeats 2000000 in
set_option maxRecDepth 100000 in
theorem new_at (c : Cf) (w : World) : Calls Try.prog 21 #[cV c] w (SPost w R0 (newS c)) := by
  obtain ⟨w1, hw1⟩ : ∃ w1, w1 = (w.alloc (.cells (cA c) 24)).alloc (.cells (sA S0 R0) 31) := ⟨_, rfl⟩
  have hb1 := alloc_below w (.cells (cA c) 24)
  have hb2 := alloc_below (w.alloc (.cells (cA c) 24)) (.cells (sA S0 R0) 31)
  have hc : w1.heap[w.heap.size]? = some (.cells (cA c) 24 (0, 0)) := by
    rw [hw1, hb2.block _ (by simp)]
    exact heap_alloc_new _ _
  have hx : Box w1 (w.heap.size + 1) (sA S0 R0) := by
    have := box_alloc (w.alloc (.cells (cA c) 24)) (sA S0 R0) rfl
    rw [hw1]; simpa using this
  have hb : Below w.heap.size w w1 := by rw [hw1]; exact hb1.trans (hb2.mono hb1.size)
  have hA : (w.alloc (.cells #[.int .i64 c.p, .int .i64 c.c, .int .i64 c.q, .int .i64 c.g] 24)).alloc (.cells #[.int .i64 0, .int .i64 0, .int .i64 0, .int .i64 0, .int .i64 0, .slice none 0 0, .slice none 0 0, .slice none 0 0, .int .i64 0, .int .i64 0, .int .u64 0, .int .u64 0, .int .u64 0, .int .u64 0, .int .u64 0, .int .u64 0, .int .u64 0, .int .u64 0, .int .u64 0, .int .u64 0] 31) = w1 := hw1.symm
  have HA := Lib.hid hA
  have HC := Lib.hid hc
  have HX := Lib.hid hx
  have HB := Lib.hid hb
  clear hw1 hb1 hb2 hc hx hb hA
  show Calls Try.prog 21 #[cV c] w fun e w' => SPost w R0 (newS c) e w'
  go_enter Try.func21, Try.ntmps21
  go_wp2_with (first | fail | (rw [HA.out]; refine wpList_load_row rfl 24 (.tmp 1) rfl w.heap.size rfl 24 (cA c) (0, 0) _ HC.out Try.underlying24 rfl info24 ?_) | refine bld31 rfl (.tmp 3) rfl c rfl ?_ | refine st31 rfl (.tmp 2) (.tmp 4) rfl _ (newS c) R0 rfl rfl _ HX.out ?_)
  refine bodyPost_ret (results_s rfl _ _ _ _ rfl (HX.out.rowSet (sA_len _ _))) rfl ?_
  exact ⟨R0, rfl, ⟨⟨.inl ⟨rfl, rfl, rfl⟩, fun a e => (by cases e), Nat.le_refl _⟩, ⟨.inl ⟨rfl, rfl, rfl⟩, fun a e => (by cases e), Nat.le_refl _⟩, ⟨.inl ⟨rfl, rfl, rfl⟩, fun a e => (by cases e), Nat.le_refl _⟩⟩, Frm.refl _ _, below_setRow HB.out (Nat.le_succ _)⟩
def Mby (c : Cf) : Prop := Mb c.p c.c c.q c.g ∧ c.p = 1
instance (c : Cf) : Decidable (Mby c) := by unfold Mby; infer_instance
set_option maxHeartbeats 2000000 in
set_option maxRecDepth 100000 in
theorem lawMay_at (c : Cf) (w : World) : Calls Try.prog 20 #[cV c] w fun e w' => e = .returned (.bool (decide (Mby c))) ∧ Below w.heap.size w w' := by
  obtain ⟨w1, hw1⟩ : ∃ w1, w1 = w.alloc (.cells (cA c) 24) := ⟨_, rfl⟩
  have hb1 := alloc_below w (.cells (cA c) 24)
  have hc : w1.heap[w.heap.size]? = some (.cells (cA c) 24 (0, 0)) := by
    rw [hw1]
    exact heap_alloc_new _ _
  have hA : w.alloc (.cells #[.int .i64 c.p, .int .i64 c.c, .int .i64 c.q, .int .i64 c.g] 24) = w1 := hw1.symm
  rw [← hw1] at hb1
  have HA := Lib.hid hA
  have HC := Lib.hid hc
  have HB := Lib.hid hb1
  obtain ⟨b, hb⟩ : ∃ b, b = decide (Mby c) := ⟨_, rfl⟩
  obtain ⟨m, hm⟩ : ∃ m, m = decide (Mb c.p c.c c.q c.g) := ⟨_, rfl⟩
  have C26 := Lib.hid (may_at c.p c.c c.q c.g w1)
  rw [← hm] at C26
  have hbm : b = (m && decide (c.p = 1)) := by rw [hb, hm]; unfold Mby; exact Bool.decide_and _ _
  rw [← hb]
  clear hw1 hc hb1 hA hb hm
  show Calls Try.prog 20 #[cV c] w fun e w' => e = .returned (.bool b) ∧ Below w.heap.size w w'
  subst hbm
  go_enter Try.func20, Try.ntmps20
  go_wp2_with (first | fail | (rw [HA.out]; refine wpList_load_row rfl 24 (.tmp 1) rfl w.heap.size rfl 24 (cA c) (0, 0) _ HC.out Try.underlying24 rfl info24 ?_))
  refine C26.out.mono ?_
  rintro e w2 ⟨rfl, hb2⟩
  have c0 : w2.cell? ⟨w.heap.size, 0, none⟩ = some (.int .i64 c.p) := by
    rw [cell_of_row (w := w2) w.heap.size 0 (cA c) 24 (0, 0) (by rw [hb2.block _ (Array.getElem?_eq_some_iff.1 HC.out).1]; exact HC.out)]
    rfl
  have hbel := HB.out.trans (hb2.mono HB.out.size)
  clear HA HC HB C26 hb2
  cases m
  · go_wp2
    go_ret
    exact ⟨rfl, hbel⟩
  · by_cases hp : c.p = 1
    · go_wp2
      go_ret
      exact ⟨by simp [hp], hbel⟩
    · go_wp2
      go_ret
      exact ⟨by simp [hp], hbel⟩
end Go.Proofs.Ytifenpmkbnohhaa
namespace Go.Proofs.Ytifenpmkbnohhaa
open Go.RowKit
open Go.Proofs.StackM
set_option linter.unusedVariables false
/-- the frame of Resize -/
structure F4 (c : Cf) (w : World) (r0 : R3) (w' : World) (s : St) (r : R3) : Prop where
  fr : Fr w (w.heap.size + 3) r0 w' w.heap.size s r
  cfg : w'.heap[w.heap.size + 1]? = some (.cells (cA c) 24 (0, 0))
  res : Box w' (w.heap.size + 2) (sA S0 R0)
theorem F4.keep {c : Cf} {w w1 w2 : World} {r0 r : R3} {s : St} (x : F4 c w r0 w1 s r) (hb : Below w1.heap.size w1 w2) : F4 c w r0 w2 s r :=
  ⟨x.fr.keep hb, by rw [hb.block _ (Array.getElem?_eq_some_iff.1 x.cfg).1]; exact x.cfg, x.res.kept hb x.res.lt⟩
theorem F4.start {c : Cf} {w : World} {s : St} {r : R3} (h : SR w s r) : F4 c w r (((w.alloc (.cells (sA s r) 31)).alloc (.cells (cA c) 24)).alloc (.cells (sA S0 R0) 31)) s r := by
  have b1 := alloc_below w (.cells (sA s r) 31)
  have b2 := alloc_in b1 b1.size (.cells (cA c) 24)
  have b3 := alloc_in b2 b2.size (.cells (sA S0 R0) 31)
  have e2 := alloc_below (w.alloc (.cells (sA s r) 31)) (.cells (cA c) 24)
  have e3 := alloc_below ((w.alloc (.cells (sA s r) 31)).alloc (.cells (cA c) 24)) (.cells (sA S0 R0) 31)
  refine ⟨⟨((box_alloc w (sA s r) (sA_len _ _)).kept e2 (by simp)).kept e3 (by simp; omega), h.kept b3, Frm.refl _ _, h.old, b3, Nat.le_refl _, by omega, by simp⟩, ?_, ?_⟩
  · rw [e3.block _ (by simp)]
    have := heap_alloc_new (w.alloc (.cells (sA s r) 31)) (.cells (cA c) 24)
    simpa using this
  · have := box_alloc ((w.alloc (.cells (sA s r) 31)).alloc (.cells (cA c) 24)) (sA S0 R0) rfl
    simpa using this
theorem F4.cellset {c : Cf} {w w1 : World} {r0 r : R3} {s : St} (x : F4 c w r0 w1 s r) {k : Nat} {v : Value} {s' : St} {r' : R3} (y : Fr w (w.heap.size + 3) r0 (w1.setCell ⟨w.heap.size, k, none⟩ v) w.heap.size s' r') : F4 c w r0 (w1.setCell ⟨w.heap.size, k, none⟩ v) s' r' :=
  ⟨y, by rw [Below.heap_setCell w1 ⟨w.heap.size, k, none⟩ v _ (by show w.heap.size + 1 ≠ w.heap.size; omega)]; exact x.cfg, x.res.cellOther (by simp)⟩
/-- the config's four cells are set -/
theorem F4.setCf {c : Cf} {w w1 : World} {r0 r : R3} {s : St} (x : F4 c w r0 w1 s r) (d : Cf) : F4 c w r0 (w1.setCells w.heap.size 0 (cA d).toList) { s with cf := d } r := by
  have x1 := x.cellset (x.fr.set 0 (.int .i64 d.p) { s with cf := { s.cf with p := d.p } } r rfl ⟨x.fr.rows.pg, x.fr.rows.qu, x.fr.rows.gh⟩ x.fr.frm)
  have x2 := x1.cellset (x1.fr.set 1 (.int .i64 d.c) { s with cf := { s.cf with p := d.p, c := d.c } } r rfl ⟨x1.fr.rows.pg, x1.fr.rows.qu, x1.fr.rows.gh⟩ x.fr.frm)
  have x3 := x2.cellset (x2.fr.set 2 (.int .i64 d.q) { s with cf := { s.cf with p := d.p, c := d.c, q := d.q } } r rfl ⟨x2.fr.rows.pg, x2.fr.rows.qu, x2.fr.rows.gh⟩ x.fr.frm)
  have x4 := x3.cellset (x3.fr.set 3 (.int .i64 d.g) { s with cf := d } r rfl ⟨x3.fr.rows.pg, x3.fr.rows.qu, x3.fr.rows.gh⟩ x.fr.frm)
  exact x4
/-- what Resize tells -/
def SsPost (w : World) (r : R3) (s' : St) (out : List Int) (e : Ending) (w' : World) : Prop :=
  ∃ r' A n cc, e = .returned (.tuple #[sV s' r', .slice A n cc]) ∧ n = out.length ∧ SR w' s' r' ∧ UR w' A cc out ∧ (∀ a, A = some a → w.heap.size ≤ a.block) ∧ Frm w.heap.size r r' ∧ Below w.heap.size w w'
theorem lower_cf (s : St) : (lower s).cf = s.cf := lower_ind (P := fun t => t.cf = s.cf) (fun t p _ _ h => by rw [loS_cf]; exact h) s rfl
theorem range76 {w : World} {b : Nat} {s : St} {r : R3} {A : Option Addr} {n c : Nat} (h : B76 w b (spA s r A n c)) : w.rangeAt b 0 (sA s r).toList := fun j v hv => by
  rw [cell_of_row (w := w) b (0 + j) _ 94 (0, 0) h.1, Nat.zero_add, spA]
  have hj : j < (sA s r).size := by
    have := (List.getElem?_eq_some_iff.1 hv).1
    simpa using this
  rw [Array.getElem?_push_lt hj]
  have hv' : (sA s r)[j]? = some v := by simpa using hv
  rw [← hv', Array.getElem?_eq_getElem hj]
theorem exec76 {o : Oper} {a : Act} {w : World} {b : Nat} {s : St} {r : R3} {A : Option Addr} {n c : Nat} (x : Operand) (ho : o.op = .load 31 x) (hx : a.eval x = .pointer (some ⟨b, 0, none⟩)) (h : B76 w b (spA s r A n c)) : (execOp a.eval o).run Try.prog w = .ok (.value (sV s r)) w := by
  have := run_loadAt_mid (P := Try.prog) w b 0 31 (sA s r).toList _ (range76 h) Try.underlying31 rfl (by rw [info31]; rfl)
  simp only [Array.toArray_toList] at this
  simp [execOp, ho, hx, this]
structure Mid4 (c : Cf) (w : World) (r : R3) (wx : World) (s : St) (b : Nat) (s2 : St) (out : List Int) (r2 : R3) (A : Option Addr) (n cc : Nat) : Prop where
  f4 : F4 c w r wx s r
  b76 : B76 wx b (spA s2 r2 A n cc)
  n : n = out.length
  sr : SR wx s2 r2
  ur : UR wx A cc out
  fresh : ∀ a, A = some a → w.heap.size + 3 ≤ a.block
  frm : Frm (w.heap.size + 3) r r2
  lo : w.heap.size + 3 ≤ b
theorem mid_fin4 {c : Cf} {w w4 ws : World} {r r2 : R3} {s s2 : St} {b n cc : Nat} {A : Option Addr} {out : List Int} {cs : Array Value} (H4 : F4 c w r w4 s r) (hB : Below w4.heap.size w4 ws) (hb : w4.heap.size ≤ b) (h76 : B76 ws b cs) (hr2 : SR ws s2 r2) (ha : Ap b r2) (hu : UR ws A cc out)
    (hA : ∀ a, A = some a → a.block ≠ b) (hA2 : ∀ a, A = some a → w4.heap.size ≤ a.block) (hf : Frm w4.heap.size r r2) (hn : n = out.length) : Mid4 c w r (ws.setRow b (spA s2 r2 A n cc)) s b s2 out r2 A n cc :=
  ⟨H4.keep (below_setRow hB hb), h76.rowSet (spA_len _ _ _ _ _), hn, hr2.apRow ha, ⟨vrow_row hu.row hA, fun a e => by rw [size_setRow]; exact hu.lt a e, hu.le⟩, fun a e => Nat.le_trans H4.fr.hi (hA2 a e), hf.weak H4.fr.hi, Nat.le_trans H4.fr.hi hb⟩
set_option maxHeartbeats 2000000 in
set_option maxRecDepth 100000 in
theorem resize_at (s : St) (r : R3) (c : Cf) (hcf : Cok c) (hq : c.q ≤ c.c) (hm : (many (lower { s with cf := c }).pg 1 : Int) ≤ c.c) (hl : Lim s 10000) (hl2 : Lim (lower { s with cf := c }) 20000) (w : World) (hr : SR w s r) : Calls Try.prog 69 #[sV s r, cV c] w (SsPost w r (resize s c) (rsz s c).2) := by
  have x : F4 c w r _ s r := F4.start hr
  obtain ⟨w1, hw1⟩ : ∃ w1, w1 = ((w.alloc (.cells (sA s r) 31)).alloc (.cells (cA c) 24)).alloc (.cells (sA S0 R0) 31) := ⟨_, rfl⟩
  rw [← hw1] at x
  have hA : ((w.alloc (.cells (sA s r) 31)).alloc (.cells #[.int .i64 c.p, .int .i64 c.c, .int .i64 c.q, .int .i64 c.g] 24)).alloc (.cells #[.int .i64 0, .int .i64 0, .int .i64 0, .int .i64 0, .int .i64 0, .slice none 0 0, .slice none 0 0, .slice none 0 0, .int .i64 0, .int .i64 0, .int .u64 0, .int .u64 0, .int .u64 0, .int .u64 0, .int .u64 0, .int .u64 0, .int .u64 0, .int .u64 0, .int .u64 0, .int .u64 0] 31) = w1 := hw1.symm
  have HA := Lib.hid hA
  have HX := Lib.hid x
  have H1 := Lib.hid (x.setCf c)
  obtain ⟨s1, hs1⟩ : ∃ s1, s1 = { s with cf := c } := ⟨_, rfl⟩
  have HS1 := Lib.hid hs1
  have HRS : Hid (rsz s c = spill c.c (lower s1) ∧ resize s c = trim (rsz s c).1) := Lib.hid ⟨by rw [hs1]; rfl, rfl⟩
  rw [← hs1] at H1 hm hl2
  have HP := Lib.hid (And.intro hcf (And.intro hq (And.intro hm (And.intro hl hl2))))
  have hth : ∀ W : World, Box W w.heap.size (sA s r) → W.there w.heap.size 0 (cA c).size := fun W hB j hj => by
    have hj4 : j < 4 := hj
    have h20 : 0 + j < (sA s r).size := by rw [sA_len]; omega
    exact ⟨by rw [hB.cell (0 + j) _ (Array.getElem?_eq_getElem h20)]; rfl, hB.free _⟩
  have HT := Lib.hid (hth w1 x.fr.box)
  clear x hw1 hA hl hl2 hr hcf hq hm hs1 hth
  show Calls Try.prog 69 #[sV s r, cV c] w fun e w' => SsPost w r (resize s c) (rsz s c).2 e w'
  go_enter Try.func69, Try.ntmps69
  go_wp2_with (first | fail | (rw [HA.out]; refine wpList_load_row rfl 24 (.tmp 3) rfl (w.heap.size + 1) rfl 24 (cA c) (0, 0) _ HX.out.cfg Try.underlying24 rfl info24 ?_) | refine wpList_store_mid rfl 24 (.tmp 8) (.tmp 7) rfl w.heap.size 0 (cA c) rfl rfl HT.out info24 (by simp [Value.oneCell']) ?_)
  obtain ⟨w4, hw4⟩ : ∃ v, v = w1.setCells w.heap.size 0 (cA c).toList := ⟨_, rfl⟩
  rw [← hw4]
  have hx4 := H1.out
  rw [← hw4] at hx4
  have H4 := Lib.hid hx4
  clear hx4 hw4 H1 HX HT HA
  have C49 : Hid (∀ p : GrB w4, Calls Try.prog 89 #[sV s1 r] p.v (SPost p.v r (lower s1))) := Lib.hid fun p => lower_at s1 r (by rw [HS1.out]; exact HP.out.1) (by rw [HS1.out]; exact HP.out.2.1) (by rw [HS1.out]; exact HP.out.2.2.2.1.up (by omega)) p.v (H4.out.keep p.h).fr.rows
  have C45 : Hid (∀ (V : World) (r1 : R3), SR V (lower s1) r1 → Calls Try.prog 77 #[sV (lower s1) r1, .int .i64 c.c] V (SpPost V r1 (rsz s c).1 (rsz s c).2)) := Lib.hid fun V r1 h => by
    rw [HRS.out.1]
    exact spill_at (lower s1) r1 c.c HP.out.1.1 HP.out.2.2.1 (HP.out.2.2.2.2.up (by omega)) V h
  have d1 : ∀ p : GrB w4, p.v.cell? ⟨w.heap.size + 1, 1, none⟩ = some (.int .i64 c.c) := fun p => by
    rw [cell_of_row (w := p.v) (w.heap.size + 1) 1 (cA c) 24 (0, 0) (H4.out.keep p.h).cfg]
    rfl
  go_cut [6] from 9 to 13 (fun v6 wx => ∃ (b : Nat) (r2 : R3) (A : Option Addr) (n cc : Nat), v6 = .pointer (some ⟨b, 0, none⟩) ∧ Hid (Mid4 c w r wx s1 b (rsz s c).1 (rsz s c).2 r2 A n cc))
  case first =>
    refine wp_region_held_drew (S := fun w' => ∃ p : GrB w4, w' = p.v) (by kernel_rfl) ⟨⟨_, below_drew (Below.refl _ _) 1⟩, rfl⟩ (fun hHeld => ?_)
    have hB0 : Below w4.heap.size w4 w4.drew := below_drew (Below.refl _ _) 1
    generalize w4.drew = wd at hB0 hHeld ⊢
    refine wpAnyH_take (i := 0) (v := ?tval1) rfl (by kernel_rfl) (by kernel_rfl) (by kernel_rfl) (fun _ _ _ h => h) (Or.inl ⟨by rfl, ?teq1⟩) (by assumption) ?trest1
    case teq1 => (rintro _ ⟨p, rfl⟩; refine exec31 (.tmp 2) ?_ ?_ (H4.out.keep p.h).fr.box <;> rfl)
    try simp only [put_laws]
    refine wpAnyH_take (i := 2) (v := ?tval2) rfl (by kernel_rfl) (by kernel_rfl) (by kernel_rfl) (fun _ _ _ h => h) (Or.inl ⟨by rfl, ?teq2⟩) (by assumption) ?trest2
    case teq2 => (rintro _ ⟨p, rfl⟩; go_simp; with_reducible rfl)
    try simp only [put_laws]
    refine wpAnyH_take (i := 3) (v := ?tval3) rfl (by kernel_rfl) (by kernel_rfl) (by kernel_rfl) (fun _ _ _ h => h) (Or.inl ⟨by rfl, ?teq3⟩) (by assumption) ?trest3
    case teq3 => (rintro _ ⟨p, rfl⟩; have h0 := d1 p; go_simp; with_reducible rfl)
    try simp only [put_laws]
    refine wpAnyH_ready (rs := [1, 5]) (by kernel_rfl) (by simp) ?_
    refine AllReadyH.cons rfl (fun K hK => ?_) ?_
    · go_simp
      refine (C49.out ⟨wd, hB0⟩).mono ?_
      rintro e wg ⟨r1, rfl, hr1, hf1, hb1⟩
      have hb1 : Below (World.heap wd).size wd wg := hb1
      have hf1 : Frm (World.heap wd).size r r1 := hf1
      go_wp2_with fail
      have hB1 : Below w4.heap.size w4 wg := hB0.trans (hb1.mono hB0.size)
      refine hK.out _ _ ⟨⟨_, hB1⟩, rfl⟩ (fun hHeld => ?_)
      clear hK K
      try simp only [put_laws]
      refine wpAnyH_ready (rs := [4, 5]) (by kernel_rfl) (by simp) ?_
      refine AllReadyH.cons rfl (fun K hK => ?_) ?_
      · go_simp
        refine (C45.out wg r1 hr1).mono ?_
        rintro e ws ⟨r2, A, n, cc, rfl, hn, hr2, hu, hA, hf2, hb2⟩
        subst hn
        go_wp2_with fail
        have hB2 : Below w4.heap.size w4 ws := hB1.trans (hb2.mono hB1.size)
        refine hK.out _ _ ⟨⟨_, hB2⟩, rfl⟩ (fun hHeld => ?_)
        clear hK K
        try simp only [put_laws]
        refine wpAnyH_ready (rs := [5]) (by kernel_rfl) (by simp) ?_
        refine AllReadyH.cons rfl (fun K hK => ?_) ?_
        · go_simp
          obtain ⟨wa, hw5⟩ : ∃ v, v = World.alloc ws (.cells #[.int .i64 0, .int .i64 0, .int .i64 0, .int .i64 0, .int .i64 0, .slice none 0 0, .slice none 0 0, .slice none 0 0, .int .i64 0, .int .i64 0, .int .u64 0, .int .u64 0, .int .u64 0, .int .u64 0, .int .u64 0, .int .u64 0, .int .u64 0, .int .u64 0, .int .u64 0, .int .u64 0, .slice none 0 0] 94) := ⟨_, rfl⟩
          have hba := alloc_below ws (.cells #[.int .i64 0, .int .i64 0, .int .i64 0, .int .i64 0, .int .i64 0, .slice none 0 0, .slice none 0 0, .slice none 0 0, .int .i64 0, .int .i64 0, .int .u64 0, .int .u64 0, .int .u64 0, .int .u64 0, .int .u64 0, .int .u64 0, .int .u64 0, .int .u64 0, .int .u64 0, .int .u64 0, .slice none 0 0] 94)
          have h76 : B76 wa (World.heap ws).size #[.int .i64 0, .int .i64 0, .int .i64 0, .int .i64 0, .int .i64 0, .slice none 0 0, .slice none 0 0, .slice none 0 0, .int .i64 0, .int .i64 0, .int .u64 0, .int .u64 0, .int .u64 0, .int .u64 0, .int .u64 0, .int .u64 0, .int .u64 0, .int .u64 0, .int .u64 0, .int .u64 0, .slice none 0 0] := hw5 ▸ b76_alloc ws _ rfl
          have hs5 : wa.heap.size = (World.heap ws).size + 1 := by rw [hw5]; simp
          rw [← hw5] at hba
          have hB3 : Below w4.heap.size w4 wa := hB2.trans (hba.mono hB2.size)
          rw [show World.alloc ws _ = wa from hw5.symm]
          refine hK.out _ _ ⟨⟨wa, hB3⟩, rfl⟩ (fun hHeld => ?_)
          clear hK K hw5
          try simp only [put_laws]
          refine wpAnyH_ready (rs := [6]) (by kernel_rfl) (by simp) ?_
          refine AllReadyH.cons rfl (fun K hK => ?_) ?_
          · refine step76 rfl (.tmp 6) (.tmp 13) rfl _ (rsz s c).1 r2 A _ cc rfl rfl _ h76 ?_
            have HM := Lib.hid (mid_fin4 H4.out hB3 hB2.size h76 (hr2.kept hba) (hr2.old.ap (Nat.le_refl _)) (hu.kept hba) (fun a e => by have := hu.lt a e; omega) (fun a e => by have := hA a e; have := hB1.size; omega) ((hf1.weak hB0.size).trans hf2 hB1.size) rfl)
            refine hK.out _ _ ⟨⟨_, below_setRow hB3 hB2.size⟩, rfl⟩ (fun hHeld => ?_)
            clear hK K
            try simp only [put_laws]
            refine wpAnyH_done (by kernel_rfl) ?_ _
            go_wp2
            go_meet
            exact ⟨_, r2, A, _, cc, rfl, HM⟩
          exact AllReadyH.nil
        exact AllReadyH.nil
      refine AllReadyH.cons rfl (fun K hK => ?_) ?_
      · go_simp
        obtain ⟨wa, hw5⟩ : ∃ v, v = World.alloc wg (.cells #[.int .i64 0, .int .i64 0, .int .i64 0, .int .i64 0, .int .i64 0, .slice none 0 0, .slice none 0 0, .slice none 0 0, .int .i64 0, .int .i64 0, .int .u64 0, .int .u64 0, .int .u64 0, .int .u64 0, .int .u64 0, .int .u64 0, .int .u64 0, .int .u64 0, .int .u64 0, .int .u64 0, .slice none 0 0] 94) := ⟨_, rfl⟩
        have hba := alloc_below wg (.cells #[.int .i64 0, .int .i64 0, .int .i64 0, .int .i64 0, .int .i64 0, .slice none 0 0, .slice none 0 0, .slice none 0 0, .int .i64 0, .int .i64 0, .int .u64 0, .int .u64 0, .int .u64 0, .int .u64 0, .int .u64 0, .int .u64 0, .int .u64 0, .int .u64 0, .int .u64 0, .int .u64 0, .slice none 0 0] 94)
        have h76 : B76 wa (World.heap wg).size #[.int .i64 0, .int .i64 0, .int .i64 0, .int .i64 0, .int .i64 0, .slice none 0 0, .slice none 0 0, .slice none 0 0, .int .i64 0, .int .i64 0, .int .u64 0, .int .u64 0, .int .u64 0, .int .u64 0, .int .u64 0, .int .u64 0, .int .u64 0, .int .u64 0, .int .u64 0, .int .u64 0, .slice none 0 0] := hw5 ▸ b76_alloc wg _ rfl
        have hs5 : wa.heap.size = (World.heap wg).size + 1 := by rw [hw5]; simp
        rw [← hw5] at hba
        have hB2 : Below w4.heap.size w4 wa := hB1.trans (hba.mono hB1.size)
        rw [show World.alloc wg _ = wa from hw5.symm]
        refine hK.out _ _ ⟨⟨wa, hB2⟩, rfl⟩ (fun hHeld => ?_)
        clear hK K hw5
        try simp only [put_laws]
        refine wpAnyH_ready (rs := [4]) (by kernel_rfl) (by simp) ?_
        refine AllReadyH.cons rfl (fun K hK => ?_) ?_
        · go_simp
          refine (C45.out wa r1 (hr1.kept hba)).mono ?_
          rintro e ws ⟨r2, A, n, cc, rfl, hn, hr2, hu, hA, hf2, hb2⟩
          subst hn
          go_wp2_with fail
          have hB3 : Below w4.heap.size w4 ws := hB2.trans (hb2.mono hB2.size)
          refine hK.out _ _ ⟨⟨_, hB3⟩, rfl⟩ (fun hHeld => ?_)
          clear hK K
          try simp only [put_laws]
          refine wpAnyH_ready (rs := [6]) (by kernel_rfl) (by simp) ?_
          refine AllReadyH.cons rfl (fun K hK => ?_) ?_
          · refine step76 rfl (.tmp 6) (.tmp 13) rfl _ (rsz s c).1 r2 A _ cc rfl rfl _ (h76.kept hb2 h76.lt) ?_
            have HM := Lib.hid (mid_fin4 H4.out hB3 hB1.size (h76.kept hb2 h76.lt) hr2 ((hr1.old.ap (Nat.le_refl _)).frm hf2 (by omega)) hu (fun a e => by have := hA a e; omega) (fun a e => by have := hA a e; have := hB2.size; omega) ((hf1.weak hB0.size).trans hf2 hB2.size) rfl)
            refine hK.out _ _ ⟨⟨_, below_setRow hB3 hB1.size⟩, rfl⟩ (fun hHeld => ?_)
            clear hK K
            try simp only [put_laws]
            refine wpAnyH_done (by kernel_rfl) ?_ _
            go_wp2
            go_meet
            exact ⟨_, r2, A, _, cc, rfl, HM⟩
          exact AllReadyH.nil
        exact AllReadyH.nil
      exact AllReadyH.nil
    refine AllReadyH.cons rfl (fun K hK => ?_) ?_
    · go_simp
      obtain ⟨wa, hw5⟩ : ∃ v, v = World.alloc wd (.cells #[.int .i64 0, .int .i64 0, .int .i64 0, .int .i64 0, .int .i64 0, .slice none 0 0, .slice none 0 0, .slice none 0 0, .int .i64 0, .int .i64 0, .int .u64 0, .int .u64 0, .int .u64 0, .int .u64 0, .int .u64 0, .int .u64 0, .int .u64 0, .int .u64 0, .int .u64 0, .int .u64 0, .slice none 0 0] 94) := ⟨_, rfl⟩
      have hba := alloc_below wd (.cells #[.int .i64 0, .int .i64 0, .int .i64 0, .int .i64 0, .int .i64 0, .slice none 0 0, .slice none 0 0, .slice none 0 0, .int .i64 0, .int .i64 0, .int .u64 0, .int .u64 0, .int .u64 0, .int .u64 0, .int .u64 0, .int .u64 0, .int .u64 0, .int .u64 0, .int .u64 0, .int .u64 0, .slice none 0 0] 94)
      have h76 : B76 wa (World.heap wd).size #[.int .i64 0, .int .i64 0, .int .i64 0, .int .i64 0, .int .i64 0, .slice none 0 0, .slice none 0 0, .slice none 0 0, .int .i64 0, .int .i64 0, .int .u64 0, .int .u64 0, .int .u64 0, .int .u64 0, .int .u64 0, .int .u64 0, .int .u64 0, .int .u64 0, .int .u64 0, .int .u64 0, .slice none 0 0] := hw5 ▸ b76_alloc wd _ rfl
      have hs5 : wa.heap.size = (World.heap wd).size + 1 := by rw [hw5]; simp
      rw [← hw5] at hba
      have hB1 : Below w4.heap.size w4 wa := hB0.trans (hba.mono hB0.size)
      rw [show World.alloc wd _ = wa from hw5.symm]
      refine hK.out _ _ ⟨⟨wa, hB1⟩, rfl⟩ (fun hHeld => ?_)
      clear hK K hw5
      try simp only [put_laws]
      refine wpAnyH_ready (rs := [1]) (by kernel_rfl) (by simp) ?_
      refine AllReadyH.cons rfl (fun K hK => ?_) ?_
      · go_simp
        refine (C49.out ⟨wa, hB1⟩).mono ?_
        rintro e wg ⟨r1, rfl, hr1, hf1, hb1⟩
        have hb1 : Below (World.heap wa).size wa wg := hb1
        have hf1 : Frm (World.heap wa).size r r1 := hf1
        go_wp2_with fail
        have hB2 : Below w4.heap.size w4 wg := hB1.trans (hb1.mono hB1.size)
        refine hK.out _ _ ⟨⟨_, hB2⟩, rfl⟩ (fun hHeld => ?_)
        clear hK K
        try simp only [put_laws]
        refine wpAnyH_ready (rs := [4]) (by kernel_rfl) (by simp) ?_
        refine AllReadyH.cons rfl (fun K hK => ?_) ?_
        · go_simp
          refine (C45.out wg r1 hr1).mono ?_
          rintro e ws ⟨r2, A, n, cc, rfl, hn, hr2, hu, hA, hf2, hb2⟩
          subst hn
          go_wp2_with fail
          have hB3 : Below w4.heap.size w4 ws := hB2.trans (hb2.mono hB2.size)
          refine hK.out _ _ ⟨⟨_, hB3⟩, rfl⟩ (fun hHeld => ?_)
          clear hK K
          try simp only [put_laws]
          refine wpAnyH_ready (rs := [6]) (by kernel_rfl) (by simp) ?_
          refine AllReadyH.cons rfl (fun K hK => ?_) ?_
          · refine step76 rfl (.tmp 6) (.tmp 13) rfl _ (rsz s c).1 r2 A _ cc rfl rfl _ ((h76.kept hb1 h76.lt).kept hb2 (h76.kept hb1 h76.lt).lt) ?_
            have HM := Lib.hid (mid_fin4 H4.out hB3 hB0.size ((h76.kept hb1 h76.lt).kept hb2 (h76.kept hb1 h76.lt).lt) hr2 (((H4.out.fr.old.ap (Nat.le_trans H4.out.fr.bel.size hB0.size)).frm hf1 (by omega)).frm hf2 (by have := hb1.size; omega)) hu (fun a e => by have := hA a e; have := hb1.size; omega) (fun a e => by have := hA a e; have := hB2.size; omega) ((hf1.weak hB1.size).trans hf2 hB2.size) rfl)
            refine hK.out _ _ ⟨⟨_, below_setRow hB3 hB0.size⟩, rfl⟩ (fun hHeld => ?_)
            clear hK K
            try simp only [put_laws]
            refine wpAnyH_done (by kernel_rfl) ?_ _
            go_wp2
            go_meet
            exact ⟨_, r2, A, _, cc, rfl, HM⟩
          exact AllReadyH.nil
        exact AllReadyH.nil
      exact AllReadyH.nil
    exact AllReadyH.nil
  case rest =>
    obtain ⟨b, r2, A, n, cc, rfl, HM⟩ := hcut
    have HS : Hid (Lim (rsz s c).1 60000 ∧ (rsz s c).1.cf.g = c.g) := Lib.hid ⟨by
      rw [HRS.out.1]
      have h := HP.out.2.2.2.2
      have h2 : Lq 20000 40000 (lower s1) := ⟨h.1, by have := h.2.1; have := h.2.2; omega⟩
      exact (spill_lq h2).lim, by rw [HRS.out.1, spill_cf, lower_cf, HS1.out]⟩
    have HRZ := Lib.hid HRS.out.2
    obtain ⟨s2, hs2⟩ : ∃ s2, s2 = (rsz s c).1 := ⟨_, rfl⟩
    obtain ⟨out, hout⟩ : ∃ out, out = (rsz s c).2 := ⟨_, rfl⟩
    rw [← hs2] at HS HRZ
    rw [← hs2, ← hout] at HM
    have HO := Lib.hid hout
    clear C45 C49 d1 hs2 hout H4 HRS
    go_wp2_with fail
    refine wp_region_held_drew (S := fun W' => B76 W' b (spA s2 r2 A n cc)) (by kernel_rfl) (HM.out.b76.kept (below_drew (Below.refl _ _) 1) HM.out.b76.lt) (fun hHeld => ?_)
    have y0 : F4 c w r (World.drew wc) s1 r := HM.out.f4.keep (below_drew (Below.refl _ _) 1)
    have u0 : UR (World.drew wc) A cc out := HM.out.ur.kept (below_drew (Below.refl _ _) 1)
    have z0 : SR (World.drew wc) s2 r2 := HM.out.sr.kept (below_drew (Below.refl _ _) 1)
    generalize World.drew wc = wd at hHeld y0 u0 z0 ⊢
    refine wpAnyH_take (i := 0) (v := ?tval4) rfl (by kernel_rfl) (by kernel_rfl) (by kernel_rfl) (fun _ _ _ h => h) (Or.inl ⟨by rfl, ?teq4⟩) (by assumption) ?trest4
    case teq4 => (rintro _ p; go_simp; with_reducible rfl)
    try simp only [put_laws]
    refine wpAnyH_take (i := 1) (v := ?tval5) rfl (by kernel_rfl) (by kernel_rfl) (by kernel_rfl) (fun _ _ _ h => h) (Or.inl ⟨by rfl, ?teq5⟩) (by assumption) ?trest5
    case teq5 => (rintro _ p; refine exec76 (.tmp 14) ?_ ?_ p <;> rfl)
    try simp only [put_laws]
    refine wpAnyH_take (i := 3) (v := ?tval6) rfl (by kernel_rfl) (by kernel_rfl) (by kernel_rfl) (fun _ _ _ h => h) (Or.inl ⟨by rfl, ?teq6⟩) (by assumption) ?trest6
    case teq6 => (rintro _ p; go_simp; with_reducible rfl)
    try simp only [put_laws]
    refine wpAnyH_take (i := 4) (v := ?tval7) rfl (by kernel_rfl) (by kernel_rfl) (by kernel_rfl) (fun _ _ _ h => h) (Or.inl ⟨by rfl, ?teq7⟩) (by assumption) ?trest7
    case teq7 => (rintro _ p; have h0 := row76 p; go_simp; with_reducible rfl)
    try simp only [put_laws]
    refine wpAnyH_ready (rs := [2]) (by kernel_rfl) (by simp) ?_
    refine AllReadyH.cons rfl (fun K hK => ?_) ?_
    · go_simp
      refine (trim_at s2 r2 (by rw [HS.out.2]; exact HP.out.1.2.2.1) (HS.out.1.up (by omega)) wd z0).mono ?_
      rintro e w8 ⟨r8, rfl, hr8, hf8, hb8⟩
      have y8 := y0.keep hb8
      have f8 : Frm (w.heap.size + 3) r r8 := HM.out.frm.trans hf8 y0.fr.hi
      have u8 := u0.kept hb8
      have q8 := hHeld.kept hb8 hHeld.lt
      go_wp2_with fail
      refine hK.out _ _ q8 (fun hHeld => ?_)
      clear hK K
      try simp only [put_laws]
      refine wpAnyH_ready (rs := [5]) (by kernel_rfl) (by simp) ?_
      refine AllReadyH.cons rfl (fun K hK => ?_) ?_
      · refine step31 rfl (.tmp 4) (.tmp 16) rfl _ (trim s2) r8 rfl rfl _ y8.res ?_
        have hl0 := HM.out.lo
        refine hK.out _ _ (q8.other (by omega) _) (fun hHeld => ?_)
        clear hK K
        try simp only [put_laws]
        refine wpAnyH_ready (rs := [6]) (by kernel_rfl) (by simp) ?_
        refine AllReadyH.cons rfl (fun K hK => ?_) ?_
        · go_simp
          refine hK.out _ _ hHeld (fun hHeld => ?_)
          clear hK K
          try simp only [put_laws]
          refine wpAnyH_done (by kernel_rfl) ?_ _
          go_wp2_with fail
          refine bodyPost_ret (results_s2 rfl _ _ _ _ rfl (y8.res.rowSet (sA_len _ _))) rfl ?_
          show SsPost w r (resize s c) (rsz s c).2 _ _
          rw [HRZ.out, ← HO.out]
          exact ⟨r8, A, n, cc, rfl, HM.out.n, sr_row hr8 f8 y8.fr.old (by omega) (by omega) _, ⟨vrow_row u8.row (fun a e => by have := HM.out.fresh a e; omega), fun a e => by rw [size_setRow]; exact u8.lt a e, u8.le⟩, fun a e => by have := HM.out.fresh a e; omega, f8.weak (by omega), below_setRow y8.fr.bel (by omega)⟩
        exact AllReadyH.nil
      exact AllReadyH.nil
    exact AllReadyH.nil
end Go.Proofs.Ytifenpmkbnohhaa
namespace Go.Proofs.Ytifenpmkbnohhaa
open Go.RowKit
open Go.Proofs.StackM
set_option linter.unusedVariables false
theorem cl_ok {c : Cf} (h : Cl c) : Cok c := ⟨by have := h.2.1; omega, by have := h.2.1; have := h.2.2.1; omega, by have := h.2.2.2; omega⟩
def Lsm (s : St) : Prop := s.pg.length + s.qu.length ≤ 20000 ∧ s.gh.length ≤ 10000
theorem loS_lsm {s : St} {p : Pg} (hp : s.pg.getLast? = some p) (h : Lsm s) : Lsm (loS s p) := by
  have h1 := wo_lt (List.mem_of_getLast? hp)
  have h2 := prune_len { s with pg := wo s.pg p.key, qu := s.qu ++ [p.key], ct := { s.ct with lo := up s.ct.lo } }
  have h3 := prune_qu { s with pg := wo s.pg p.key, qu := s.qu ++ [p.key], ct := { s.ct with lo := up s.ct.lo } }
  have h4 := prune_ghl { s with pg := wo s.pg p.key, qu := s.qu ++ [p.key], ct := { s.ct with lo := up s.ct.lo } }
  obtain ⟨h5, h6⟩ := h
  unfold Lsm loS
  rw [h3]
  dsimp only at h2 h4
  simp only [List.length_append, List.length_singleton]
  exact ⟨by omega, by omega⟩
theorem lower_lim2 {s : St} (h : Lim s 10000) : Lim (lower s) 20000 := by
  have h0 : Lsm s := ⟨by have := h.1; have := h.2.1; omega, h.2.2⟩
  have := lower_ind (P := Lsm) (fun t p _ hp ht => loS_lsm hp ht) s h0
  exact ⟨by have := this.1; omega, by have := this.1; omega, by have := this.2; omega⟩
/-- Admit, of a right state -/
theorem admit_at (s : St) (r : R3) (k : Int) (h : Rg s) (hl : Lim s 10000) (w : World) (hr : SR w s r) : Calls Try.prog 47 #[sV s r, .int .u64 k] w fun e w' => S3Post w r (admit s k) (admOut s k) (!decide (Kpt s k)) e w' := by
  by_cases hk : Kpt s k
  · rw [decide_eq_true hk]
    exact admit_no s r k hk hl w hr
  · rw [decide_eq_false hk]
    have h1 := many_wo s.pg k 1
    have h2 := h.b1
    have h3 := h.cl.2.2.1
    exact admit_yes s r k hk (cl_ok h.cl) (by have := h.cl.2.1; omega) (by
      show (many (wo s.pg k) 1 : Int) ≤ s.cf.c - 1
      dsimp only [H] at h2
      omega) (by omega) hl w hr
/-- Resize, to a config that may be -/
theorem resize_yes (s : St) (r : R3) (c : Cf) (hc : Cl c) (hl : Lim s 10000) (w : World) (hr : SR w s r) : Calls Try.prog 69 #[sV s r, cV c] w (SsPost w r (resize s c) (rsz s c).2) := by
  have h3 := hc.2.2.1
  have hm := lower_room { s with cf := c } (by show 0 ≤ c.c - c.q; omega)
  have hm' : (many (lower { s with cf := c }).pg 1 : Int) ≤ c.c - c.q := hm
  have hl' : Lim { s with cf := c } 10000 := hl
  exact resize_at s r c (cl_ok hc) (by omega) (by omega) hl (lower_lim2 hl') w hr
end Go.Proofs.Ytifenpmkbnohhaa
