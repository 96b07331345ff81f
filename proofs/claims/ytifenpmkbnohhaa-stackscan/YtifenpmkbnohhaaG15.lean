/-
  Is a key kept? A state is taken to work on.
  A state is taken to work on: its rows are copied.
  Is a state right, as the program asks it: bounds, plain pages, the keys.
-/
import Derived.Test.YtifenpmkbnohhaaG14
import Derived.Test.YtifenpmkbnohhaaG08
import Derived.Lib.SliceRun
namespace Go.Proofs.Ytifenpmkbnohhaa
open Go.RowKit
open Go.Proofs.StackM
set_option linter.unusedVariables false
theorem iu_mem (l : List Int) (k : Int) : 0 ≤ iu l k ↔ k ∈ l := by
  unfold iu
  cases h : l.findIdx? (fun x => decide (x = k)) with
  | none =>
    rw [List.findIdx?_eq_none_iff] at h
    refine ⟨fun h0 => absurd h0 (by decide), fun hm => ?_⟩
    have := h k hm
    simp at this
  | some i =>
    obtain ⟨hi, h1, _⟩ := List.findIdx?_eq_some_iff_getElem.1 h
    refine ⟨fun _ => ?_, fun _ => by show (0 : Int) ≤ (i : Int); omega⟩
    have : l[i] = k := by simpa using h1
    rw [← this]
    exact List.getElem_mem hi
/-- the place of a page, -1: there is none -/
def ip (l : List Pg) (p : Pg) : Int := match l.findIdx? fun q => decide (q = p) with | some i => (i : Int) | none => -1
theorem ip_mem (l : List Pg) (p : Pg) : 0 ≤ ip l p ↔ p ∈ l := by
  unfold ip
  cases h : l.findIdx? (fun x => decide (x = p)) with
  | none =>
    rw [List.findIdx?_eq_none_iff] at h
    refine ⟨fun h0 => absurd h0 (by decide), fun hm => ?_⟩
    have := h p hm
    simp at this
  | some i =>
    obtain ⟨hi, h1, _⟩ := List.findIdx?_eq_some_iff_getElem.1 h
    refine ⟨fun _ => ?_, fun _ => by show (0 : Int) ≤ (i : Int); omega⟩
    have : l[i] = p := by simpa using h1
    rw [← this]
    exact List.getElem_mem hi
theorem ip_some {l : List Pg} {k : Pg} {i : Nat} (hi : i < l.length) (h : l[i] = k) (hj : ∀ j (h1 : j < i) (h2 : j < l.length), l[j] ≠ k) : ip l k = (i : Int) := by
  have : (l.findIdx? fun x => decide (x = k)) = some i := by
    rw [List.findIdx?_eq_some_iff_getElem]
    exact ⟨hi, by simp [h], fun j h1 => by simpa using hj j h1 (by omega)⟩
  unfold ip
  rw [this]
theorem ip_none {l : List Pg} {k : Pg} (hj : ∀ j (h2 : j < l.length), l[j] ≠ k) : ip l k = -1 := by
  have : (l.findIdx? fun x => decide (x = k)) = none := by
    rw [List.findIdx?_eq_none_iff]
    intro p hp
    obtain ⟨j, hj2, rfl⟩ := List.getElem_of_mem hp
    simpa using hj j hj2
  unfold ip
  rw [this]
set_option maxHeartbeats 1000000 in
set_option maxRecDepth 100000 in
theorem idxu_at (l : List Int) (k : Int) (A : Option Addr) (n cap : Nat) (hn : n = l.length) (hb : n ≤ 1000000) (w : World) (hr : URow w A cap l) :
    Calls Try.prog 79 #[.slice A n cap, .int .u64 k] w fun e w' => e = .returned (.int .i64 (iu l k)) ∧ w' = w := by
  obtain ⟨r, hrr⟩ : ∃ r, r = iu l k := ⟨_, rfl⟩
  rw [← hrr]
  have HR := Lib.hid hrr
  have HN := Lib.hid hn
  have HP := Lib.hid hr
  clear hrr hn hr
  go_enter Try.func79, Try.ntmps79
  go_wp2
  go_loopw [5, 8] (fun _ i wr => ∃ m : Nat, m ≤ n ∧ i = .int .i64 (m : Int) ∧ wr = w ∧ Hid (∀ j (h1 : j < m) (h2 : j < l.length), l[j] ≠ k)) (fun _ i _ => n - (intOf i).toNat)
  case atStart => exact ⟨0, by omega, by go_num, by first | rfl | trivial, Lib.hid (fun j h1 => absurd h1 (by omega))⟩
  case round =>
    obtain ⟨m, hm, rfl, rfl, HK⟩ := hrel
    by_cases hlt : m < n
    · have hml : m < l.length := by have := HN.out; omega
      obtain ⟨b, off, rfl, hc⟩ := HP.out.at hml
      have c0 := hc m hml
      obtain ⟨y, hy⟩ : ∃ y, y = l[m] := ⟨_, rfl⟩
      rw [← hy] at c0
      have HY := Lib.hid hy
      clear hc hy
      by_cases hxy : k = y
      · subst hxy
        go_wp2
        go_ret
        refine ⟨?_, by trivial⟩
        rw [HR.out, iu_some hml HY.out.symm HK.out]
        rfl
      · go_wp2
        go_round
        case rel => exact ⟨m + 1, by omega, by go_num, by first | rfl | trivial, Lib.hid (fun j h1 h2 => by
          rcases Nat.lt_succ_iff_lt_or_eq.1 h1 with h | rfl
          · exact HK.out j h h2
          · rw [← HY.out]; exact fun e => hxy e.symm)⟩
        case measure => simp only [intOf]; omega
    · go_wp2
      go_ret
      refine ⟨?_, by trivial⟩
      rw [HR.out, iu_none (fun j h2 => HK.out j (by have := HN.out; omega) h2)]
      rfl
set_option maxHeartbeats 400000 in
theorem conu_at (l : List Int) (k : Int) (A : Option Addr) (n cap : Nat) (hn : n = l.length) (hb : n ≤ 1000000) (w : World) (hr : URow w A cap l) :
    Calls Try.prog 58 #[.slice A n cap, .int .u64 k] w fun e w' => e = .returned (.bool (decide (k ∈ l))) ∧ w' = w := by
  obtain ⟨z, hz⟩ : ∃ z, z = iu l k := ⟨_, rfl⟩
  have C := Lib.hid (idxu_at l k A n cap hn hb w hr)
  have hm := iu_mem l k
  rw [← hz] at C hm
  clear hz hr hn
  by_cases h : 0 ≤ z
  · rw [decide_eq_true (hm.1 h)]
    clear hm
    go_enter Try.func58, Try.ntmps58
    go_wp2_with fail
    refine C.out.mono ?_
    rintro e w' ⟨rfl, rfl⟩
    go_wp2_with fail
    go_ret
    exact ⟨rfl, by trivial⟩
  · rw [decide_eq_false (fun hk => h (hm.2 hk))]
    clear hm
    go_enter Try.func58, Try.ntmps58
    go_wp2_with fail
    refine C.out.mono ?_
    rintro e w' ⟨rfl, rfl⟩
    go_wp2_with fail
    go_ret
    exact ⟨by show Ending.returned (Value.bool (decide (0 ≤ z))) = _; rw [decide_eq_false (by omega)], by trivial⟩
set_option maxHeartbeats 2000000 in
set_option maxRecDepth 100000 in
theorem idxp_at (l : List Pg) (x0 x1 : Int) (x2 x3 : Bool) (A : Option Addr) (n cap : Nat) (hn : n = l.length) (hb : n ≤ 1000000) (w : World) (hr : PRow w A cap l) :
    Calls Try.prog 80 #[.slice A n cap, .agg #[.int .u64 x0, .int .i64 x1, .bool x2, .bool x3]] w fun e w' => e = .returned (.int .i64 (ip l ⟨x0, x1, x2, x3⟩)) ∧ Below w.heap.size w w' := by
  obtain ⟨r, hrr⟩ : ∃ r, r = ip l ⟨x0, x1, x2, x3⟩ := ⟨_, rfl⟩
  rw [← hrr]
  have b1 := alloc_below w (.cells #[.int .u64 x0, .int .i64 x1, .bool x2, .bool x3] 59)
  have hg := heap_alloc_new w (.cells #[.int .u64 x0, .int .i64 x1, .bool x2, .bool x3] 59)
  obtain ⟨w1, hw1⟩ : ∃ w1, w1 = w.alloc (.cells #[.int .u64 x0, .int .i64 x1, .bool x2, .bool x3] 59) := ⟨_, rfl⟩
  rw [← hw1] at b1 hg
  obtain ⟨g, hge⟩ : ∃ g, g = w.heap.size := ⟨_, rfl⟩
  rw [← hge] at hg
  have i0 : w1.cell? ⟨g, 0, none⟩ = some (.int .u64 x0) := by rw [cell_of_head hg]; rfl
  have i1 : w1.cell? ⟨g, 1, none⟩ = some (.int .i64 x1) := by rw [cell_of_head hg]; rfl
  have i2 : w1.cell? ⟨g, 2, none⟩ = some (.bool x2) := by rw [cell_of_head hg]; rfl
  have i3 : w1.cell? ⟨g, 3, none⟩ = some (.bool x3) := by rw [cell_of_head hg]; rfl
  have HR := Lib.hid hrr
  have HN := Lib.hid hn
  have HP := Lib.hid (PRow.kept hr b1)
  have HB := Lib.hid b1
  have HW := Lib.hid (And.intro hw1 hge)
  clear hrr hn hr hg b1 hw1 hge
  go_enter Try.func80, Try.ntmps80
  go_wp2_with fail
  rw [← HW.out.1, ← HW.out.2]
  go_loopw [5, 8] (fun _ i wr => ∃ (m q : Nat), m ≤ n ∧ i = .int .i64 (m : Int) ∧ wr = w1.drewN q ∧ Hid (∀ j (h1 : j < m) (h2 : j < l.length), l[j] ≠ ⟨x0, x1, x2, x3⟩)) (fun _ i _ => n - (intOf i).toNat)
  case atStart => exact ⟨0, 0, by omega, by go_num, by simp [World.drewN], Lib.hid (fun j h1 => absurd h1 (by omega))⟩
  case round =>
    obtain ⟨m, q, hm, rfl, rfl, HK⟩ := hrel
    by_cases hlt : m < n
    · have hml : m < l.length := by have := HN.out; omega
      obtain ⟨b, off, rfl, hc⟩ := HP.out.at hml
      obtain ⟨d0, d1, d2, d3⟩ := hc m hml
      obtain ⟨y, hy⟩ : ∃ y, y = l[m] := ⟨_, rfl⟩
      rw [← hy] at d0 d1 d2 d3
      have HY := Lib.hid hy
      obtain ⟨y0, y1, y2, y3⟩ := y
      dsimp only at d0 d1 d2 d3
      clear hc hy
      by_cases h0 : x0 = y0
      · subst h0
        by_cases h1 : x1 = y1
        · subst h1
          by_cases h2 : x2 = y2
          · subst h2
            by_cases h3 : x3 = y3
            · subst h3
              have HD : Hid (l[m] = ⟨x0, x1, x2, x3⟩) := Lib.hid HY.out.symm
              go_wp2_with fail
              go_quiet (fail)
              go_wp2_with fail
              go_ret
              refine ⟨?_, below_drew (below_drew HB.out _) _⟩
              rw [HR.out, ip_some hml HD.out HK.out]
              rfl
            · have HD : Hid (¬ l[m] = ⟨x0, x1, x2, x3⟩) := Lib.hid (by rw [← HY.out]; intro e; injection e; exact absurd (Eq.symm (by assumption)) h3)
              go_wp2_with fail
              go_quiet (fail)
              go_wp2_with fail
              go_round
              case rel => exact ⟨m + 1, _, by omega, by go_num, rfl, Lib.hid (fun j h1 h2 => by
                rcases Nat.lt_succ_iff_lt_or_eq.1 h1 with h | rfl
                · exact HK.out j h h2
                · exact HD.out)⟩
              case measure => simp only [intOf]; omega
          · have HD : Hid (¬ l[m] = ⟨x0, x1, x2, x3⟩) := Lib.hid (by rw [← HY.out]; intro e; injection e; exact absurd (Eq.symm (by assumption)) h2)
            go_wp2_with fail
            go_quiet (fail)
            go_wp2_with fail
            go_round
            case rel => exact ⟨m + 1, _, by omega, by go_num, rfl, Lib.hid (fun j h1 h2 => by
              rcases Nat.lt_succ_iff_lt_or_eq.1 h1 with h | rfl
              · exact HK.out j h h2
              · exact HD.out)⟩
            case measure => simp only [intOf]; omega
        · have HD : Hid (¬ l[m] = ⟨x0, x1, x2, x3⟩) := Lib.hid (by rw [← HY.out]; intro e; injection e; exact absurd (Eq.symm (by assumption)) h1)
          go_wp2_with fail
          go_quiet (fail)
          go_wp2_with fail
          go_round
          case rel => exact ⟨m + 1, _, by omega, by go_num, rfl, Lib.hid (fun j h1 h2 => by
            rcases Nat.lt_succ_iff_lt_or_eq.1 h1 with h | rfl
            · exact HK.out j h h2
            · exact HD.out)⟩
          case measure => simp only [intOf]; omega
      · have HD : Hid (¬ l[m] = ⟨x0, x1, x2, x3⟩) := Lib.hid (by rw [← HY.out]; intro e; injection e; exact absurd (Eq.symm (by assumption)) h0)
        go_wp2_with fail
        go_quiet (fail)
        go_wp2_with fail
        go_round
        case rel => exact ⟨m + 1, _, by omega, by go_num, rfl, Lib.hid (fun j h1 h2 => by
          rcases Nat.lt_succ_iff_lt_or_eq.1 h1 with h | rfl
          · exact HK.out j h h2
          · exact HD.out)⟩
        case measure => simp only [intOf]; omega
    · go_wp2
      go_ret
      refine ⟨?_, below_drew HB.out _⟩
      rw [HR.out, ip_none (fun j h2 => HK.out j (by have := HN.out; omega) h2)]
      rfl
set_option maxHeartbeats 400000 in
theorem conp_at (l : List Pg) (x0 x1 : Int) (x2 x3 : Bool) (A : Option Addr) (n cap : Nat) (hn : n = l.length) (hb : n ≤ 1000000) (w : World) (hr : PRow w A cap l) :
    Calls Try.prog 59 #[.slice A n cap, .agg #[.int .u64 x0, .int .i64 x1, .bool x2, .bool x3]] w fun e w' => e = .returned (.bool (decide ((⟨x0, x1, x2, x3⟩ : Pg) ∈ l))) ∧ Below w.heap.size w w' := by
  obtain ⟨z, hz⟩ : ∃ z, z = ip l ⟨x0, x1, x2, x3⟩ := ⟨_, rfl⟩
  have b1 := alloc_below w (.cells #[.int .u64 x0, .int .i64 x1, .bool x2, .bool x3] 59)
  have C := idxp_at l x0 x1 x2 x3 A n cap hn hb (w.alloc (.cells #[.int .u64 x0, .int .i64 x1, .bool x2, .bool x3] 59)) (PRow.kept hr b1)
  have hm := ip_mem l ⟨x0, x1, x2, x3⟩
  rw [← hz] at C hm
  have HC := Lib.hid C
  have HB := Lib.hid b1
  clear hz hr hn C b1
  by_cases h : 0 ≤ z
  · rw [decide_eq_true (hm.1 h)]
    clear hm
    go_enter Try.func59, Try.ntmps59
    go_wp2_with fail
    refine HC.out.mono ?_
    rintro e w' ⟨rfl, hb⟩
    have HB2 := Lib.hid (HB.out.trans (hb.mono HB.out.size))
    clear hb
    go_wp2_with fail
    go_ret
    exact ⟨rfl, HB2.out⟩
  · rw [decide_eq_false (fun hk => h (hm.2 hk))]
    clear hm
    go_enter Try.func59, Try.ntmps59
    go_wp2_with fail
    refine HC.out.mono ?_
    rintro e w' ⟨rfl, hb⟩
    have HB2 := Lib.hid (HB.out.trans (hb.mono HB.out.size))
    clear hb
    go_wp2_with fail
    go_ret
    exact ⟨by show Ending.returned (Value.bool (decide (0 ≤ z))) = _; rw [decide_eq_false (by omega)], HB2.out⟩
/-- is a key one of the kept ones, as the program asks it -/
def pk (s : St) (k : Int) : Bool := decide (k ∈ s.qu) || decide ((⟨k, 1, false, false⟩ : Pg) ∈ s.pg)
theorem pk_kpt {s : St} (h : StackM.Wk s) (k : Int) : pk s k = decide (Kpt s k) := by
  unfold pk
  by_cases hq : k ∈ s.qu
  · rw [decide_eq_true hq, Bool.true_or]
    exact (decide_eq_true (show Kpt s k from .inr (kOf_queue h hq))).symm
  · rw [decide_eq_false hq, Bool.false_or]
    apply decide_eq_decide.2
    constructor
    · intro hp
      exact .inl (kOf_page h hp rfl)
    · rintro (h1 | h2)
      · obtain ⟨p, hp, e1, e2⟩ := (kOf_hot h).1 h1
        have h3 := h.pk p hp
        have : p = ⟨k, 1, false, false⟩ := by
          obtain ⟨a, b, c, d⟩ := p
          simp only at e1 e2 h3
          rw [e1, e2, h3.1, h3.2.1]
        rw [← this]; exact hp
      · exfalso
        rcases kOf_find (k := k) h with ⟨p, hp, e1, e2⟩ | ⟨_, e2⟩
        · rw [h2] at e2
          have := (h.pk p hp).2.2.2.1.2 e2.symm
          rw [e1] at this
          exact hq this
        · rw [if_neg hq, h2] at e2
          cases e2
set_option maxHeartbeats 1000000 in
set_option maxRecDepth 100000 in
theorem keeps_at (s : St) (r : R3) (k : Int) (hl : Lim s 100000) (w : World) (hr : SR w s r) : Calls Try.prog 31 #[sV s r, .int .u64 k] w fun e w' => e = .returned (.bool (pk s k)) ∧ Below w.heap.size w w' := by
  have x := Fr.start1 hr
  obtain ⟨w1, hw1⟩ : ∃ w1, w1 = w.alloc (.cells (sA s r) 31) := ⟨_, rfl⟩
  rw [← hw1] at x
  have HW := Lib.hid hw1
  obtain ⟨z, hz⟩ : ∃ z, z = pk s k := ⟨_, rfl⟩
  rw [← hz]
  have d5 := at5 x.box
  have d6 := at6 x.box
  have C58 := Lib.hid (conu_at s.qu k r.a2 s.qu.length r.c2 rfl (by have := hl.2.1; omega) w1 x.rows.qu.row)
  have C59 := Lib.hid (conp_at s.pg k 1 false false r.a1 s.pg.length r.c1 rfl (by have := hl.1; omega) w1 x.rows.pg.row)
  have HX := Lib.hid x
  by_cases hq : k ∈ s.qu
  · rw [decide_eq_true hq] at C58
    have HZ : Hid (z = true) := Lib.hid (by rw [hz, pk, decide_eq_true hq, Bool.true_or])
    clear hz hq hw1 x hr hl C59
    go_enter Try.func31, Try.ntmps31
    go_wp2_with (first | fail | rw [← HW.out])
    refine C58.out.mono ?_
    rintro e w' ⟨rfl, rfl⟩
    go_wp2_with fail
    go_ret
    exact ⟨by rw [HZ.out]; rfl, HX.out.bel⟩
  · rw [decide_eq_false hq] at C58
    have HZ : Hid (z = decide ((⟨k, 1, false, false⟩ : Pg) ∈ s.pg)) := Lib.hid (by rw [hz, pk, decide_eq_false hq, Bool.false_or])
    rw [← HZ.out] at C59
    clear hz hq hw1 x hr hl
    go_enter Try.func31, Try.ntmps31
    go_wp2_with (first | fail | rw [← HW.out])
    refine C58.out.mono ?_
    rintro e w' ⟨rfl, rfl⟩
    go_wp2_with fail
    refine C59.out.mono ?_
    rintro e w' ⟨rfl, hb⟩
    have HB := Lib.hid ((HX.out.keep hb).bel)
    clear hb d5 d6
    go_wp2_with fail
    go_ret
    exact ⟨rfl, HB.out⟩
end Go.Proofs.Ytifenpmkbnohhaa
namespace Go.Proofs.Ytifenpmkbnohhaa
open Go.RowKit
open Go.Proofs.StackM
set_option linter.unusedVariables false
/-- what a copy is -/
def ClPost (el sz : Nat) (vs : List Value) (n : Nat) (w : World) (e : Ending) (w' : World) : Prop := ∃ A c, e = .returned (.slice A n c) ∧ w'.ownsRow w.heap.size el sz (.slice A n c) n vs ∧ Below w.heap.size w w'
set_option maxHeartbeats 1000000 in
set_option maxRecDepth 100000 in
theorem clonep_at (l : List Pg) (A : Option Addr) (n cap : Nat) (hn : n = l.length) (hb : n ≤ 900000) (w : World) (hr : PRow w A cap l) :
    Calls Try.prog 56 #[.slice A n cap] w (ClPost 59 4 (pvals l) n w) := by
  have qeq : ∀ (w : World) (a : Option Addr) (n c n' c' : Nat), (binOp .eql 25 (.slice a n c) (.slice none n' c')).run Try.prog w = .ok (.bool a.isNone) w := fun w a n c n' c' => Lib.run_eql_slice_nil w _ _ a n c n' c' Try.underlying25
  cases A with
  | none =>
    have hnil : l = [] ∧ cap = 0 := by
      rcases hr with ⟨_, h2, h3⟩ | ⟨b, off, e, _⟩
      · refine ⟨?_, h2⟩
        have := congrArg List.length h3
        rw [pvals_len] at this
        apply List.eq_nil_of_length_eq_zero
        simp only [List.length_nil] at this
        omega
      · cases e
    obtain ⟨rfl, rfl⟩ := hnil
    obtain rfl : n = 0 := hn
    clear hr
    show Calls Try.prog 56 #[.slice none 0 0] w fun e w' => ClPost 59 4 (pvals []) 0 w e w'
    go_enter Try.func56, Try.ntmps56
    go_wp2_with fail
    go_ret
    exact ⟨none, 0, rfl, World.ownsRow_nil _ _ _ _, Below.refl _ _⟩
  | some a =>
    obtain ⟨b, off, rfl⟩ : ∃ b off, a = ⟨b, off, none⟩ := by
      rcases hr with ⟨e, _⟩ | ⟨b, off, e, _⟩
      · cases e
      · injection e with e; exact ⟨b, off, e⟩
    have l0 : (w.alloc (.cells #[] 59)).ownsRow w.heap.size 59 4 (.slice (some ⟨w.heap.size, 0, none⟩) 0 0) 0 (pvals []) := World.ownsRow_lit (base := w.heap.size) (e := 59) (size := 4) w #[] 0 (Nat.le_refl _) (by decide) rfl
    obtain ⟨v7, w7, hrun7, o7, hb7⟩ := appP (n := 0) (m := n) (r := l) (A := some ⟨b, off, none⟩) (cap := cap) l0 (PRow.kept hr (alloc_below w (.cells #[] 59))) hn.symm (by omega) (alloc_below w (.cells #[] 59)).size
    rw [List.nil_append, Nat.zero_add] at o7
    have HB := Lib.hid ((alloc_below w (.cells #[] 59)).trans hb7)
    have HO := Lib.hid o7
    have HR := Lib.hid hrun7
    clear l0 hrun7 o7 hb7 hr hn
    show Calls Try.prog 56 #[.slice (some ⟨b, off, none⟩) n cap] w fun e w' => ClPost 59 4 (pvals l) n w e w'
    go_enter Try.func56, Try.ntmps56
    go_wp2_with (at_builtin; refine append_run rfl (.tmp 5) (.tmp 6) 25 rfl rfl rfl HR.out ?_)
    go_ret
    obtain ⟨A', c', hv, _⟩ := owns_vrow HO.out
    exact ⟨A', c', by rw [← hv]; rfl, by rw [← hv]; exact HO.out, HB.out⟩
set_option maxHeartbeats 1000000 in
set_option maxRecDepth 100000 in
theorem cloneu_at (l : List Int) (A : Option Addr) (n cap : Nat) (hn : n = l.length) (hb : n ≤ 900000) (w : World) (hr : URow w A cap l) :
    Calls Try.prog 57 #[.slice A n cap] w (ClPost 27 1 (uvals l) n w) := by
  have qeq : ∀ (w : World) (a : Option Addr) (n c n' c' : Nat), (binOp .eql 26 (.slice a n c) (.slice none n' c')).run Try.prog w = .ok (.bool a.isNone) w := fun w a n c n' c' => Lib.run_eql_slice_nil w _ _ a n c n' c' Try.underlying26
  cases A with
  | none =>
    have hnil : l = [] ∧ cap = 0 := by
      rcases hr with ⟨_, h2, h3⟩ | ⟨b, off, e, _⟩
      · refine ⟨?_, h2⟩
        have := congrArg List.length h3
        rw [uvals_len] at this
        apply List.eq_nil_of_length_eq_zero
        simp only [List.length_nil] at this
        omega
      · cases e
    obtain ⟨rfl, rfl⟩ := hnil
    obtain rfl : n = 0 := hn
    clear hr
    show Calls Try.prog 57 #[.slice none 0 0] w fun e w' => ClPost 27 1 (uvals []) 0 w e w'
    go_enter Try.func57, Try.ntmps57
    go_wp2_with fail
    go_ret
    exact ⟨none, 0, rfl, World.ownsRow_nil _ _ _ _, Below.refl _ _⟩
  | some a =>
    obtain ⟨b, off, rfl⟩ : ∃ b off, a = ⟨b, off, none⟩ := by
      rcases hr with ⟨e, _⟩ | ⟨b, off, e, _⟩
      · cases e
      · injection e with e; exact ⟨b, off, e⟩
    have l0 : (w.alloc (.cells #[] 27)).ownsRow w.heap.size 27 1 (.slice (some ⟨w.heap.size, 0, none⟩) 0 0) 0 (uvals []) := World.ownsRow_lit (base := w.heap.size) (e := 27) (size := 1) w #[] 0 (Nat.le_refl _) (by decide) rfl
    obtain ⟨v7, w7, hrun7, o7, hb7⟩ := appU (n := 0) (m := n) (r := l) (A := some ⟨b, off, none⟩) (cap := cap) l0 (URow.kept hr (alloc_below w (.cells #[] 27))) hn.symm (by omega) (alloc_below w (.cells #[] 27)).size
    rw [List.nil_append, Nat.zero_add] at o7
    have HB := Lib.hid ((alloc_below w (.cells #[] 27)).trans hb7)
    have HO := Lib.hid o7
    have HR := Lib.hid hrun7
    clear l0 hrun7 o7 hb7 hr hn
    show Calls Try.prog 57 #[.slice (some ⟨b, off, none⟩) n cap] w fun e w' => ClPost 27 1 (uvals l) n w e w'
    go_enter Try.func57, Try.ntmps57
    go_wp2_with (at_builtin; refine append_run rfl (.tmp 5) (.tmp 6) 26 rfl rfl rfl HR.out ?_)
    go_ret
    obtain ⟨A', c', hv, _⟩ := owns_vrow HO.out
    exact ⟨A', c', by rw [← hv]; rfl, by rw [← hv]; exact HO.out, HB.out⟩
theorem bld68run (s : St) (r : R3) (w : World) : (Instr.build 68 #[(0, sV s r)]).run Try.prog w = .ok (.agg (spA s r none 0 0)) w := by
  kernel_rfl
theorem bld68 {ops : Array Oper} {rest : List Oper} {o : Oper} {a : Act} {w : World} {Q : Exit → Act → World → Prop} (hg : o.guard = none) (x : Operand) (ho : o.op = .build 68 #[(0, x)]) (s : St) (r : R3) (hx : a.eval x = sV s r)
    (hK : wpList Try.prog ops Q rest (a.put o.dst (.agg (spA s r none 0 0))) w) : wpList Try.prog ops Q (o :: rest) a w := by
  refine wpList_plain hg fun K k => ?_
  unfold Oper.wp
  have := bld68run s r w
  simp [execOp, ho, hx, this]
  exact k _ _ hK
theorem owns_lo {w : World} {a b e sz n : Nat} {v : Value} {xs : List Value} (h : w.ownsRow a e sz v n xs) (hb : b ≤ a) : w.ownsRow b e sz v n xs := owns_base h hb
theorem Box.setOwn {w : World} {b e sz n lo : Nat} {A : Option Addr} {c : Nat} {xs : List Value} {cs : Array Value} (hb : Box w b cs) (h : w.ownsRow lo e sz (.slice A n c) n xs) (hne : b < lo) (k : Nat) (v : Value) : (w.setCell ⟨b, k, none⟩ v).ownsRow lo e sz (.slice A n c) n xs :=
  owns_grown h (grown_setCell w b k v) (fun a e1 e2 => by subst e1; injection e2 with e2; have := (h.lt a.block rfl).1; omega)
theorem sr_row2 {w : World} {s : St} {r : R3} {t b : Nat} (hr : SR w s r) (ho : Old t r) (hb : t ≤ b) (k : Nat) (v : Value) : SR (w.setCell ⟨b, k, none⟩ v) s r := by
  have hs : (w.setCell ⟨b, k, none⟩ v).heap.size = w.heap.size := by simp [World.setCell]
  exact ⟨⟨vrow_set hr.pg.row (fun a e => by have := ho.1 a e; omega), fun a e => by rw [hs]; exact hr.pg.lt a e, hr.pg.le⟩, ⟨vrow_set hr.qu.row (fun a e => by have := ho.2.1 a e; omega), fun a e => by rw [hs]; exact hr.qu.lt a e, hr.qu.le⟩, ⟨vrow_set hr.gh.row (fun a e => by have := ho.2.2 a e; omega), fun a e => by rw [hs]; exact hr.gh.lt a e, hr.gh.le⟩⟩
set_option maxHeartbeats 2000000 in
set_option maxRecDepth 100000 in
theorem begin_at (s : St) (r : R3) (hl : Lim s 900000) (w : World) (hr : SR w s r) :
    Calls Try.prog 30 #[sV s r] w fun e w' => ∃ B r' A c, e = .returned (.pointer (some ⟨B, 0, none⟩)) ∧ WK w.heap.size w' B s r' A c [] ∧ Below w.heap.size w w' := by
  have b1 := alloc_below w (.cells (sA s r) 31)
  have x1 := box_alloc w (sA s r) (sA_len _ _)
  have hr1 := hr.kept b1
  obtain ⟨w1, hw1⟩ : ∃ w1, w1 = w.alloc (.cells (sA s r) 31) := ⟨_, rfl⟩
  rw [← hw1] at b1 x1 hr1
  obtain ⟨g, hg⟩ : ∃ g, g = w.heap.size := ⟨_, rfl⟩
  rw [← hg] at x1
  have hg1 : g < w1.heap.size := x1.lt
  have C1 := Lib.hid (clonep_at s.pg r.a1 s.pg.length r.c1 rfl hl.1 w1 hr1.pg.row)
  have HW := Lib.hid (And.intro hw1 hg)
  have H1 := Lib.hid (And.intro x1 (And.intro b1 (And.intro hr1 (And.intro hl hr.old))))
  have d5 := at5 x1
  clear b1 x1 hr1 hw1 hg hr hl
  go_enter Try.func30, Try.ntmps30
  go_wp2_with (first | fail | rw [← HW.out.1, ← HW.out.2])
  refine C1.out.mono ?_
  rintro e w2 ⟨A1, c1, rfl, o2, hb2⟩
  have x2 := H1.out.1.kept hb2 hg1
  have e5 := at5 x2
  have f5 := x2.free 5
  have y2 := x2.set 5 (.slice A1 s.pg.length c1)
  have p2 := x2.setOwn (owns_lo o2 (Nat.le_refl _)) hg1 5 (.slice A1 s.pg.length c1)
  have q2 := below_setCell (k := 5) (v := .slice A1 s.pg.length c1) ((H1.out.2.1.trans (hb2.mono H1.out.2.1.size))) (Nat.le_of_eq HW.out.2.symm)
  have x3 := x2.set 5 (.slice A1 s.pg.length c1)
  have hr3 : SR w2 s r := H1.out.2.2.1.kept hb2
  have hrg : Old w.heap.size r := H1.out.2.2.2.2
  obtain ⟨w3, hw3⟩ : ∃ w3, w3 = w2.setCell ⟨g, 5, none⟩ (.slice A1 s.pg.length c1) := ⟨_, rfl⟩
  have hr4 : SR w3 s r := by rw [hw3]; exact sr_row2 hr3 hrg (Nat.le_of_eq HW.out.2.symm) 5 _
  rw [← hw3] at x3 p2 q2
  have e6 := x3.cell 6 (.slice r.a2 s.qu.length r.c2) rfl
  have hg3 : g < w3.heap.size := x3.lt
  have HH3 := Lib.hid (And.intro x3 (And.intro p2 (And.intro q2 hr4)))
  have d6 := at6 x2
  have HW3 := Lib.hid hw3
  clear x2 y2 p2 q2 x3 hr3 hr4 hrg o2 hb2 hw3 d5 C1
  go_wp2_with (first | fail | rw [← HW3.out])
  clear e5 f5 d6
  refine (cloneu_at s.qu r.a2 s.qu.length r.c2 rfl H1.out.2.2.2.1.2.1 w3 HH3.out.2.2.2.qu.row).mono ?_
  rintro e w4 ⟨A2, c2, rfl, o4, hb4⟩
  have x4 := HH3.out.1.kept hb4 hg3
  have i6 := x4.cell 6 (.slice r.a2 s.qu.length r.c2) rfl
  have f6 := x4.free 6
  have i7 := x4.cell 7 (.slice r.a3 s.gh.length r.c3) rfl
  have x5 := x4.set 6 (.slice A2 s.qu.length c2)
  have p5 := x4.setOwn (own_below HH3.out.2.1 hb4) hg1 6 (.slice A2 s.qu.length c2)
  have o5 := x4.setOwn o4 hg3 6 (.slice A2 s.qu.length c2)
  have q5 := below_setCell (k := 6) (v := .slice A2 s.qu.length c2) (HH3.out.2.2.1.trans (hb4.mono HH3.out.2.2.1.size)) (Nat.le_of_eq HW.out.2.symm)
  have r5 := sr_row2 (HH3.out.2.2.2.kept hb4) H1.out.2.2.2.2 (Nat.le_of_eq HW.out.2.symm) 6 (.slice A2 s.qu.length c2)
  have sz5 : (w4.setCell ⟨g, 6, none⟩ (.slice A2 s.qu.length c2)).heap.size = w4.heap.size := by simp [World.setCell]
  have sz4 := hb4.size
  obtain ⟨w5, hw5⟩ : ∃ w5, w5 = w4.setCell ⟨g, 6, none⟩ (.slice A2 s.qu.length c2) := ⟨_, rfl⟩
  rw [← hw5] at x5 p5 o5 q5 r5 sz5
  have hg5 : g < w5.heap.size := x5.lt
  have j7 := x5.cell 7 (.slice r.a3 s.gh.length r.c3) rfl
  have HH5 := Lib.hid (And.intro x5 (And.intro p5 (And.intro o5 (And.intro q5 (And.intro r5 (And.intro sz5 sz4))))))
  have HW5 := Lib.hid hw5
  have hw3l : g < w3.heap.size := hg3
  clear x4 x5 p5 o5 q5 r5 sz5 sz4 hw5 o4 hb4 e6
  go_wp2_with (first | fail | rw [← HW5.out])
  clear i6 f6 i7 j7
  refine (cloneu_at s.gh r.a3 s.gh.length r.c3 rfl H1.out.2.2.2.1.2.2 w5 HH5.out.2.2.2.2.1.gh.row).mono ?_
  rintro e w6 ⟨A3, c3, rfl, o6, hb6⟩
  have x6 := HH5.out.1.kept hb6 hg5
  have i7 := x6.cell 7 (.slice r.a3 s.gh.length r.c3) rfl
  have f7 := x6.free 7
  have x7 := x6.set 7 (.slice A3 s.gh.length c3)
  have p7 := x6.setOwn (own_below HH5.out.2.1 hb6) hg1 7 (.slice A3 s.gh.length c3)
  have o7 := x6.setOwn (own_below HH5.out.2.2.1 hb6) hw3l 7 (.slice A3 s.gh.length c3)
  have t7 := x6.setOwn o6 hg5 7 (.slice A3 s.gh.length c3)
  have q7 := below_setCell (k := 7) (v := .slice A3 s.gh.length c3) (HH5.out.2.2.2.1.trans (hb6.mono HH5.out.2.2.2.1.size)) (Nat.le_of_eq HW.out.2.symm)
  have hbx : (((sA s r).setIfInBounds 5 (.slice A1 s.pg.length c1)).setIfInBounds 6 (.slice A2 s.qu.length c2)).setIfInBounds 7 (.slice A3 s.gh.length c3) = sA s ⟨A1, c1, A2, c2, A3, c3⟩ := rfl
  rw [hbx] at x7
  have sz7 : (w6.setCell ⟨g, 7, none⟩ (.slice A3 s.gh.length c3)).heap.size = w6.heap.size := by simp [World.setCell]
  obtain ⟨w7, hw7⟩ : ∃ w7, w7 = w6.setCell ⟨g, 7, none⟩ (.slice A3 s.gh.length c3) := ⟨_, rfl⟩
  rw [← hw7] at x7 p7 o7 t7 q7 sz7
  have hb8 := alloc_below w7 (.cells (spA s ⟨A1, c1, A2, c2, A3, c3⟩ none 0 0) 68)
  have hlo : w.heap.size ≤ w1.heap.size := H1.out.2.1.size
  have hlo3 : w.heap.size ≤ w3.heap.size := HH3.out.2.2.1.size
  have hlo5 : w.heap.size ≤ w5.heap.size := HH5.out.2.2.2.1.size
  have hWK : WK w.heap.size (w7.alloc (.cells (spA s ⟨A1, c1, A2, c2, A3, c3⟩ none 0 0) 68)) w7.heap.size s ⟨A1, c1, A2, c2, A3, c3⟩ none 0 [] := by
    refine ⟨heap_alloc_new w7 _, q7.size, ?_⟩
    refine ⟨own_below (owns_base p7 hlo) hb8, own_below (owns_base o7 hlo3) hb8, own_below (owns_base t7 hlo5) hb8, World.ownsRow_nil _ _ _ _, ?_, (fun a b _ e => nomatch e), (fun a b _ e => nomatch e)⟩
    intro a b ea eb e
    have h2 := (HH5.out.2.2.1.lt a.block (by rw [show A2 = some a from ea]; rfl)).2
    have h3 := (t7.lt b.block (by rw [show A3 = some b from eb]; rfl)).1
    omega
  have HZ := Lib.hid (And.intro hWK (q7.trans (hb8.mono q7.size)))
  have HX7 := Lib.hid x7
  have HW7 := Lib.hid hw7
  clear x6 x7 p7 o7 t7 q7 hbx hw7 o6 hb6 hb8 hlo hlo3 hlo5 hWK sz7
  go_wp2_with (first | fail | (rw [← HW7.out]; refine ld31 rfl (.tmp 1) rfl _ rfl _ HX7.out ?_) | refine bld68 rfl (.tmp 15) rfl s ⟨A1, c1, A2, c2, A3, c3⟩ rfl ?_)
  go_ret
  exact ⟨_, _, _, _, rfl, HZ.out.1, HZ.out.2⟩
end Go.Proofs.Ytifenpmkbnohhaa
namespace Go.Proofs.Ytifenpmkbnohhaa
open Go.RowKit
open Go.Proofs.StackM
set_option linter.unusedVariables false
def okp (p : Pg) : Bool := decide (1 ≤ p.kind ∧ p.kind ≤ 3 ∧ p.test = false ∧ p.mark = false)
set_option maxHeartbeats 2000000 in
set_option maxRecDepth 100000 in
theorem plain_at (l : List Pg) (A : Option Addr) (n cap : Nat) (hn : n = l.length) (hb : n ≤ 1000000) (w : World) (hr : PRow w A cap l) :
    Calls Try.prog 49 #[.slice A n cap] w fun e w' => e = .returned (.bool (l.all okp)) ∧ Below w.heap.size w w' := by
  obtain ⟨r, hrr⟩ : ∃ r, r = l.all okp := ⟨_, rfl⟩
  rw [← hrr]
  have HR := Lib.hid hrr
  have HN := Lib.hid hn
  have HP := Lib.hid hr
  clear hrr hn hr
  go_enter Try.func49, Try.ntmps49
  go_wp2
  go_loopw [4, 7] (fun _ i wr => ∃ m : Nat, m ≤ n ∧ i = .int .i64 (m : Int) ∧ Hid (Below w.heap.size w wr) ∧ Hid (∀ j (h1 : j < m) (h2 : j < l.length), okp l[j] = true)) (fun _ i _ => n - (intOf i).toNat)
  case atStart => exact ⟨0, by omega, by go_num, Lib.hid (Below.refl _ _), Lib.hid (fun j h1 => absurd h1 (by omega))⟩
  case round =>
    obtain ⟨m, hm, rfl, HB, HK⟩ := hrel
    by_cases hlt : m < n
    · have hml : m < l.length := by have := HN.out; omega
      obtain ⟨b, off, rfl, hc⟩ := (PRow.kept HP.out HB.out).at hml
      obtain ⟨c0, c1, c2, c3⟩ := hc m hml
      obtain ⟨p, hp⟩ : ∃ p, p = l[m] := ⟨_, rfl⟩
      rw [← hp] at c0 c1 c2 c3
      have HY := Lib.hid hp
      obtain ⟨p0, p1, p2, p3⟩ := p
      dsimp only at c0 c1 c2 c3
      have b2 := alloc_below wr (.cells #[.int .u64 p0, .int .i64 p1, .bool p2, .bool p3] 59)
      have HB2 := Lib.hid (HB.out.trans (b2.mono HB.out.size))
      have hg := heap_alloc_new wr (.cells #[.int .u64 p0, .int .i64 p1, .bool p2, .bool p3] 59)
      obtain ⟨w2, hw2⟩ : ∃ w2, w2 = wr.alloc (.cells #[.int .u64 p0, .int .i64 p1, .bool p2, .bool p3] 59) := ⟨_, rfl⟩
      obtain ⟨g, hge⟩ : ∃ g, g = wr.heap.size := ⟨_, rfl⟩
      rw [← hw2, ← hge] at hg
      rw [← hw2] at HB2
      have i1 : w2.cell? ⟨g, 1, none⟩ = some (.int .i64 p1) := by rw [cell_of_head hg]; rfl
      have i2 : w2.cell? ⟨g, 2, none⟩ = some (.bool p2) := by rw [cell_of_head hg]; rfl
      have i3 : w2.cell? ⟨g, 3, none⟩ = some (.bool p3) := by rw [cell_of_head hg]; rfl
      have HW := Lib.hid (And.intro hw2 hge)
      clear hc hp b2 hg hw2 hge
      have hbad : okp ⟨p0, p1, p2, p3⟩ = false → Hid (r = false) := fun h => Lib.hid (by
        rw [HR.out, List.all_eq_false]
        exact ⟨l[m], List.getElem_mem hml, by rw [← HY.out]; simp [h]⟩)
      by_cases h1 : p1 < 1
      · have HE := hbad (by unfold okp; exact decide_eq_false (fun h => by have := h; simp at this; omega))
        clear hbad
        go_wp2_with (first | fail | (refine st59n rfl (.tmp 4) (.tmp 10) rfl _ _ _ _ rfl rfl _ rfl ?_; rw [← HW.out.1, ← HW.out.2]))
        go_ret
        exact ⟨by rw [HE.out]; rfl, HB2.out⟩
      · by_cases h2 : 3 < p1
        · have HE := hbad (by unfold okp; exact decide_eq_false (fun h => by have := h; simp at this; omega))
          clear hbad
          go_wp2_with (first | fail | (refine st59n rfl (.tmp 4) (.tmp 10) rfl _ _ _ _ rfl rfl _ rfl ?_; rw [← HW.out.1, ← HW.out.2]))
          go_ret
          exact ⟨by rw [HE.out]; rfl, HB2.out⟩
        · cases p2 with
          | true =>
            have HE := hbad (by unfold okp; exact decide_eq_false (fun h => by simp at h))
            clear hbad
            go_wp2_with (first | fail | (refine st59n rfl (.tmp 4) (.tmp 10) rfl _ _ _ _ rfl rfl _ rfl ?_; rw [← HW.out.1, ← HW.out.2]))
            go_ret
            exact ⟨by rw [HE.out]; rfl, HB2.out⟩
          | false =>
            cases p3 with
            | true =>
              have HE := hbad (by unfold okp; exact decide_eq_false (fun h => by simp at h))
              clear hbad
              go_wp2_with (first | fail | (refine st59n rfl (.tmp 4) (.tmp 10) rfl _ _ _ _ rfl rfl _ rfl ?_; rw [← HW.out.1, ← HW.out.2]))
              go_ret
              exact ⟨by rw [HE.out]; rfl, HB2.out⟩
            | false =>
              have hok : okp ⟨p0, p1, false, false⟩ = true := by unfold okp; exact decide_eq_true ⟨by show 1 ≤ p1; omega, by show p1 ≤ 3; omega, rfl, rfl⟩
              have HO := Lib.hid hok
              clear hok hbad
              go_wp2_with (first | fail | (refine st59n rfl (.tmp 4) (.tmp 10) rfl _ _ _ _ rfl rfl _ rfl ?_; rw [← HW.out.1, ← HW.out.2]))
              go_round
              case rel => exact ⟨m + 1, by omega, by go_num, HB2, Lib.hid (fun j h1 h2 => by
                rcases Nat.lt_succ_iff_lt_or_eq.1 h1 with h | rfl
                · exact HK.out j h h2
                · rw [← HY.out]; exact HO.out)⟩
              case measure => simp only [intOf]; omega
    · go_wp2
      go_ret
      refine ⟨?_, HB.out⟩
      have : r = true := by
        rw [HR.out, List.all_eq_true]
        intro x hx
        obtain ⟨j, hj, rfl⟩ := List.getElem_of_mem hx
        exact HK.out j (by have := HN.out; omega) hj
      rw [this]
      rfl
/-- are the bounds kept, as the program asks it -/
def fts (s : St) : Bool := decide ((many s.pg 1 : Int) ≤ rm s.cf.p s.cf.c s.cf.q s.cf.g) && decide ((many s.pg 1 : Int) + s.qu.length ≤ s.cf.c) && decide ((s.gh.length : Int) ≤ s.cf.g)
set_option maxHeartbeats 2000000 in
set_option maxRecDepth 100000 in
theorem fits_at (s : St) (r : R3) (hl : Lim s 100000) (w : World) (hr : SR w s r) : Calls Try.prog 48 #[sV s r] w fun e w' => e = .returned (.bool (fts s)) ∧ Below w.heap.size w w' := by
  have x := Fr.start1 hr
  obtain ⟨w1, hw1⟩ : ∃ w1, w1 = w.alloc (.cells (sA s r) 31) := ⟨_, rfl⟩
  rw [← hw1] at x
  have HW := Lib.hid hw1
  obtain ⟨g, hg⟩ : ∃ g, g = w.heap.size := ⟨_, rfl⟩
  obtain ⟨z, hz⟩ : ∃ z, z = fts s := ⟨_, rfl⟩
  rw [← hz]
  obtain ⟨mm, hmm⟩ : ∃ m : Nat, m = many s.pg 1 := ⟨_, rfl⟩
  have hmb : mm ≤ 100000 := by rw [hmm]; have := many_le s.pg 1; have := hl.1; omega
  obtain ⟨qn, hqn⟩ : ∃ m : Nat, m = s.qu.length := ⟨_, rfl⟩
  obtain ⟨gn, hgn⟩ : ∃ m : Nat, m = s.gh.length := ⟨_, rfl⟩
  have hqb : qn ≤ 100000 := by rw [hqn]; exact hl.2.1
  obtain ⟨rr, hrr⟩ : ∃ z, z = rm s.cf.p s.cf.c s.cf.q s.cf.g := ⟨_, rfl⟩
  obtain ⟨cc, hcc⟩ : ∃ z, z = s.cf.c := ⟨_, rfl⟩
  obtain ⟨cg, hcg⟩ : ∃ z, z = s.cf.g := ⟨_, rfl⟩
  have hz2 : z = (decide ((mm : Int) ≤ rr) && decide ((mm : Int) + qn ≤ cc) && decide ((gn : Int) ≤ cg)) := by rw [hz, fts, hmm, hqn, hgn, hrr, hcc, hcg]
  have hwr : IntKind.i64.wrap ((mm : Int) + (qn : Int)) = (mm : Int) + (qn : Int) := by rw [IntKind.wrap_i64]; omega
  have C62 := count_at s.pg 1 r.a1 s.pg.length r.c1 rfl (by have := hl.1; omega) w1 x.rows.pg.row
  rw [← hmm] at C62
  have HC62 := Lib.hid C62
  have C63 := fun V => croom_at s.cf.p s.cf.c s.cf.q s.cf.g V
  rw [← hrr] at C63
  have HC63 := Lib.hid C63
  have HZ := Lib.hid hz2
  have HX := Lib.hid (And.intro x (And.intro hg (And.intro hqn (And.intro hgn (And.intro hcc hcg)))))
  have d5 := at5 x.box
  rw [← hg] at d5
  clear hz hmm hqn hgn hrr hcc hcg hz2 C62 C63 x hw1 hg hr hl
  have W8 : ∀ w', Below w1.heap.size w1 w' → Box w' g (sA s r) ∧ Below w.heap.size w w' := fun w' hb => ⟨by rw [HX.out.2.1]; exact (HX.out.1.keep hb).box, (HX.out.1.keep hb).bel⟩
  by_cases h1 : (mm : Int) ≤ rr
  · by_cases h2 : (mm : Int) + (qn : Int) ≤ cc
    · by_cases h3 : (gn : Int) ≤ cg
      · have HE : Hid (z = true) := Lib.hid (by rw [HZ.out]; simp only [Bool.and_eq_true, decide_eq_true_eq]; exact ⟨⟨h1, h2⟩, h3⟩)
        go_enter Try.func48, Try.ntmps48
        go_wp2_with (first | fail | rw [← HW.out, ← HX.out.2.1])
        refine HC62.out.mono ?_
        rintro e w2 ⟨rfl, hb2⟩
        obtain ⟨x2, q2⟩ := W8 w2 hb2
        have d0 := at0 x2
        have d1 := at1 x2
        have d2 := at2 x2
        have d3 := at3 x2
        rw [← HX.out.2.2.2.2.1] at d1
        rw [← HX.out.2.2.2.2.2] at d3
        have C := HC63.out w2
        rw [← HX.out.2.2.2.2.1, ← HX.out.2.2.2.2.2] at C
        have HC := Lib.hid C
        clear C
        go_wp2_with fail
        refine HC.out.mono ?_
        rintro e w3 ⟨rfl, hb3⟩
        obtain ⟨x3, q3⟩ := W8 w3 (hb2.trans (hb3.mono hb2.size))
        have e1 := at1 x3
        have e3 := at3 x3
        have e6 := at6 x3
        have e7 := at7 x3
        rw [← HX.out.2.2.2.2.1] at e1
        rw [← HX.out.2.2.2.2.2] at e3
        rw [← HX.out.2.2.1] at e6
        rw [← HX.out.2.2.2.1] at e7
        have HQ := Lib.hid q3
        clear d0 d1 d2 d3 d5 x2 q2 hb2 hb3 x3 q3 HC
        go_wp2_with fail
        go_ret
        exact ⟨by rw [HE.out]; rfl, HQ.out⟩
      · have HE : Hid (z = false) := Lib.hid (by rw [HZ.out]; simp only [Bool.and_eq_false_iff, decide_eq_false_iff_not]; exact .inr h3)
        go_enter Try.func48, Try.ntmps48
        go_wp2_with (first | fail | rw [← HW.out, ← HX.out.2.1])
        refine HC62.out.mono ?_
        rintro e w2 ⟨rfl, hb2⟩
        obtain ⟨x2, q2⟩ := W8 w2 hb2
        have d0 := at0 x2
        have d1 := at1 x2
        have d2 := at2 x2
        have d3 := at3 x2
        rw [← HX.out.2.2.2.2.1] at d1
        rw [← HX.out.2.2.2.2.2] at d3
        have C := HC63.out w2
        rw [← HX.out.2.2.2.2.1, ← HX.out.2.2.2.2.2] at C
        have HC := Lib.hid C
        clear C
        go_wp2_with fail
        refine HC.out.mono ?_
        rintro e w3 ⟨rfl, hb3⟩
        obtain ⟨x3, q3⟩ := W8 w3 (hb2.trans (hb3.mono hb2.size))
        have e1 := at1 x3
        have e3 := at3 x3
        have e6 := at6 x3
        have e7 := at7 x3
        rw [← HX.out.2.2.2.2.1] at e1
        rw [← HX.out.2.2.2.2.2] at e3
        rw [← HX.out.2.2.1] at e6
        rw [← HX.out.2.2.2.1] at e7
        have HQ := Lib.hid q3
        clear d0 d1 d2 d3 d5 x2 q2 hb2 hb3 x3 q3 HC
        go_wp2_with fail
        go_ret
        exact ⟨by rw [HE.out]; show Ending.returned (Value.bool (decide ((gn : Int) ≤ cg))) = _; rw [decide_eq_false (by omega)], HQ.out⟩
    · have HE : Hid (z = false) := Lib.hid (by rw [HZ.out]; simp only [Bool.and_eq_false_iff, decide_eq_false_iff_not]; exact .inl (.inr h2))
      go_enter Try.func48, Try.ntmps48
      go_wp2_with (first | fail | rw [← HW.out, ← HX.out.2.1])
      refine HC62.out.mono ?_
      rintro e w2 ⟨rfl, hb2⟩
      obtain ⟨x2, q2⟩ := W8 w2 hb2
      have d0 := at0 x2
      have d1 := at1 x2
      have d2 := at2 x2
      have d3 := at3 x2
      rw [← HX.out.2.2.2.2.1] at d1
      rw [← HX.out.2.2.2.2.2] at d3
      have C := HC63.out w2
      rw [← HX.out.2.2.2.2.1, ← HX.out.2.2.2.2.2] at C
      have HC := Lib.hid C
      clear C
      go_wp2_with fail
      refine HC.out.mono ?_
      rintro e w3 ⟨rfl, hb3⟩
      obtain ⟨x3, q3⟩ := W8 w3 (hb2.trans (hb3.mono hb2.size))
      have e1 := at1 x3
      have e3 := at3 x3
      have e6 := at6 x3
      have e7 := at7 x3
      rw [← HX.out.2.2.2.2.1] at e1
      rw [← HX.out.2.2.2.2.2] at e3
      rw [← HX.out.2.2.1] at e6
      rw [← HX.out.2.2.2.1] at e7
      have HQ := Lib.hid q3
      clear d0 d1 d2 d3 d5 x2 q2 hb2 hb3 x3 q3 HC
      go_wp2_with fail
      go_ret
      exact ⟨by rw [HE.out]; rfl, HQ.out⟩
  · have HE : Hid (z = false) := Lib.hid (by rw [HZ.out]; simp only [Bool.and_eq_false_iff, decide_eq_false_iff_not]; exact .inl (.inl h1))
    go_enter Try.func48, Try.ntmps48
    go_wp2_with (first | fail | rw [← HW.out, ← HX.out.2.1])
    refine HC62.out.mono ?_
    rintro e w2 ⟨rfl, hb2⟩
    obtain ⟨x2, q2⟩ := W8 w2 hb2
    have d0 := at0 x2
    have d1 := at1 x2
    have d2 := at2 x2
    have d3 := at3 x2
    rw [← HX.out.2.2.2.2.1] at d1
    rw [← HX.out.2.2.2.2.2] at d3
    have C := HC63.out w2
    rw [← HX.out.2.2.2.2.1, ← HX.out.2.2.2.2.2] at C
    have HC := Lib.hid C
    clear C
    go_wp2_with fail
    refine HC.out.mono ?_
    rintro e w3 ⟨rfl, hb3⟩
    obtain ⟨x3, q3⟩ := W8 w3 (hb2.trans (hb3.mono hb2.size))
    have e1 := at1 x3
    have e3 := at3 x3
    have e6 := at6 x3
    have e7 := at7 x3
    rw [← HX.out.2.2.2.2.1] at e1
    rw [← HX.out.2.2.2.2.2] at e3
    rw [← HX.out.2.2.1] at e6
    rw [← HX.out.2.2.2.1] at e7
    have HQ := Lib.hid q3
    clear d0 d1 d2 d3 d5 x2 q2 hb2 hb3 x3 q3 HC
    go_wp2_with fail
    go_ret
    exact ⟨by rw [HE.out]; rfl, HQ.out⟩
end Go.Proofs.Ytifenpmkbnohhaa
