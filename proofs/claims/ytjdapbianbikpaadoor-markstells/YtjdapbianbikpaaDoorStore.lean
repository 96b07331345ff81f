/-
  Putting a number into a set, and dropping one.
-/
import Derived.Test.YtjdapbianbikpaaDoorMem
import Derived.StillTailTactics
namespace Go.Proofs.YtjdapbianbikpaaDoor
open Go.ChangeShapes Go.WideShapes Go.ChangeAt Go.RowKit
set_option linter.unusedVariables false

theorem same_flip {P : Program} {f : FuncId} {args : Array Value} {w : World} {v : Value} (h : Calls P f args w fun e w' => e = .returned v ∧ w = w') :
    Calls P f args w fun e w' => e = .returned v ∧ w' = w := h.mono fun _ _ ⟨a, b⟩ => ⟨a, b.symm⟩

/-- a region that reads, calls what only reckons, and ends in one forced tail: the world has a name of its own -/
theorem region_tail {P : Program} {id : Nat} {Q : Exit → Act → World → Prop} {a : Act} {w : World} {l : List Oper} (n : Nat) (hm : P.follows .mixedOrders = true) (hB : Region.lexTailB .any l.toArray n = true)
    (h : ∀ w2 : World, w2 = w.drewN 1 → wpStill P l.toArray w2 (fun a' => wpList P l.toArray Q (l.drop n) a' w2) (l.take n) a) : (Code.region id l.toArray true).wp P Q a w :=
  wp_region_still_tail n hm hB (h _ rfl)

/-- what a number not fitting, or being in it, makes -/
theorem put_no (p : Option Addr) (i : Int) (w : World) (hf : Calls Tryd.prog 26 #[.pointer p, .int .i64 i] w fun e w' => e = .returned (.bool false) ∧ w = w') :
    Calls Tryd.prog 13 #[.pointer p, .int .i64 i] w fun e w' => e = .returned (.bool false) ∧ ∃ q, w' = w.drewN q := by
  have Hf := Lib.hid hf
  clear hf
  go_enter Tryd.func13, Tryd.ntmps13
  go_wp2_with (go_at_call 26; refine Hf.out.mono ?_; rintro e w' ⟨rfl, rfl⟩)
  go_ret
  exact ⟨rfl, 0, rfl⟩
theorem put_nil (i : Int) (w : World) : Calls Tryd.prog 13 #[.pointer none, .int .i64 i] w fun e w' => e = .returned (.bool false) ∧ ∃ q, w' = w.drewN q :=
  put_no none i w (fits_nil i w)
theorem drop_no (p : Option Addr) (i : Int) (w : World) (hf : Calls Tryd.prog 22 #[.pointer p, .int .i64 i] w fun e w' => e = .returned (.bool false) ∧ ∃ q, w' = w.drewN q) :
    Calls Tryd.prog 11 #[.pointer p, .int .i64 i] w fun e w' => e = .returned (.bool false) ∧ ∃ q, w' = w.drewN q := by
  have Hf := Lib.hid hf
  clear hf
  go_enter Tryd.func11, Tryd.ntmps11
  go_wp2_with (go_at_call 22; refine Hf.out.mono ?_; rintro e w' ⟨rfl, q, rfl⟩)
  go_ret
  exact ⟨rfl, q, rfl⟩
theorem drop_nil (i : Int) (w : World) : Calls Tryd.prog 11 #[.pointer none, .int .i64 i] w fun e w' => e = .returned (.bool false) ∧ ∃ q, w' = w.drewN q :=
  drop_no none i w (has_nil i w)

set_option maxHeartbeats 400000 in
theorem put_in (b : Nat) (n i : Int) (w : World) (hc : w.cell? ⟨b, 0, none⟩ = some (.int .i64 n)) (h0 : 0 ≤ i) (h : i < n)
    (hh : Calls Tryd.prog 22 #[.pointer (some ⟨b, 0, none⟩), .int .i64 i] w fun e w' => e = .returned (.bool true) ∧ ∃ q, w' = w.drewN q) :
    Calls Tryd.prog 13 #[.pointer (some ⟨b, 0, none⟩), .int .i64 i] w fun e w' => e = .returned (.bool false) ∧ ∃ q, w' = w.drewN q := by
  have Hh := Lib.hid hh
  clear hh
  go_enter Tryd.func13, Tryd.ntmps13
  go_wp2_with (first | (go_at_call 26; refine (fits_yes b n i _ hc h0 h).mono ?_; rintro e w' ⟨rfl, rfl⟩) | (go_at_call 22; refine Hh.out.mono ?_; rintro e w' ⟨rfl, q, rfl⟩))
  go_ret
  exact ⟨rfl, q, rfl⟩
set_option maxHeartbeats 400000 in
theorem put_new (b g len cap : Nat) (n i : Int) (x : Nat) (w : World) (h0 : 0 ≤ i) (h : i < n) (hn : n ≤ 65536) (hx : x < 18446744073709551616) (hl : i.toNat / 64 < len)
    (hw : w.cell? ⟨b, 0, none⟩ = some (.int .i64 n)) (hr : w.cell? ⟨b, 1, none⟩ = some (.slice (some ⟨g, 0, none⟩) len cap)) (hc : w.cell? ⟨g, i.toNat / 64, none⟩ = some (.int .u64 (x : Int)))
    (hfr : w.frozen? ⟨g, i.toNat / 64, none⟩ = false)
    (hh : Calls Tryd.prog 22 #[.pointer (some ⟨b, 0, none⟩), .int .i64 i] w fun e w' => e = .returned (.bool false) ∧ ∃ q, w' = w.drewN q) :
    Calls Tryd.prog 13 #[.pointer (some ⟨b, 0, none⟩), .int .i64 i] w fun e w' => e = .returned (.bool true) ∧ ∃ q, w' = (w.drewN q).setCell ⟨g, i.toNat / 64, none⟩ (.int .u64 (bits .or .u64 (x : Int) ((bt i : Nat) : Int))) := by
  have hk := div64 i h0 (by omega)
  generalize hkk : i.toNat / 64 = k at *
  have Hkk := Lib.hid hkk
  clear hkk
  have Hh := Lib.hid hh
  clear hh
  go_enter Tryd.func13, Tryd.ntmps13
  go_wp2_with (first | (go_at_call 26; refine (fits_yes b n i _ hw h0 h).mono ?_; rintro e w' ⟨rfl, rfl⟩) | (go_at_call 22; refine Hh.out.mono ?_; rintro e w' ⟨rfl, q, rfl⟩))
  refine region_tail 12 (by kernel_rfl) (by kernel_rfl) ?_
  intro w2 hw2
  have hr2 : w2.cell? ⟨b, 1, none⟩ = some (.slice (some ⟨g, 0, none⟩) len cap) := by rw [hw2]; exact hr
  have hc2 : w2.cell? ⟨g, k, none⟩ = some (.int .u64 (x : Int)) := by rw [hw2]; exact hc
  have hf2 : w2.frozen? ⟨g, k, none⟩ = false := by rw [hw2]; exact hfr
  rw [World.drewN_drewN] at hw2
  have Hw2 := Lib.hid hw2
  clear hw2 hr hc hfr hw
  simp only [List.take_succ_cons, List.take_zero, List.drop_succ_cons, List.drop_zero]
  repeat (first | still_step | still_call (same_flip (bit_any _ _ h0)))
  refine wpStill_nil ?_
  go_wp2
  go_ret
  exact ⟨rfl, q + 1, by rw [← Hw2.out]⟩
set_option maxHeartbeats 400000 in
theorem drop_old (b g len cap : Nat) (i : Int) (x : Nat) (w : World) (h0 : 0 ≤ i) (hn : i < 65536) (hx : x < 18446744073709551616) (hl : i.toNat / 64 < len)
    (hr : w.cell? ⟨b, 1, none⟩ = some (.slice (some ⟨g, 0, none⟩) len cap)) (hc : w.cell? ⟨g, i.toNat / 64, none⟩ = some (.int .u64 (x : Int)))
    (hfr : w.frozen? ⟨g, i.toNat / 64, none⟩ = false)
    (hh : Calls Tryd.prog 22 #[.pointer (some ⟨b, 0, none⟩), .int .i64 i] w fun e w' => e = .returned (.bool true) ∧ ∃ q, w' = w.drewN q) :
    Calls Tryd.prog 11 #[.pointer (some ⟨b, 0, none⟩), .int .i64 i] w fun e w' => e = .returned (.bool true) ∧ ∃ q, w' = (w.drewN q).setCell ⟨g, i.toNat / 64, none⟩ (.int .u64 (bits .andNot .u64 (x : Int) ((bt i : Nat) : Int))) := by
  have hk := div64 i h0 (by omega)
  generalize hkk : i.toNat / 64 = k at *
  have Hkk := Lib.hid hkk
  clear hkk
  have Hh := Lib.hid hh
  clear hh
  go_enter Tryd.func11, Tryd.ntmps11
  go_wp2_with (go_at_call 22; refine Hh.out.mono ?_; rintro e w' ⟨rfl, q, rfl⟩)
  refine region_tail 12 (by kernel_rfl) (by kernel_rfl) ?_
  intro w2 hw2
  have hr2 : w2.cell? ⟨b, 1, none⟩ = some (.slice (some ⟨g, 0, none⟩) len cap) := by rw [hw2]; exact hr
  have hc2 : w2.cell? ⟨g, k, none⟩ = some (.int .u64 (x : Int)) := by rw [hw2]; exact hc
  have hf2 : w2.frozen? ⟨g, k, none⟩ = false := by rw [hw2]; exact hfr
  rw [World.drewN_drewN] at hw2
  have Hw2 := Lib.hid hw2
  clear hw2 hr hc hfr
  simp only [List.take_succ_cons, List.take_zero, List.drop_succ_cons, List.drop_zero]
  repeat (first | still_step | still_call (same_flip (bit_any _ _ h0)))
  refine wpStill_nil ?_
  go_wp2
  go_ret
  exact ⟨rfl, q + 1, by rw [← Hw2.out]⟩

/-! ### sets as what they have -/
/-- at block b lies a set of width n that has just the numbers told by m -/
def IsSet (w : World) (b g n : Nat) (m : Nat → Bool) : Prop := ∃ cap ws, SetAt w b g cap n ws ∧ mem ws = m

theorem grown_trans {a b c : World} {row : Option Nat} (h1 : a.grownBy b row) (h2 : b.grownBy c row) : a.grownBy c row :=
  ⟨h2.os.trans h1.os, h2.tape.trans h1.tape, h2.output.trans h1.output, Nat.le_trans h1.size h2.size, fun k hk hr => (h2.block k (Nat.lt_of_lt_of_le hk h1.size) hr).trans (h1.block k hk hr)⟩
/-- what nothing of old turns, turns nothing of old but a row -/
theorem grown_any {a b : World} (h : a.grownBy b none) (row : Option Nat) : a.grownBy b row :=
  ⟨h.os, h.tape, h.output, h.size, fun k hk _ => h.block k hk (by simp)⟩
theorem grown_drewN (w : World) (q : Nat) (row : Option Nat) : w.grownBy (w.drewN q) row := ⟨rfl, rfl, rfl, Nat.le_refl _, fun _ _ _ => rfl⟩
theorem SetAt.drewN {w : World} {b g cap n : Nat} {ws : List Nat} (h : SetAt w b g cap n ws) (q : Nat) : SetAt (w.drewN q) b g cap n ws :=
  h.of_same (Nat.le_refl _) rfl rfl
theorem IsSet.kept {w w' : World} {b g n : Nat} {m : Nat → Bool} {row : Option Nat} (h : IsSet w b g n m) (hg : w.grownBy w' row) (hb : some b ≠ row) (hg' : some g ≠ row) : IsSet w' b g n m := by
  obtain ⟨cap, ws, hs, hm⟩ := h
  exact ⟨cap, ws, hs.of_same hg.size (hg.block b hs.blt hb) (hg.block g hs.glt hg'), hm⟩
theorem Tab.kept {w w' : World} {row : Option Nat} (h : Tab w) (hg : w.grownBy w' row) (h0 : some 0 ≠ row) : Tab w' :=
  fun i hi => hg.cell (h i hi) h0

theorem grown_setCell (w : World) (g k : Nat) (v : Value) : w.grownBy (w.setCell ⟨g, k, none⟩ v) (some g) :=
  ⟨rfl, rfl, rfl, by simp, fun j _ hj => Below.heap_setCell _ _ _ j (fun e => hj (by rw [e]))⟩

theorem SetAt.setWord {w : World} {b g cap n : Nat} {ws : List Nat} (h : SetAt w b g cap n ws) {k v : Nat} (hk : k < ws.length) (hv : v < 18446744073709551616)
    (ho : ∀ i, n ≤ i → mem (ws.set k v) i = false) : SetAt (w.setCell ⟨g, k, none⟩ (.int .u64 (v : Int))) b g cap n (ws.set k v) := by
  have hb : (w.setCell ⟨g, k, none⟩ (.int .u64 (v : Int))).heap[b]? = w.heap[b]? := Below.heap_setCell _ _ _ b h.ne
  refine ⟨h.le, by rw [List.length_set]; exact h.len, by rw [List.length_set]; exact h.cap_le, h.cap_max, fun j => ?_, ho, h.ne, by simpa using h.blt, by simpa using h.glt, ?_, ?_, ?_, ?_⟩
  · rw [wd_set _ _ _ _ hk]; split
    · exact hv
    · exact h.word j
  · exact (World.cell?_of_block (a := ⟨b, 0, none⟩) hb).trans h.width
  · rw [List.length_set]; exact (World.cell?_of_block (a := ⟨b, 1, none⟩) hb).trans h.row
  · intro j hj
    rw [List.length_set] at hj
    rw [wd_set _ _ _ _ hk]
    by_cases hjk : j = k
    · subst hjk
      rw [if_pos rfl]
      exact World.cell?_setCell_same' _ _ _ (by rw [h.cell j hj]; rfl)
    · rw [if_neg hjk, ← h.cell j hj]
      exact World.cell?_setCell_other _ _ _ _ (fun e => hjk (congrArg Addr.off e).symm)
  · intro j hj
    rw [List.length_set] at hj
    rw [World.frozen?_setCell]; exact h.free j hj
theorem or_bt (x : Nat) (i : Int) (hx : x < 18446744073709551616) : bits .or .u64 (x : Int) ((bt i : Nat) : Int) = ((x ||| 2 ^ (i.toNat % 64) : Nat) : Int) := by
  rw [u64_or_nat _ _ hx (by have := bt_le i; omega)]; rfl
theorem andNot_bt (x : Nat) (i : Int) (hx : x < 18446744073709551616) : bits .andNot .u64 (x : Int) ((bt i : Nat) : Int) = ((x &&& (18446744073709551615 - 2 ^ (i.toNat % 64)) : Nat) : Int) := by
  rw [u64_andNot_nat _ _ hx (by have := bt_le i; omega)]; rfl

/-- what Put makes of a set -/
def PutPost (w : World) (b g n : Nat) (m : Nat → Bool) (i : Int) (e : Ending) (w' : World) : Prop :=
  e = .returned (.bool (decide (0 ≤ i ∧ i < (n : Int)) && !m i.toNat)) ∧ w.grownBy w' (some g) ∧ IsSet w' b g n (fun j => m j || decide (0 ≤ i ∧ i < (n : Int) ∧ j = i.toNat))
theorem put_at (w : World) (b g n : Nat) (m : Nat → Bool) (i : Int) (h : IsSet w b g n m) :
    Calls Tryd.prog 13 #[.pointer (some ⟨b, 0, none⟩), .int .i64 i] w (PutPost w b g n m i) := by
  obtain ⟨cap, ws, hs, rfl⟩ := h
  have hle := hs.le
  have hlen := hs.len
  have hh := has_at w b g cap n ws i hs
  by_cases hi : 0 ≤ i ∧ i < n
  · rw [show decide (0 ≤ i) = true by simp; omega, Bool.true_and] at hh
    cases hm : mem ws i.toNat with
    | true =>
      rw [hm] at hh
      refine (put_in b n i w hs.width hi.1 hi.2 hh).mono ?_
      rintro e w' ⟨rfl, q, rfl⟩
      refine ⟨by rw [hm]; simp, grown_drewN w q _, cap, ws, hs.drewN q, ?_⟩
      funext j
      by_cases hj : j = i.toNat
      · subst hj; simp [hm]
      · simp [hj]
    | false =>
      rw [hm] at hh
      refine (put_new b g ws.length cap n i (wd ws (i.toNat / 64)) w hi.1 hi.2 (by omega) (hs.word _) (by omega) hs.width hs.row (hs.cell _ (by omega)) (hs.free _ (by omega)) hh).mono ?_
      rintro e w' ⟨rfl, q, rfl⟩
      rw [or_bt _ _ (hs.word _)]
      have hlt : wd ws (i.toNat / 64) ||| 2 ^ (i.toNat % 64) < 18446744073709551616 :=
        Nat.or_lt_two_pow (n := 64) (hs.word _) (Nat.pow_lt_pow_right (by decide) (by omega))
      have hmp := mem_put ws i.toNat
      refine ⟨by rw [hm]; simp [hi], ?_, cap, _, (hs.drewN q).setWord (by omega) hlt ?_, ?_⟩
      · exact ⟨rfl, rfl, rfl, by simp, fun j _ hj => Below.heap_setCell _ _ _ j (fun e => hj (by rw [e]))⟩
      · intro j hj
        rw [hmp j (by omega), hs.out j hj]
        have : j ≠ i.toNat := by omega
        simp [this]
      · funext j
        rw [hmp j (by omega)]
        simp [hi]
  · refine (put_no _ i w (fits_no b n i w hs.width (by omega))).mono ?_
    rintro e w' ⟨rfl, q, rfl⟩
    refine ⟨by simp [hi], grown_drewN w q _, cap, ws, hs.drewN q, ?_⟩
    funext j
    have : ¬ (0 ≤ i ∧ i < (n : Int) ∧ j = i.toNat) := fun h => hi ⟨h.1, h.2.1⟩
    simp [this]
def DropPost (w : World) (b g n : Nat) (m : Nat → Bool) (i : Int) (e : Ending) (w' : World) : Prop :=
  e = .returned (.bool (decide (0 ≤ i) && m i.toNat)) ∧ w.grownBy w' (some g) ∧ IsSet w' b g n (fun j => m j && !decide (0 ≤ i ∧ j = i.toNat))
theorem drop_at (w : World) (b g n : Nat) (m : Nat → Bool) (i : Int) (h : IsSet w b g n m) :
    Calls Tryd.prog 11 #[.pointer (some ⟨b, 0, none⟩), .int .i64 i] w (DropPost w b g n m i) := by
  obtain ⟨cap, ws, hs, rfl⟩ := h
  have hle := hs.le
  have hlen := hs.len
  have hh := has_at w b g cap n ws i hs
  cases hm : decide (0 ≤ i) && mem ws i.toNat with
  | false =>
    rw [hm] at hh
    refine (drop_no _ i w hh).mono ?_
    rintro e w' ⟨rfl, q, rfl⟩
    refine ⟨by rw [hm], grown_drewN w q _, cap, ws, hs.drewN q, ?_⟩
    funext j
    by_cases hj : 0 ≤ i ∧ j = i.toNat
    · obtain ⟨h0, rfl⟩ := hj
      simp [h0] at hm
      simp [hm]
    · simp only [hj, decide_false, Bool.not_false, Bool.and_true]
  | true =>
    rw [hm] at hh
    simp only [Bool.and_eq_true, decide_eq_true_eq] at hm
    have hi : i.toNat < n := by
      refine Classical.byContradiction fun hn => ?_
      have := hs.out i.toNat (by omega)
      rw [this] at hm; exact absurd hm.2 (by decide)
    refine (drop_old b g ws.length cap i (wd ws (i.toNat / 64)) w hm.1 (by omega) (hs.word _) (by omega) hs.row (hs.cell _ (by omega)) (hs.free _ (by omega)) hh).mono ?_
    rintro e w' ⟨rfl, q, rfl⟩
    rw [andNot_bt _ _ (hs.word _)]
    have hmp := mem_drop ws i.toNat
    refine ⟨by simp [hm], ?_, cap, _, (hs.drewN q).setWord (by omega) (Nat.lt_of_le_of_lt Nat.and_le_left (hs.word _)) ?_, ?_⟩
    · exact ⟨rfl, rfl, rfl, by simp, fun j _ hj => Below.heap_setCell _ _ _ j (fun e => hj (by rw [e]))⟩
    · intro j hj
      rw [hmp j (by omega) (hs.word _), hs.out j hj]; rfl
    · funext j
      rw [hmp j (by omega) (hs.word _)]
      simp [hm.1]
theorem isHas_at (w : World) (b g n : Nat) (m : Nat → Bool) (i : Int) (h : IsSet w b g n m) :
    Calls Tryd.prog 22 #[.pointer (some ⟨b, 0, none⟩), .int .i64 i] w fun e w' => e = .returned (.bool (decide (0 ≤ i) && m i.toNat)) ∧ ∃ q, w' = w.drewN q := by
  obtain ⟨cap, ws, hs, rfl⟩ := h
  exact has_at w b g cap n ws i hs
theorem IsSet.drewN {w : World} {b g n : Nat} {m : Nat → Bool} (h : IsSet w b g n m) (q : Nat) : IsSet (w.drewN q) b g n m := by
  obtain ⟨cap, ws, hs, hm⟩ := h
  exact ⟨cap, ws, hs.drewN q, hm⟩
theorem IsSet.width {w : World} {b g n : Nat} {m : Nat → Bool} (h : IsSet w b g n m) : w.cell? ⟨b, 0, none⟩ = some (.int .i64 (n : Int)) := by
  obtain ⟨cap, ws, hs, hm⟩ := h
  exact hs.width
end Go.Proofs.YtjdapbianbikpaaDoor
