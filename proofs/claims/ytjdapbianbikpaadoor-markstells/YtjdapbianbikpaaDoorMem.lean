/-
  How a set lies in memory, and what the functions that read it return: a contract a function.
-/
import Derived.Test.YtjdapbianbikpaaDoorWalks
import Derived.Test.YtjdapbianbikpaaDoorSets
namespace Go.Proofs.YtjdapbianbikpaaDoor
open Go.ChangeShapes Go.WideShapes Go.ChangeAt Go.RowKit
set_option linter.unusedVariables false

/-- at block b lies a set of width n whose words are ws, at block g -/
structure SetAt (w : World) (b g cap n : Nat) (ws : List Nat) : Prop where
  le : n ≤ 65536
  len : ws.length = (n + 63) / 64
  cap_le : ws.length ≤ cap
  cap_max : cap ≤ maxLen
  word : ∀ k, wd ws k < 18446744073709551616
  out : ∀ i, n ≤ i → mem ws i = false
  ne : b ≠ g
  blt : b < w.heap.size
  glt : g < w.heap.size
  width : w.cell? ⟨b, 0, none⟩ = some (.int .i64 (n : Int))
  row : w.cell? ⟨b, 1, none⟩ = some (.slice (some ⟨g, 0, none⟩) ws.length cap)
  cell : ∀ k, k < ws.length → w.cell? ⟨g, k, none⟩ = some (.int .u64 ((wd ws k : Nat) : Int))
  free : ∀ k, k < ws.length → w.frozen? ⟨g, k, none⟩ = false

theorem SetAt.of_same {w w' : World} {b g cap n : Nat} {ws : List Nat} (h : SetAt w b g cap n ws) (hs : w.heap.size ≤ w'.heap.size)
    (hb : w'.heap[b]? = w.heap[b]?) (hg : w'.heap[g]? = w.heap[g]?) : SetAt w' b g cap n ws :=
  ⟨h.le, h.len, h.cap_le, h.cap_max, h.word, h.out, h.ne, Nat.lt_of_lt_of_le h.blt hs, Nat.lt_of_lt_of_le h.glt hs,
    (World.cell?_of_block (a := ⟨b, 0, none⟩) hb).trans h.width, (World.cell?_of_block (a := ⟨b, 1, none⟩) hb).trans h.row,
    fun k hk => (World.cell?_of_block (a := ⟨g, k, none⟩) hg).trans (h.cell k hk), fun k hk => (World.frozen?_of_block (a := ⟨g, k, none⟩) hg).trans (h.free k hk)⟩

theorem width_nil (w : World) : Calls Tryd.prog 9 #[.pointer none] w fun e w' => e = .returned (.int .i64 0) ∧ w = w' := by
  go_enter Tryd.func9, Tryd.ntmps9
  go_wp2
  go_ret
  exact ⟨rfl, rfl⟩
theorem width_at (b : Nat) (n : Int) (w : World) (h : w.cell? ⟨b, 0, none⟩ = some (.int .i64 n)) :
    Calls Tryd.prog 9 #[.pointer (some ⟨b, 0, none⟩)] w fun e w' => e = .returned (.int .i64 n) ∧ w = w' := by
  go_enter Tryd.func9, Tryd.ntmps9
  go_wp2
  go_ret
  exact ⟨rfl, rfl⟩
theorem fits_neg (p : Option Addr) (i : Int) (w : World) (h : i < 0) :
    Calls Tryd.prog 26 #[.pointer p, .int .i64 i] w fun e w' => e = .returned (.bool false) ∧ w = w' := by
  have hd : decide (0 ≤ i) = false := by simp; omega
  go_enter Tryd.func26, Tryd.ntmps26
  go_wp2
  go_ret
  exact ⟨rfl, rfl⟩
theorem fits_nil (i : Int) (w : World) :
    Calls Tryd.prog 26 #[.pointer none, .int .i64 i] w fun e w' => e = .returned (.bool false) ∧ w = w' := by
  by_cases h : i < 0
  · exact fits_neg none i w h
  · have hd : decide (0 ≤ i) = true := by simp; omega
    have hd2 : decide (i < 0) = false := by simp; omega
    go_enter Tryd.func26, Tryd.ntmps26
    go_wp2_with (go_at_call 9; refine (width_nil _).mono ?_; rintro e w' ⟨rfl, rfl⟩)
    go_ret
    exact ⟨rfl, rfl⟩
theorem fits_yes (b : Nat) (n i : Int) (w : World) (hc : w.cell? ⟨b, 0, none⟩ = some (.int .i64 n)) (h0 : 0 ≤ i) (h : i < n) :
    Calls Tryd.prog 26 #[.pointer (some ⟨b, 0, none⟩), .int .i64 i] w fun e w' => e = .returned (.bool true) ∧ w = w' := by
  have hd : decide (0 ≤ i) = true := by simp; omega
  have hd2 : decide (i < n) = true := by simp; omega
  go_enter Tryd.func26, Tryd.ntmps26
  go_wp2_with (go_at_call 9; refine (width_at _ n _ hc).mono ?_; rintro e w' ⟨rfl, rfl⟩)
  go_ret
  exact ⟨rfl, rfl⟩
theorem fits_no (b : Nat) (n i : Int) (w : World) (hc : w.cell? ⟨b, 0, none⟩ = some (.int .i64 n)) (h : i < 0 ∨ n ≤ i) :
    Calls Tryd.prog 26 #[.pointer (some ⟨b, 0, none⟩), .int .i64 i] w fun e w' => e = .returned (.bool false) ∧ w = w' := by
  by_cases h1 : i < 0
  · exact fits_neg _ i w h1
  · have hd : decide (0 ≤ i) = true := by simp; omega
    have hd2 : decide (i < n) = false := by simp; omega
    go_enter Tryd.func26, Tryd.ntmps26
    go_wp2_with (go_at_call 9; refine (width_at _ n _ hc).mono ?_; rintro e w' ⟨rfl, rfl⟩)
    go_ret
    exact ⟨rfl, rfl⟩

theorem quiet_same {P : Program} {f : FuncId} {args : Array Value} {w : World} {n : Nat} {v : Value}
    (h : Calls P f args (w.drewN n) fun e w' => e = .returned v ∧ w.drewN n = w') : Calls P f args (w.drewN n) fun e w'' => e = .returned v ∧ ∃ m, w'' = w.drewN m :=
  h.mono fun _ _ ⟨he, hm⟩ => ⟨he, n, hm.symm⟩

theorem has_no (p : Option Addr) (i : Int) (w : World) (hf : ∀ q, Calls Tryd.prog 26 #[.pointer p, .int .i64 i] (w.drewN q) fun e w' => e = .returned (.bool false) ∧ w.drewN q = w') :
    Calls Tryd.prog 22 #[.pointer p, .int .i64 i] w fun e w' => e = .returned (.bool false) ∧ ∃ q, w' = w.drewN q := by
  have Hf := Lib.hid hf
  clear hf
  go_enter Tryd.func22, Tryd.ntmps22
  go_wp2
  go_quiet ((go_at_call 26; exact quiet_same (Hf.out _)))
  go_wp2
  go_ret
  exact ⟨rfl, _, rfl⟩
theorem has_nil (i : Int) (w : World) : Calls Tryd.prog 22 #[.pointer none, .int .i64 i] w fun e w' => e = .returned (.bool false) ∧ ∃ q, w' = w.drewN q :=
  has_no none i w fun q => fits_nil i _
theorem div64 (i : Int) (h0 : 0 ≤ i) (h : i < 65536) : IntKind.i64.wrap (i.tdiv 64) = ((i.toNat / 64 : Nat) : Int) := by
  rw [Int.tdiv_eq_ediv_of_nonneg h0, IntKind.wrap_i64]; omega
set_option maxHeartbeats 400000 in
theorem has_yes (b g len cap : Nat) (n i : Int) (x : Nat) (w : World) (h0 : 0 ≤ i) (h : i < n) (hn : n ≤ 65536) (hx : x < 18446744073709551616) (hl : i.toNat / 64 < len)
    (hw : w.cell? ⟨b, 0, none⟩ = some (.int .i64 n)) (hr : w.cell? ⟨b, 1, none⟩ = some (.slice (some ⟨g, 0, none⟩) len cap)) (hc : w.cell? ⟨g, i.toNat / 64, none⟩ = some (.int .u64 (x : Int))) :
    Calls Tryd.prog 22 #[.pointer (some ⟨b, 0, none⟩), .int .i64 i] w fun e w' => e = .returned (.bool (x.testBit (i.toNat % 64))) ∧ ∃ q, w' = w.drewN q := by
  have hk := div64 i h0 (by omega)
  generalize hkk : i.toNat / 64 = k at *
  have Hkk := Lib.hid hkk
  clear hkk
  go_enter Tryd.func22, Tryd.ntmps22
  go_wp2
  go_quiet (first | (go_at_call 26; exact quiet_same (fits_yes b n i _ hw h0 h)) | (go_at_call 25; exact quiet_same (bit_any _ _ h0)))
  go_wp2
  go_ret
  exact ⟨congrArg (fun v => Ending.returned (.bool v)) (and_bt x i hx), _, rfl⟩
theorem has_at (w : World) (b g cap n : Nat) (ws : List Nat) (i : Int) (h : SetAt w b g cap n ws) :
    Calls Tryd.prog 22 #[.pointer (some ⟨b, 0, none⟩), .int .i64 i] w fun e w' => e = .returned (.bool (decide (0 ≤ i) && mem ws i.toNat)) ∧ ∃ q, w' = w.drewN q := by
  have hle := h.le
  have hlen := h.len
  by_cases hi : 0 ≤ i ∧ i < n
  · have := has_yes b g ws.length cap n i (wd ws (i.toNat / 64)) w hi.1 hi.2 (by omega) (h.word _) (by omega) h.width h.row (h.cell _ (by omega))
    rw [show decide (0 ≤ i) = true by simp; omega, Bool.true_and]
    exact this
  · have e : (decide (0 ≤ i) && mem ws i.toNat) = false := by
      by_cases h0 : 0 ≤ i
      · rw [h.out i.toNat (by omega)]; simp
      · simp [h0]
    rw [e]
    exact has_no _ i w fun q => fits_no b n i _ h.width (by omega)
end Go.Proofs.YtjdapbianbikpaaDoor
