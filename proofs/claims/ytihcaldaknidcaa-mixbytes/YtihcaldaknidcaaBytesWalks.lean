/-
  What package mix, and the document's answer, tell of bytes.
-/
import Derived.Test.YtihcaldaknidcaaAlive
import Derived.Test.YtihcaldaknidcaaBytesMath
import Derived.Lib.Hide
import Derived.Laws.OwnMore
import Derived.Laws.AppendOwnNone
import Derived.Below
import Derived.OwnWalk
namespace Go.Proofs.Ytihcaldaknidcaa
open Go.ChangeShapes Go.WideShapes Go.ChangeAt Go.RowKit
set_option linter.unusedVariables false

set_option maxHeartbeats 400000 in
theorem bytes_some (b off len cap : Nat) (zs : List Int) (w : World) (hm : len ≤ 3000) (hl : len ≤ zs.length)
    (hw : ∀ j : Nat, 0 ≤ zs[j]?.getD 0 ∧ zs[j]?.getD 0 ≤ 255)
    (hc : ∀ i : Nat, i < len → w.cell? ⟨b, off + i, none⟩ = some (.int .u8 (zs[i]?.getD 0))) :
    Calls Try.prog 13 #[.slice (some ⟨b, off, none⟩) len cap] w fun e w' => e = .returned (.int .u64 (bytesI (zs.take len))) ∧ w = w' := by
  have Hw := Lib.hid hw
  have Hc := Lib.hid hc
  clear hw hc
  go_enter Try.func13, Try.ntmps13
  go_wp2
  go_loop [3, 8] (fun h i => ∃ k : Nat, k ≤ len ∧ i = .int .i64 k ∧ h = .int .u64 (bytesI (zs.take k))) (fun _ i => len - (intOf i).toNat)
  case atStart => exact ⟨0, by omega, by go_num, rfl⟩
  case round =>
    obtain ⟨k, hk, rfl, rfl⟩ := hrel
    by_cases hlt : k < len
    · have hcell := Hc.out k hlt
      have hb := Hw.out k
      have hb0 := hb.1
      have hb1 := hb.2
      have hts := bytesI_snoc (zs.take k) (zs[k]?.getD 0)
      rw [← take_more zs k (by omega)] at hts
      have HS := Lib.hid hts
      clear hb hts
      go_wp2_with (go_at_call 7; refine (mix_any _ _ (nonneg_wrap _)).mono ?_; rintro e w' ⟨rfl, rfl⟩)
      go_round
      case rel => exact ⟨k + 1, by omega, by go_num, by rw [HS.out]⟩
      case measure => simp [intOf]; omega
    · go_wp2
      go_ret
      exact ⟨ret_int (by rw [show len = k by omega]), rfl⟩

set_option maxHeartbeats 400000 in
theorem rbytes_some (b off len cap : Nat) (zs : List Int) (w : World) (hm : len ≤ 3000) (hl : len ≤ zs.length)
    (hw : ∀ j : Nat, 0 ≤ zs[j]?.getD 0 ∧ zs[j]?.getD 0 ≤ 255)
    (hc : ∀ i : Nat, i < len → w.cell? ⟨b, off + i, none⟩ = some (.int .u8 (zs[i]?.getD 0))) :
    Calls Try.prog 14 #[.slice (some ⟨b, off, none⟩) len cap] w fun e w' => e = .returned (.int .u64 (rbytesI (zs.take len))) ∧ w = w' := by
  have Hw := Lib.hid hw
  have Hc := Lib.hid hc
  clear hw hc
  go_enter Try.func14, Try.ntmps14
  go_wp2
  go_loop [3, 4] (fun h i => ∃ k : Nat, k ≤ len ∧ i = .int .i64 k ∧ h = .int .u64 (rbytesI (zs.take k))) (fun _ i => len - (intOf i).toNat)
  case atStart => exact ⟨0, by omega, by go_num, rfl⟩
  case round =>
    obtain ⟨k, hk, rfl, rfl⟩ := hrel
    by_cases hlt : k < len
    · have hcell := Hc.out k hlt
      have hb := Hw.out k
      have hb0 := hb.1
      have hb1 := hb.2
      have hts := rbytesI_snoc (zs.take k) (zs[k]?.getD 0)
      rw [← take_more zs k (by omega)] at hts
      have HS := Lib.hid hts
      clear hb hts
      go_wp2_with (go_at_call 8; refine (ref_any _ _ (nonneg_wrap _)).mono ?_; rintro e w' ⟨rfl, rfl⟩)
      go_round
      case rel => exact ⟨k + 1, by omega, by go_num, by rw [HS.out]⟩
      case measure => simp [intOf]; omega
    · go_wp2
      go_ret
      exact ⟨ret_int (by rw [show len = k by omega]), rfl⟩

/-- no bytes -/
theorem rbytes_none (ad : Option Addr) (cap : Nat) (w : World) :
    Calls Try.prog 14 #[.slice ad 0 cap] w fun e w' => e = .returned (.int .u64 11400714819323198485) ∧ w = w' := by
  go_enter Try.func14, Try.ntmps14
  go_wp2
  refine wp_loop_rounds 1 ?_
  rw [rounds_succ]
  go_wp2
  go_ret
  exact ⟨rfl, rfl⟩

/-- the slice at A of len bytes reads as the numbers zs -/
def Row (w : World) (A : Option Addr) (len : Nat) (zs : List Int) : Prop :=
  zs.length = len ∧ (∀ j : Nat, 0 ≤ zs[j]?.getD 0 ∧ zs[j]?.getD 0 ≤ 255) ∧
  (0 < len → ∃ b off, A = some ⟨b, off, none⟩ ∧ b < w.heap.size ∧ ∀ i : Nat, i < len → w.cell? ⟨b, off + i, none⟩ = some (.int .u8 (zs[i]?.getD 0)))

theorem bytes_row {A : Option Addr} {len : Nat} {zs : List Int} {w : World} (cap : Nat) (h : Row w A len zs) (hm : len ≤ 3000) :
    Calls Try.prog 13 #[.slice A len cap] w fun e w' => e = .returned (.int .u64 (bytesI zs)) ∧ w = w' := by
  obtain ⟨hl, hb, hr⟩ := h
  rcases Nat.eq_zero_or_pos len with h0 | h0
  · subst h0
    obtain rfl : zs = [] := List.eq_nil_of_length_eq_zero hl
    exact bytes_none A cap w
  · obtain ⟨b, off, rfl, _, hc⟩ := hr h0
    refine (bytes_some b off len cap zs w hm (by omega) hb hc).mono fun e w' he => ?_
    rw [List.take_of_length_le (by omega)] at he
    exact he
theorem rbytes_row {A : Option Addr} {len : Nat} {zs : List Int} {w : World} (cap : Nat) (h : Row w A len zs) (hm : len ≤ 3000) :
    Calls Try.prog 14 #[.slice A len cap] w fun e w' => e = .returned (.int .u64 (rbytesI zs)) ∧ w = w' := by
  obtain ⟨hl, hb, hr⟩ := h
  rcases Nat.eq_zero_or_pos len with h0 | h0
  · subst h0
    obtain rfl : zs = [] := List.eq_nil_of_length_eq_zero hl
    exact rbytes_none A cap w
  · obtain ⟨b, off, rfl, _, hc⟩ := hr h0
    refine (rbytes_some b off len cap zs w hm (by omega) hb hc).mono fun e w' he => ?_
    rw [List.take_of_length_le (by omega)] at he
    exact he
theorem Row.below {A : Option Addr} {len : Nat} {zs : List Int} {w w' : World} (h : Row w A len zs) (hb : Below w.heap.size w w') : Row w' A len zs :=
  ⟨h.1, h.2.1, fun hp => by
    obtain ⟨b, off, rfl, hlt, hc⟩ := h.2.2 hp
    exact ⟨b, off, rfl, Nat.lt_of_lt_of_le hlt hb.size, fun i hi => (hb.cell (p := ⟨b, off + i, none⟩) hlt).trans (hc i hi)⟩⟩
theorem Row.of_own {w : World} {base n cap g : Nat} {zs : List Int} (h : w.ownsRow base 5 1 (.slice (some ⟨g, 0, none⟩) n cap) n (zs.map (Value.int .u8)))
    (hb : ∀ j : Nat, 0 ≤ zs[j]?.getD 0 ∧ zs[j]?.getD 0 ≤ 255) : Row w (some ⟨g, 0, none⟩) n zs := by
  have hl : zs.length = n := by have := h.1; simpa using this
  refine ⟨hl, hb, fun hp => ⟨g, 0, rfl, (h.lt g rfl).2, fun i hi => ?_⟩⟩
  rw [show (0 : Nat) + i = i by omega, h.cellAt i (by omega), List.getElem?_map, List.getElem?_eq_getElem (by omega)]
  rfl
end Go.Proofs.Ytihcaldaknidcaa
