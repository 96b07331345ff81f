/-
  The document's Print.
-/
import Derived.Test.YtdchmpbmaeoeoaaDoorDEnvT
import Derived.Laws.Strings3
import Derived.Lib.ConvBytes
namespace Go.Proofs.YtdchmpbmaeoeoaaDoor
open Go.Shelf Go.RowKit Go.Sort
open Go.Lib hiding intOf
set_option linter.unusedVariables false
theorem cv1 (W : World) (z : Int) (h0 : 0 ≤ z) (h1 : z < 256) : (convert 65 9 (.slice (some ⟨W.heap.size, 0, none⟩) 1 1)).run Tryd.prog (W.alloc (.cells #[.int .u8 z] 5)) = .ok (.string ⟨#[UInt8.ofNat z.toNat]⟩) (W.alloc (.cells #[.int .u8 z] 5)) := by
  have h := run_convert_bytes_back (P := Tryd.prog) (W.alloc (.cells #[.int .u8 z] 5)) 65 9 5 ⟨W.heap.size, 0, none⟩ 1 [UInt8.ofNat z.toNat] Tryd.underlying65 Tryd.underlying5 Tryd.underlying9 (fun j hj => by
    obtain rfl : j = 0 := by simpa using hj
    rw [Lib.add_plain, World.cell?_alloc_new]
    have e : (((UInt8.ofNat z.toNat).toNat : Nat) : Int) = z := by rw [UInt8.toNat_ofNat']; omega
    simp only [List.getElem_cons_zero, e]
    rfl)
  exact h
theorem wrap64 (a : Int) (h0 : 0 ≤ a) (h1 : a ≤ 18446744073709551615) : IntKind.u64.wrap a = a := by rw [IntKind.wrap_u64]; omega
theorem tdiv10 (a : Int) (h0 : 0 ≤ a) (h1 : a ≤ 18446744073709551615) : IntKind.u64.wrap (a.tdiv 10) = a / 10 := by
  rw [Int.tdiv_eq_ediv_of_nonneg h0, wrap64 _ (by omega) (by omega)]
theorem dec_step (v : Nat) (h : 10 ≤ v) : decDigits v = decDigits (v / 10) ++ [UInt8.ofNat (48 + v % 10)] := by
  rw [decDigits, dif_neg (by omega)]
theorem dec_small (v : Nat) (h : v < 10) : decDigits v = [UInt8.ofNat (48 + v)] := by rw [decDigits, dif_pos h]
theorem dec_len (u : Nat) (h : u < 18446744073709551616) : (decDigits u).length ≤ 20 := by rw [decDigits_length]; exact nDigits_le20 u h
theorem str_app (c : UInt8) (t : List UInt8) : (⟨#[c]⟩ ++ ⟨t.toArray⟩ : ByteArray) = ⟨(c :: t).toArray⟩ := by
  apply ByteArray.ext
  simp [ByteArray.data_append]
set_option maxHeartbeats 400000 in
set_option maxRecDepth 100000 in
theorem rprint_at (u : Nat) (hu64 : u < 18446744073709551616) (w : World) :
    Calls Tryd.prog 32 #[.int .u64 u] w fun e w' => e = .returned (.string (dstr u)) ∧ Below w.heap.size w w' := by
  obtain ⟨U, hU⟩ : ∃ U : Int, U = (u : Int) := ⟨_, rfl⟩
  have HU := Lib.hid (And.intro hU hu64)
  rw [← hU]
  clear hU hu64
  go_enter Tryd.func32, Tryd.ntmps32
  go_wp2
  go_loopw [0, 3] (fun n s wr => ∃ (a : Int) (t : List UInt8), 0 ≤ a ∧ t.length ≤ 20 ∧ n = .int .u64 a ∧ s = .string ⟨t.toArray⟩ ∧ Hid (a.toNat ≤ u ∧ decDigits u = decDigits a.toNat ++ t) ∧ Hid (Below w.heap.size w wr)) (fun n _ _ => (intOf n).toNat)
  case atStart =>
    obtain ⟨h1, h2⟩ := HU.out
    exact ⟨U, [], by omega, by simp, rfl, rfl, Lib.hid ⟨by omega, by rw [h1]; simp⟩, Lib.hid (Below.refl _ _)⟩
  case round =>
    obtain ⟨a, t, ha, ht, rfl, rfl, H1, H2⟩ := hrel
    by_cases h10 : 10 ≤ a
    · have hc := cv1 wr (48 + a % 10) (by omega) (by omega)
      have h256 : a % 10 < 10 := by omega
      have h0 : 0 ≤ a % 10 := by omega
      go_wp2
      go_round
      case rel =>
        obtain ⟨h1, h2⟩ := HU.out
        obtain ⟨h3, h4⟩ := H1.out
        have hl := dec_len u h2
        have e : decDigits u = decDigits (a / 10).toNat ++ (UInt8.ofNat (48 + a % 10).toNat :: t) := by
          rw [h4, dec_step a.toNat (by omega), show (48 + a % 10).toNat = 48 + a.toNat % 10 by omega, show (a / 10).toNat = a.toNat / 10 by omega]
          simp
        refine ⟨a / 10, UInt8.ofNat (48 + a % 10).toNat :: t, by omega, ?_, by rw [tdiv10 a ha (by omega)], by rw [str_app], Lib.hid ⟨by omega, e⟩, Lib.hid (H2.out.alloc H2.out.size _)⟩
        rw [e] at hl
        simp only [List.length_append] at hl
        omega
      case measure =>
        obtain ⟨h1, h2⟩ := HU.out
        obtain ⟨h3, h4⟩ := H1.out
        rw [tdiv10 a ha (by omega)]
        simp only [intOf]
        omega
    · have hc := cv1 wr (48 + a) (by omega) (by omega)
      have h11 : a < 10 := by omega
      go_wp2
      go_ret
      obtain ⟨h3, h4⟩ := H1.out
      refine ⟨?_, H2.out.alloc H2.out.size _⟩
      rw [str_app, dstr, h4, dec_small a.toNat (by omega), show (48 + a).toNat = 48 + a.toNat by omega]
      rfl
end Go.Proofs.YtdchmpbmaeoeoaaDoor
