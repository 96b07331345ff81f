/-
  The numbers as the program reckons them over Int, and that they are the plain ones. No program is named here.
-/
import Derived.Test.YtjdapbianbikpaaDoorLow
import Derived.Laws.Bits128
namespace Go.Proofs.YtjdapbianbikpaaDoor
open Go Go.RowKit

theorem wrap_lt {n : Nat} (h : n < 18446744073709551616) : IntKind.u64.wrap (n : Int) = (n : Int) := by
  rw [IntKind.wrap_u64]; omega

/-- the way of masks and sums, as it is reckoned -/
def ocI (x : Int) : Int :=
  let a := IntKind.u64.wrap (bits .and .u64 (x / 2) 6148914691236517205 + bits .and .u64 x 6148914691236517205)
  let b := IntKind.u64.wrap (bits .and .u64 (a / 4) 3689348814741910323 + bits .and .u64 a 3689348814741910323)
  let c := bits .and .u64 (IntKind.u64.wrap (b / 16 + b)) 1085102592571150095
  let d := IntKind.u64.wrap (c + c / 256)
  let e := IntKind.u64.wrap (d + d / 65536)
  bits .and .i64 (wrap64 (IntKind.u64.wrap (e + e / 4294967296))) 127

theorem and_lit (n m : Nat) (hn : n < 18446744073709551616) (hm : m < 18446744073709551616) : bits .and .u64 (n : Int) (m : Int) = ((n &&& m : Nat) : Int) := u64_and_nat n m hn hm
theorem val_le (m : Nat) (bs : List Nat) (h : ∀ b ∈ bs, b ≤ m) : val bs ≤ m * rep 1 bs.length := by
  induction bs with
  | nil => simp [val]
  | cons b r ih =>
    have := ih (fun c hc => h c (by simp [hc]))
    have hb := h b (by simp)
    simp only [val, rep, List.length_cons]
    rw [Nat.mul_add, Nat.mul_left_comm]
    omega
theorem bytesOf_lt (x : Nat) : ∀ b ∈ bytesOf x, b < 256 := by
  intro b hb; simp only [bytesOf, List.mem_cons, List.not_mem_nil, or_false] at hb; omega
theorem rep8 : rep 1 8 = 72340172838076673 := by decide +kernel
theorem ocI_eq (x : Nat) (h : x < 18446744073709551616) : ocI (x : Int) = ((cn x.testBit 64 : Nat) : Int) := by
  obtain ⟨ha, hb, hc⟩ := pc_steps x h
  have hA := val_le 255 ((bytesOf x).map t1) (by
    intro b hb; obtain ⟨u, hu, rfl⟩ := List.mem_map.1 hb; have := e1 u (bytesOf_lt x u hu); omega)
  have hB := val_le 68 ((bytesOf x).map fun u => t2 (t1 u)) (by
    intro b hb; obtain ⟨u, hu, rfl⟩ := List.mem_map.1 hb; have := e2 u (bytesOf_lt x u hu); omega)
  have hC := val_le 8 ((bytesOf x).map fun u => cn u.testBit 8) (by
    intro b hb; obtain ⟨u, hu, rfl⟩ := List.mem_map.1 hb; exact cn_le _ 8)
  rw [List.length_map, show (bytesOf x).length = 8 from rfl, rep8] at hA hB hC
  rw [← pcN_eq x h]
  unfold ocI pcN
  dsimp only at ha hb hc ⊢
  have q1 : bits .and .u64 ((x : Int) / 2) 6148914691236517205 = ((x / 2 &&& 6148914691236517205 : Nat) : Int) := and_lit (x / 2) 6148914691236517205 (by omega) (by decide)
  have q2 : bits .and .u64 (x : Int) 6148914691236517205 = ((x &&& 6148914691236517205 : Nat) : Int) := and_lit x 6148914691236517205 h (by decide)
  rw [q1, q2, ← Int.natCast_add, ha, wrap_lt (by omega)]
  rw [ha] at hb hc
  generalize val ((bytesOf x).map t1) = a at *
  have q3 : bits .and .u64 ((a : Int) / 4) 3689348814741910323 = ((a / 4 &&& 3689348814741910323 : Nat) : Int) := and_lit (a / 4) 3689348814741910323 (by omega) (by decide)
  have q4 : bits .and .u64 (a : Int) 3689348814741910323 = ((a &&& 3689348814741910323 : Nat) : Int) := and_lit a 3689348814741910323 (by omega) (by decide)
  rw [q3, q4, ← Int.natCast_add, hb, wrap_lt (by omega)]
  rw [hb] at hc
  generalize val ((bytesOf x).map fun u => t2 (t1 u)) = b at *
  have q5 : (b : Int) / 16 + (b : Int) = ((b / 16 + b : Nat) : Int) := by omega
  rw [q5, wrap_lt (by omega)]
  have q6 : bits .and .u64 ((b / 16 + b : Nat) : Int) 1085102592571150095 = ((b / 16 + b &&& 1085102592571150095 : Nat) : Int) := and_lit (b / 16 + b) 1085102592571150095 (by omega) (by decide)
  rw [q6, hc]
  generalize val ((bytesOf x).map fun u => cn u.testBit 8) = c at *
  clear q1 q2 q3 q4 q5 q6 ha hb hc
  have q7 : (c : Int) + (c : Int) / 256 = ((c + c / 256 : Nat) : Int) := by omega
  rw [q7, wrap_lt (by omega)]
  have hd : c + c / 256 ≤ 1000000000000000000 := by omega
  generalize c + c / 256 = d at *
  have q8 : (d : Int) + (d : Int) / 65536 = ((d + d / 65536 : Nat) : Int) := by omega
  rw [q8, wrap_lt (by omega)]
  have he : d + d / 65536 ≤ 2000000000000000000 := by omega
  generalize d + d / 65536 = e at *
  have q9 : (e : Int) + (e : Int) / 4294967296 = ((e + e / 4294967296 : Nat) : Int) := by omega
  rw [q9, wrap_lt (by omega), i64_and127]
  have q10 : wrap64 ((e + e / 4294967296 : Nat) : Int) = ((e + e / 4294967296 : Nat) : Int) := by unfold wrap64; omega
  rw [q10]
  omega
/-- the well-known way to the lowest bit, as it is reckoned -/
def tzI (x : Int) : Int := IntKind.u64.wrap (bits .and .u64 x (IntKind.u64.wrap (-x)) * 285870213051353865) / 288230376151711744
theorem tzI_eq (x : Nat) (h0 : 0 < x) (h : x < 18446744073709551616) : ∃ q : Nat, q < 64 ∧ tzI (x : Int) = (q : Int) ∧ tab[q]?.getD 0 = low x := by
  refine ⟨(x &&& (18446744073709551616 - x)) * 285870213051353865 % 18446744073709551616 / 288230376151711744, by omega, ?_, tab_at (by omega) h⟩
  unfold tzI
  rw [show IntKind.u64.wrap (-(x : Int)) = ((18446744073709551616 - x : Nat) : Int) by rw [IntKind.wrap_u64]; omega, u64_and_nat _ _ h (by omega), IntKind.wrap_u64]
  omega
end Go.Proofs.YtjdapbianbikpaaDoor
