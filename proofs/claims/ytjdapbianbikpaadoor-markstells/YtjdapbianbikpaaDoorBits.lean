/-
  Plain facts on the bits of numbers below 2^64: how many are set, which is the lowest, and what two well-known ways to reckon them come to. No program is named here.
-/
import Derived.Laws.Bits64
import Derived.Laws.BitsAllLaws
import Derived.OpenShut
namespace Go.Proofs.YtjdapbianbikpaaDoor
open Go

/-- how many numbers below n are told -/
def cn (m : Nat → Bool) (n : Nat) : Nat := ((List.range n).filter m).length

theorem cn_zero (m : Nat → Bool) : cn m 0 = 0 := rfl
theorem cn_succ (m : Nat → Bool) (n : Nat) : cn m (n + 1) = cn m n + if m n then 1 else 0 := by
  unfold cn
  rw [List.range_succ, List.filter_append, List.length_append]
  cases h : m n <;> simp [h]
theorem cn_add (m : Nat → Bool) (a b : Nat) : cn m (a + b) = cn m a + cn (fun j => m (a + j)) b := by
  induction b with
  | zero => simp [cn_zero]
  | succ b ih => rw [← Nat.add_assoc, cn_succ, ih, cn_succ]; omega
theorem cn_congr {m m' : Nat → Bool} {n : Nat} (h : ∀ i, i < n → m i = m' i) : cn m n = cn m' n := by
  induction n with
  | zero => rfl
  | succ n ih => rw [cn_succ, cn_succ, ih (fun i hi => h i (by omega)), h n (by omega)]
theorem cn_le (m : Nat → Bool) (n : Nat) : cn m n ≤ n := by
  induction n with
  | zero => exact Nat.le_refl _
  | succ n ih => rw [cn_succ]; split <;> omega
theorem cn_mono (m : Nat → Bool) {a b : Nat} (h : a ≤ b) : cn m a ≤ cn m b := by
  obtain ⟨c, rfl⟩ := Nat.exists_eq_add_of_le h
  rw [cn_add]; omega
theorem cn_none {m : Nat → Bool} {n : Nat} (h : ∀ i, i < n → m i = false) : cn m n = 0 := by
  rw [cn_congr (m' := fun _ => false) h]
  simp [cn]

/-! ### how many bits a word has -/
theorem land_byte (a b c d : Nat) (hb : b < 256) (hd : d < 256) : (256 * a + b) &&& (256 * c + d) = 256 * (a &&& c) + (b &&& d) := by
  have h1 : ((256 * a + b) &&& (256 * c + d)) / 2 ^ 8 = a &&& c := by
    rw [Nat.and_div_two_pow]
    rw [show (256 * a + b) / 2 ^ 8 = a by omega, show (256 * c + d) / 2 ^ 8 = c by omega]
  have h2 : ((256 * a + b) &&& (256 * c + d)) % 2 ^ 8 = b &&& d := by
    rw [Nat.and_mod_two_pow]
    rw [show (256 * a + b) % 2 ^ 8 = b by omega, show (256 * c + d) % 2 ^ 8 = d by omega]
  rw [← h1, ← h2]
  omega

def val : List Nat → Nat
  | [] => 0
  | b :: r => 256 * val r + b
def rep (c : Nat) : Nat → Nat
  | 0 => 0
  | k + 1 => 256 * rep c k + c

def t1 (b : Nat) : Nat := (b / 2 &&& 85) + (b &&& 85)
def t2 (b : Nat) : Nat := (b / 4 &&& 51) + (b &&& 51)
def t3 (b : Nat) : Nat := (b / 16 + b) &&& 15

theorem d1 : ∀ r, r < 2 → ∀ b, b < 256 → (r * 128 + b / 2) &&& 85 = (b / 2) &&& 85 := by decide +kernel
theorem d2 : ∀ r, r < 4 → ∀ b, b < 256 → (r * 64 + b / 4) &&& 51 = (b / 4) &&& 51 := by decide +kernel
theorem e1 : ∀ b, b < 256 → t1 b < 256 := by decide +kernel
theorem e2 : ∀ b, b < 256 → t2 (t1 b) < 256 ∧ t2 (t1 b) % 16 ≤ 4 ∧ t2 (t1 b) / 16 ≤ 4 := by decide +kernel
theorem d3 : ∀ r, r ≤ 4 → ∀ b, b < 80 → (r * 16 + (b / 16 + b)) &&& 15 = (b / 16 + b) &&& 15 := by decide +kernel
theorem e3 : ∀ b, b < 256 → t3 (t2 (t1 b)) = cn b.testBit 8 := by decide +kernel

theorem st1 (bs : List Nat) (h : ∀ b ∈ bs, b < 256) : (val bs / 2 &&& rep 85 bs.length) + (val bs &&& rep 85 bs.length) = val (bs.map t1) := by
  induction bs with
  | nil => rfl
  | cons b r ih =>
    have hb := h b (by simp)
    have ih := ih (fun c hc => h c (by simp [hc]))
    simp only [val, rep, List.length_cons, List.map_cons]
    rw [show (256 * val r + b) / 2 = 256 * (val r / 2) + (val r % 2 * 128 + b / 2) by omega]
    rw [land_byte _ _ _ _ (by omega) (by decide), land_byte _ _ _ _ hb (by decide), d1 _ (by omega) _ hb, ← ih]
    unfold t1; omega
theorem st2 (bs : List Nat) (h : ∀ b ∈ bs, b < 256) : (val bs / 4 &&& rep 51 bs.length) + (val bs &&& rep 51 bs.length) = val (bs.map t2) := by
  induction bs with
  | nil => rfl
  | cons b r ih =>
    have hb := h b (by simp)
    have ih := ih (fun c hc => h c (by simp [hc]))
    simp only [val, rep, List.length_cons, List.map_cons]
    rw [show (256 * val r + b) / 4 = 256 * (val r / 4) + (val r % 4 * 64 + b / 4) by omega]
    rw [land_byte _ _ _ _ (by omega) (by decide), land_byte _ _ _ _ hb (by decide), d2 _ (by omega) _ hb, ← ih]
    unfold t2; omega
theorem val_mod (bs : List Nat) (h : ∀ b ∈ bs, b % 16 ≤ 4) : val bs % 16 ≤ 4 := by
  cases bs with
  | nil => simp [val]
  | cons b r => have := h b (by simp); simp only [val]; omega
theorem st3 (bs : List Nat) (h : ∀ b ∈ bs, b < 256 ∧ b % 16 ≤ 4 ∧ b / 16 ≤ 4) : (val bs / 16 + val bs) &&& rep 15 bs.length = val (bs.map t3) := by
  induction bs with
  | nil => rfl
  | cons b r ih =>
    have hb := h b (by simp)
    have ih := ih (fun c hc => h c (by simp [hc]))
    have hm := val_mod r (fun c hc => (h c (by simp [hc])).2.1)
    simp only [val, rep, List.length_cons, List.map_cons]
    rw [show (256 * val r + b) / 16 + (256 * val r + b) = 256 * (val r / 16 + val r) + (val r % 16 * 16 + (b / 16 + b)) by omega]
    rw [land_byte _ _ _ _ (by omega) (by decide), d3 _ hm _ (by omega), ← ih]
    rfl

/-- the bytes of a word -/
def bytesOf (x : Nat) : List Nat := [x % 256, x / 256 % 256, x / 65536 % 256, x / 16777216 % 256, x / 4294967296 % 256, x / 1099511627776 % 256, x / 281474976710656 % 256, x / 72057594037927936 % 256]
theorem val_bytesOf (x : Nat) (h : x < 18446744073709551616) : val (bytesOf x) = x := by
  simp only [val, bytesOf]; omega

theorem cn_byte (x k : Nat) : cn (fun j => x.testBit (k + j)) 8 = cn (x / 2 ^ k % 256).testBit 8 := by
  refine cn_congr fun i hi => ?_
  rw [show (256 : Nat) = 2 ^ 8 by decide, Nat.testBit_mod_two_pow, Nat.testBit_div_two_pow, Nat.add_comm i k]
  simp [hi]
theorem cn_word (x : Nat) : cn x.testBit 64 = ((bytesOf x).map fun b => cn b.testBit 8).sum := by
  have s (k : Nat) : cn x.testBit (k + 8) = cn x.testBit k + cn (x / 2 ^ k % 256).testBit 8 := by rw [cn_add, cn_byte]
  have h0 := s 0
  have h1 := s 8
  have h2 := s 16
  have h3 := s 24
  have h4 := s 32
  have h5 := s 40
  have h6 := s 48
  have h7 := s 56
  rw [cn_zero] at h0
  simp only [Nat.reduceAdd, Nat.reducePow, Nat.div_one] at h0 h1 h2 h3 h4 h5 h6 h7
  simp only [bytesOf, List.map_cons, List.map_nil, List.sum_cons, List.sum_nil]
  omega

/-- the way of three masks, then three sums -/
def pcN (x : Nat) : Nat :=
  let a := (x / 2 &&& 6148914691236517205) + (x &&& 6148914691236517205)
  let b := (a / 4 &&& 3689348814741910323) + (a &&& 3689348814741910323)
  let c := (b / 16 + b) &&& 1085102592571150095
  let d := c + c / 256
  let e := d + d / 65536
  (e + e / 4294967296) % 128
theorem pc_steps (x : Nat) (h : x < 18446744073709551616) :
    let a := (x / 2 &&& 6148914691236517205) + (x &&& 6148914691236517205)
    let b := (a / 4 &&& 3689348814741910323) + (a &&& 3689348814741910323)
    let c := (b / 16 + b) &&& 1085102592571150095
    a = val ((bytesOf x).map t1) ∧ b = val ((bytesOf x).map (fun u => t2 (t1 u))) ∧ c = val ((bytesOf x).map (fun u => cn u.testBit 8)) := by
  have hb : ∀ b ∈ bytesOf x, b < 256 := by
    intro b hb; simp only [bytesOf, List.mem_cons, List.not_mem_nil, or_false] at hb; omega
  have h1 := st1 (bytesOf x) hb
  rw [val_bytesOf x h] at h1
  have h2 := st2 ((bytesOf x).map t1) (by
    intro b hb'; obtain ⟨c, hc, rfl⟩ := List.mem_map.1 hb'; exact e1 c (hb c hc))
  have h3 := st3 (((bytesOf x).map t1).map t2) (by
    intro b hb'; obtain ⟨c, hc, rfl⟩ := List.mem_map.1 hb'; obtain ⟨d, hd, rfl⟩ := List.mem_map.1 hc; exact e2 d (hb d hd))
  have l1 : rep 85 (bytesOf x).length = 6148914691236517205 := by show rep 85 8 = _; decide +kernel
  have l2 : rep 51 ((bytesOf x).map t1).length = 3689348814741910323 := by rw [List.length_map]; show rep 51 8 = _; decide +kernel
  have l3 : rep 15 (((bytesOf x).map t1).map t2).length = 1085102592571150095 := by rw [List.length_map, List.length_map]; show rep 15 8 = _; decide +kernel
  rw [l1] at h1
  rw [l2] at h2
  rw [l3] at h3
  refine ⟨h1, ?_, ?_⟩
  · rw [h1, h2, List.map_map]; rfl
  · rw [h1, h2, h3, List.map_map, List.map_map]
    congr 1
    refine List.map_congr_left fun b hb' => ?_
    exact e3 b (hb b hb')
theorem div_low (A r k : Nat) (h : r < k) : (k * A + r) / k = A := by
  rw [Nat.mul_add_div (by omega), Nat.div_eq_of_lt h]; rfl
theorem mod_low (A r : Nat) (h : r < 128) : (256 * A + r) % 128 = r := by omega
theorem pc_sum (p0 p1 p2 p3 p4 p5 p6 p7 : Nat) (g0 : p0 ≤ 8) (g1 : p1 ≤ 8) (g2 : p2 ≤ 8) (g3 : p3 ≤ 8) (g4 : p4 ≤ 8) (g5 : p5 ≤ 8) (g6 : p6 ≤ 8) (g7 : p7 ≤ 8)
    (A1 A2 A3 A4 A5 A6 A7 c : Nat) (h7 : A7 = p7) (h6 : A6 = 256 * A7 + p6) (h5 : A5 = 256 * A6 + p5) (h4 : A4 = 256 * A5 + p4) (h3 : A3 = 256 * A4 + p3) (h2 : A2 = 256 * A3 + p2) (h1 : A1 = 256 * A2 + p1) (h0 : c = 256 * A1 + p0) :
    (c + c / 256 + (c + c / 256) / 65536 + (c + c / 256 + (c + c / 256) / 65536) / 4294967296) % 128 = p0 + (p1 + (p2 + (p3 + (p4 + (p5 + (p6 + (p7 + 0))))))) := by
  have e1 : c / 256 = A1 := by rw [h0]; exact div_low _ _ _ (by omega)
  have e2 : (c + c / 256) / 65536 = A2 + A3 := by
    rw [e1, show c + A1 = 65536 * (A2 + A3) + (256 * (p1 + p2) + (p0 + p1)) by omega]; exact div_low _ _ _ (by omega)
  have e3 : (c + c / 256 + (c + c / 256) / 65536) / 4294967296 = A4 + A5 + A6 + A7 := by
    rw [e2, e1, show c + A1 + (A2 + A3) = 4294967296 * (A4 + A5 + A6 + A7) + (16777216 * (p3 + p4 + p5 + p6) + 65536 * (p2 + p3 + p4 + p5) + 256 * (p1 + p2 + p3 + p4) + (p0 + p1 + p2 + p3)) by omega]
    exact div_low _ _ _ (by omega)
  rw [e3, e2, e1]
  rw [show c + A1 + (A2 + A3) + (A4 + A5 + A6 + A7) = 256 * (A1 + A2 + A3 + A4 + A5 + A6 + A7) + (p0 + p1 + p2 + p3 + p4 + p5 + p6 + p7) by omega]
  rw [mod_low _ _ (by omega)]
  omega
theorem pcN_eq (x : Nat) (h : x < 18446744073709551616) : pcN x = cn x.testBit 64 := by
  obtain ⟨_, _, hc⟩ := pc_steps x h
  unfold pcN
  dsimp only at hc ⊢
  rw [hc, cn_word]
  simp only [bytesOf, val, List.map_cons, List.map_nil, List.sum_cons, List.sum_nil]
  have g (u : Nat) := cn_le u.testBit 8
  have g0 := g (x % 256)
  have g1 := g (x / 256 % 256)
  have g2 := g (x / 65536 % 256)
  have g3 := g (x / 16777216 % 256)
  have g4 := g (x / 4294967296 % 256)
  have g5 := g (x / 1099511627776 % 256)
  have g6 := g (x / 281474976710656 % 256)
  have g7 := g (x / 72057594037927936 % 256)
  generalize cn (x % 256).testBit 8 = p0 at *
  generalize cn (x / 256 % 256).testBit 8 = p1 at *
  generalize cn (x / 65536 % 256).testBit 8 = p2 at *
  generalize cn (x / 16777216 % 256).testBit 8 = p3 at *
  generalize cn (x / 4294967296 % 256).testBit 8 = p4 at *
  generalize cn (x / 1099511627776 % 256).testBit 8 = p5 at *
  generalize cn (x / 281474976710656 % 256).testBit 8 = p6 at *
  generalize cn (x / 72057594037927936 % 256).testBit 8 = p7 at *
  clear hc g
  exact pc_sum p0 p1 p2 p3 p4 p5 p6 p7 g0 g1 g2 g3 g4 g5 g6 g7 _ _ _ _ _ _ _ _ (Nat.zero_add _) rfl rfl rfl rfl rfl rfl rfl
end Go.Proofs.YtjdapbianbikpaaDoor
