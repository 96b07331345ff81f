/-
  The document's vault: number, ahead, fits.
-/
import Derived.Test.YthpcjgfbngemiaaRefA
namespace Go.Proofs.Ythpcjgfbngemiaa
open Go.ChangeShapes Go.WideShapes Go.ChangeAt Go.RowKit
set_option linter.unusedVariables false
set_option maxRecDepth 100000
theorem sub_len : ∀ (k : Nat) (l : List Int), (∀ j : Nat, j < k → (j : Int) ∈ l) → k ≤ l.length
  | 0, l, _ => Nat.zero_le _
  | k + 1, l, h => by
    have hk := h k (by omega)
    have := sub_len k (l.erase (k : Int)) (fun j hj => (List.mem_erase_of_ne (by omega)).2 (h j (by omega)))
    rw [List.length_erase_of_mem hk] at this
    have := List.length_pos_of_mem hk
    omega
/-- the least number that no block has -/
structure Least (l : List RB) (m : Nat) : Prop where
  low : ∀ j : Nat, j < m → ∃ x ∈ l, x.1 = (j : Int)
  free : ∀ x ∈ l, x.1 ≠ (m : Int)
theorem rF_ge {l : List RB} {i : Int} (h : 0 ≤ rF l i) : ∃ x ∈ l, x.1 = i := by
  cases e : l.findIdx? (fun x => x.1 == i) with
  | none => unfold rF at h; rw [e] at h; simp at h
  | some k =>
    obtain ⟨hk, h1, _⟩ := List.findIdx?_eq_some_iff_getElem.1 e
    exact ⟨l[k], List.getElem_mem hk, by simpa using h1⟩
theorem rF_lt {l : List RB} {i : Int} (h : ¬ 0 ≤ rF l i) : ∀ x ∈ l, x.1 ≠ i := by
  cases e : l.findIdx? (fun x => x.1 == i) with
  | none =>
    intro x hx
    have := List.findIdx?_eq_none_iff.1 e x hx
    simpa using this
  | some k => exact absurd (by unfold rF; rw [e]; simp) h
set_option maxHeartbeats 400000 in
theorem rnumber_at {w : World} {A : Option Addr} {l : List RB} (hr : RRow w A l) (n c : Nat) (hn : l.length = n) (h1 : n ≤ 100000) (room packs moved : Int) :
    Calls Try.prog 25 #[refV room packs moved A n c] w fun e w' => ∃ m : Nat, e = .returned (.int .i64 (m : Int)) ∧ Least l m ∧ w.grownBy w' none := by
  have hga := World.grownBy_alloc w (.cells #[.int .i64 room, .int .i64 packs, .int .i64 moved, .slice A n c] 30) none
  have hb := heap_alloc_new w (.cells #[.int .i64 room, .int .i64 packs, .int .i64 moved, .slice A n c] 30)
  have HR := Lib.hid hr
  have HG := Lib.hid hga
  have HB := Lib.hid hb
  have HN := Lib.hid hn
  obtain ⟨B, HBB⟩ : ∃ B, Hid (w.heap.size = B) := ⟨_, Lib.hid rfl⟩
  unfold refV
  clear hr hga hn hb
  go_enter Try.func25, Try.ntmps25
  go_wp2
  rw [HBB.out] at HB ⊢
  obtain ⟨w1, hw1⟩ : ∃ w1 : World, w1 = w.alloc (.cells #[.int .i64 room, .int .i64 packs, .int .i64 moved, .slice A n c] 30) := ⟨_, rfl⟩
  rw [← hw1] at HG HB ⊢
  clear hw1
  go_loopw [3] (fun i wr => ∃ k : Nat, k ≤ n ∧ i = .int .i64 (k : Int) ∧ Hid ((∀ j : Nat, j < k → ∃ x ∈ l, x.1 = (j : Int)) ∧ w1.grownBy wr none)) (fun i _ => n + 1 - (intOf i).toNat)
  case atStart => exact ⟨0, by omega, by go_num, Lib.hid ⟨fun j hj => by omega, ⟨rfl, rfl, rfl, Nat.le_refl _, fun _ _ _ => rfl⟩⟩⟩
  case round =>
    obtain ⟨k, hk, rfl, HK⟩ := hrel
    have hb2 := kept2 HB.out HK.out.2
    have z0 := cell_of_head hb2 0
    have z1 := cell_of_head hb2 1
    have z2 := cell_of_head hb2 2
    have z3 := cell_of_head hb2 3
    have cF := rfind_at (HR.out.kept (grown_trans HG.out HK.out.2)) n c HN.out h1 room packs moved (k : Int)
    unfold refV at cF
    have HF := Lib.hid cF
    clear cF hb2
    by_cases hf : 0 ≤ rF l (k : Int)
    · have HE := Lib.hid (rF_ge hf)
      obtain ⟨q, hq⟩ : ∃ q, q = rF l (k : Int) := ⟨_, rfl⟩
      rw [← hq] at HF hf
      clear hq
      have HK2 : Hid (∀ j : Nat, j < k + 1 → ∃ x ∈ l, x.1 = (j : Int)) := Lib.hid (fun j hj => by
        by_cases e : j = k
        · rw [e]; exact HE.out
        · exact HK.out.1 j (by omega))
      have hkn : k + 1 ≤ n := by
        have := sub_len (k + 1) (l.map (·.1)) (fun j hj => by
          obtain ⟨x, hx, e⟩ := HK2.out j hj
          exact List.mem_map.2 ⟨x, hx, e⟩)
        rw [List.length_map, HN.out] at this
        exact this
      go_wp2_with fail
      refine HF.out.mono ?_
      rintro e w2 ⟨rfl, hg2⟩
      have HG2 := Lib.hid (grown_trans HK.out.2 hg2)
      clear hg2 HF z0 z1 z2 z3
      go_wp2
      go_round
      case rel => exact ⟨k + 1, hkn, by go_num, Lib.hid ⟨HK2.out, HG2.out⟩⟩
      case measure => simp only [intOf]; omega
    · have HE := Lib.hid (rF_lt hf)
      obtain ⟨q, hq⟩ : ∃ q, q = rF l (k : Int) := ⟨_, rfl⟩
      rw [← hq] at HF hf
      clear hq
      go_wp2_with fail
      refine HF.out.mono ?_
      rintro e w2 ⟨rfl, hg2⟩
      have HG2 := Lib.hid (grown_trans HG.out (grown_trans HK.out.2 hg2))
      have HL : Hid (Least l k) := Lib.hid ⟨HK.out.1, HE.out⟩
      clear hg2 HF z0 z1 z2 z3
      go_wp2
      go_ret
      exact ⟨k, rfl, HL.out, HG2.out⟩
def rA (a b : RB) : Bool := decide (a.2.1 < b.2.1 ∨ (a.2.1 = b.2.1 ∧ a.1 < b.1))
def rbV (a : RB) : Value := .agg #[.int .i64 a.1, .int .i64 a.2.1, .string a.2.2]
set_option maxHeartbeats 400000 in
theorem rahead_at (w : World) (a b : RB) : Calls Try.prog 47 #[rbV a, rbV b] w fun e w' => e = .returned (.bool (rA a b)) ∧ w.grownBy w' none := by
  obtain ⟨a1, a2, a3⟩ := a
  obtain ⟨b1, b2, b3⟩ := b
  have HG := Lib.hid (grown_trans (World.grownBy_alloc w (.cells #[.int .i64 a1, .int .i64 a2, .string a3] 63) none) (World.grownBy_alloc (w.alloc (.cells #[.int .i64 a1, .int .i64 a2, .string a3] 63)) (.cells #[.int .i64 b1, .int .i64 b2, .string b3] 63) none))
  unfold rbV
  dsimp only
  by_cases h1 : a2 < b2
  · have HE : Hid (rA (a1, a2, a3) (b1, b2, b3) = true) := Lib.hid (by unfold rA; simp [h1])
    go_enter Try.func47, Try.ntmps47
    go_wp2
    go_ret
    exact ⟨by rw [HE.out]; rfl, HG.out⟩
  · by_cases h2 : a2 = b2
    · subst h2
      by_cases h3 : a1 < b1
      · have HE : Hid (rA (a1, a2, a3) (b1, a2, b3) = true) := Lib.hid (by unfold rA; simp [h3])
        go_enter Try.func47, Try.ntmps47
        go_wp2
        go_ret
        exact ⟨by rw [HE.out]; rfl, HG.out⟩
      · have HE : Hid (rA (a1, a2, a3) (b1, a2, b3) = false) := Lib.hid (by unfold rA; simp; omega)
        go_enter Try.func47, Try.ntmps47
        go_wp2
        go_ret
        exact ⟨by rw [HE.out]; rfl, HG.out⟩
    · have h2b : (a2 == b2) = false := by simpa using h2
      have HE : Hid (rA (a1, a2, a3) (b1, b2, b3) = false) := Lib.hid (by unfold rA; simp; omega)
      clear h2
      go_enter Try.func47, Try.ntmps47
      go_wp2
      go_ret
      exact ⟨by rw [HE.out]; rfl, HG.out⟩
end Go.Proofs.Ythpcjgfbngemiaa
