/-
  The document's ReadInt.
-/
import Derived.Test.YtdchmpbmaeoeoaaDoorDRefR
import Derived.Test.YtdchmpbmaeoeoaaDoorDReadI
namespace Go.Proofs.YtdchmpbmaeoeoaaDoor
open Go.Shelf Go.RowKit Go.Sort
open Go.Lib hiding intOf
set_option linter.unusedVariables false
set_option maxHeartbeats 400000 in
set_option maxRecDepth 100000 in
theorem rreadInt_at (s : ByteArray) (hs : s.size ≤ 1000000) (w : World) :
    Calls Tryd.prog 23 #[.string s] w fun e w' => e = .returned (tupI (rdi s.data.toList)) ∧ Below w.heap.size w w' := by
  obtain ⟨R, hR⟩ : ∃ R, R = rdi s.data.toList := ⟨_, rfl⟩
  rw [← hR]
  by_cases hm : ∃ h : 0 < s.size, s[0].toNat = 45
  · obtain ⟨h0, h45⟩ := hm
    obtain ⟨r, hr⟩ : ∃ r, s.data.toList = 45 :: r := by
      have h1 := at_list s 0 h0
      cases e : s.data.toList with
      | nil => rw [e] at h1; cases h1
      | cons x q =>
        rw [e] at h1
        injection h1 with h1
        exact ⟨q, by rw [h1]; congr 1; exact UInt8.toNat.inj h45⟩
    have he : (s.extract 1 s.size).data.toList = r := by
      rw [ByteArray.data_extract, Array.toList_extract, hr]
      have : s.size = r.length + 1 := by rw [← size_list, hr]; simp
      simp [this, List.extract]
    have c := rread_at (s.extract 1 s.size) w
    rw [he] at c
    rw [hr, rdi_minus] at hR
    have HE := Lib.hid (And.intro hr he)
    clear hr he
    have h45' : ((s[0].toNat : Nat) : Int) = 45 := by omega
    have hg : (0 : Int) < (s.size : Int) := by omega
    cases e : rd r with
    | none =>
      rw [e] at c hR
      have HR := Lib.hid hR
      clear hR e
      dsimp only [tupR] at c
      go_enter Tryd.func23, Tryd.ntmps23
      go_wp2_with fail
      refine c.mono ?_
      rintro e w1 ⟨rfl, hb1⟩
      go_wp2
      go_ret2
      exact ⟨by rw [HR.out]; rfl, hb1⟩
    | some n =>
      have hl := rd_lt e
      rw [e] at c hR
      dsimp only [tupR] at c
      dsimp only at hR
      obtain ⟨N, hN⟩ : ∃ N : Int, N = (n : Int) := ⟨_, rfl⟩
      rw [← hN] at c hR
      by_cases hz : n = 0
      · rw [if_pos (.inl hz)] at hR
        have HR := Lib.hid hR
        have hN0 : N = 0 := by omega
        subst hN0
        clear hR e hN hz hl
        go_enter Tryd.func23, Tryd.ntmps23
        go_wp2_with fail
        refine c.mono ?_
        rintro e w1 ⟨rfl, hb1⟩
        go_wp2
        go_ret2
        exact ⟨by rw [HR.out]; rfl, hb1⟩
      · by_cases hbig : 9223372036854775808 < n
        · rw [if_pos (.inr hbig)] at hR
          have HR := Lib.hid hR
          have hN1 : 9223372036854775808 < N := by omega
          have hN0 : ¬ N = 0 := by omega
          have hN00 : (N == 0) = false := by simpa using hN0
          clear hR e hN hz hl hbig
          go_enter Tryd.func23, Tryd.ntmps23
          go_wp2_with fail
          refine c.mono ?_
          rintro e w1 ⟨rfl, hb1⟩
          go_wp2
          go_ret2
          exact ⟨by rw [HR.out]; rfl, hb1⟩
        · rw [if_neg (by omega)] at hR
          have HR := Lib.hid hR
          have hN1 : ¬ 9223372036854775808 < N := by omega
          have hN2 : N ≤ 9223372036854775808 := by omega
          have hN3 : 1 ≤ N := by omega
          have hN0 : ¬ N = 0 := by omega
          have hN00 : (N == 0) = false := by simpa using hN0
          clear hR e hN hz hl hbig
          go_enter Tryd.func23, Tryd.ntmps23
          go_wp2_with fail
          refine c.mono ?_
          rintro e w1 ⟨rfl, hb1⟩
          go_wp2
          go_ret2
          refine ⟨?_, hb1⟩
          rw [HR.out, tupI, show -N = -(N - 1) - 1 by omega]
          rfl
  · have hh : s.data.toList.head?.map (·.toNat) ≠ some 45 := fun h => by
      cases e : s.data.toList with
      | nil => rw [e] at h; cases h
      | cons x q =>
        rw [e] at h
        have hsz : 0 < s.size := by rw [← size_list, e]; simp
        have h1 := at_list s 0 hsz
        rw [e] at h1
        injection h1 with h1
        exact hm ⟨hsz, by rw [← h1]; injection h⟩
    rw [rdi_plain hh] at hR
    have c := rread_at s w
    have hcase : s.size = 0 ∨ (∃ h : 0 < s.size, ¬ ((s[0].toNat : Nat) : Int) = 45) := by
      by_cases h0 : s.size = 0
      · exact .inl h0
      · exact .inr ⟨by omega, fun h => hm ⟨by omega, by omega⟩⟩
    have Hh := Lib.hid hh
    clear hh hm
    cases e : rd s.data.toList with
    | none =>
      rw [e] at c hR
      have HR := Lib.hid hR
      clear hR e
      dsimp only [tupR] at c
      rcases hcase with hs0 | ⟨h0, hne⟩
      · go_enter Tryd.func23, Tryd.ntmps23
        go_wp2_with fail
        refine c.mono ?_
        rintro e w1 ⟨rfl, hb1⟩
        go_wp2
        go_ret2
        exact ⟨by rw [HR.out]; rfl, hb1⟩
      · have hg : (0 : Int) < (s.size : Int) := by omega
        have hne2 : (((s[0].toNat : Nat) : Int) == 45) = false := by simpa using hne
        go_enter Tryd.func23, Tryd.ntmps23
        go_wp2_with fail
        refine c.mono ?_
        rintro e w1 ⟨rfl, hb1⟩
        go_wp2
        go_ret2
        exact ⟨by rw [HR.out]; rfl, hb1⟩
    | some n =>
      have hl := rd_lt e
      rw [e] at c hR
      dsimp only [tupR] at c
      dsimp only at hR
      rcases hcase with hs0 | ⟨h0, hne⟩
      · have : s.data.toList = [] := List.length_eq_zero_iff.1 (by rw [size_list]; exact hs0)
        rw [this] at e
        cases e
      · have hg : (0 : Int) < (s.size : Int) := by omega
        have hne2 : (((s[0].toNat : Nat) : Int) == 45) = false := by simpa using hne
        obtain ⟨N, hN⟩ : ∃ N : Int, N = (n : Int) := ⟨_, rfl⟩
        rw [← hN] at c hR
        by_cases hbig : 9223372036854775807 < n
        · rw [if_pos hbig] at hR
          have HR := Lib.hid hR
          have hN1 : 9223372036854775807 < N := by omega
          clear hR e hN hl hbig
          go_enter Tryd.func23, Tryd.ntmps23
          go_wp2_with fail
          refine c.mono ?_
          rintro e w1 ⟨rfl, hb1⟩
          go_wp2
          go_ret2
          exact ⟨by rw [HR.out]; rfl, hb1⟩
        · rw [if_neg hbig] at hR
          have HR := Lib.hid hR
          have hN1 : ¬ 9223372036854775807 < N := by omega
          have hN2 : N ≤ 9223372036854775807 := by omega
          have hN3 : 0 ≤ N := by omega
          clear hR e hN hl hbig
          go_enter Tryd.func23, Tryd.ntmps23
          go_wp2_with fail
          refine c.mono ?_
          rintro e w1 ⟨rfl, hb1⟩
          go_wp2
          go_ret2
          exact ⟨by rw [HR.out]; rfl, hb1⟩
end Go.Proofs.YtdchmpbmaeoeoaaDoor
