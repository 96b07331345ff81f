/-
  The laws on numbers told and texts read: their walks.
-/
import Derived.Test.YtieeanbmdaaldaaDoorAlive
import Derived.Test.YtieeanbmdaaldaaDoorRefR
import Derived.OpenShut
namespace Go.Proofs.YtieeanbmdaaldaaDoor
open Go.Shelf Go.RowKit Go.Sort
open Go.Lib hiding intOf
set_option linter.unusedVariables false
theorem rd_dec (u : Nat) (h : u < 18446744073709551616) : rd (dstr u).data.toList = some u := rd_some.2 ⟨h, by simp [dstr]⟩
theorem rdi_itoa (i : Int) (h : Is64 i) : rdi (istr i).data.toList = some i := rdi_some.2 ⟨h, by simp [istr]⟩
theorem dstr_size (u : Nat) (h : u < 18446744073709551616) : (dstr u).size ≤ 1000000 := by
  have := nDigits_le20 u h
  have e : (dstr u).size = (decDigits u).length := by simp [dstr, ByteArray.size]
  rw [e, decDigits_length]; omega
theorem istr_size (i : Int) (h : Is64 i) : (istr i).size ≤ 1000000 := by
  have := itoa_length_le i h.1 h.2
  have e : (istr i).size = (itoa i).length := by simp [istr, ByteArray.size]
  rw [e]; omega
theorem wf_u64 {n : Int} (h : (Lit.int .u64 n).wf = true) : 0 ≤ n ∧ n < 18446744073709551616 := by
  have := Go.bounds_u64 h; omega
theorem wf_i64 {n : Int} (h : (Lit.int .i64 n).wf = true) : -9223372036854775808 ≤ n ∧ n < 9223372036854775808 := by
  have := Go.bounds_i64 h; omega
set_option maxHeartbeats 1000000 in
set_option maxRecDepth 100000 in
theorem digitsTells_law (n i : Int) (w : World) (w0 : (Lit.int .u64 n).wf = true) (w1 : (Lit.int .i64 i).wf = true) (he : Env w) :
    Calls Tryd.prog 3 #[.int .u64 n, .int .i64 i] w fun e w' => e = .returned (.bool true) ∧ Below w.heap.size w w' := by
  have hn : 0 ≤ n ∧ n ≤ 18446744073709551615 := by
    have := wf_u64 w0; omega
  have hi : Is64 i := by
    have := wf_i64 w1; exact ⟨by omega, by omega⟩
  clear w0 w1
  obtain ⟨u, hu⟩ : ∃ u : Nat, n = u := ⟨n.toNat, by omega⟩
  have hu64 : u < 18446744073709551616 := by omega
  obtain ⟨d, hd⟩ : ∃ d, d = dstr u := ⟨_, rfl⟩
  obtain ⟨t, ht⟩ : ∃ t, t = istr i := ⟨_, rfl⟩
  have c1 : ∀ W, Env W → Calls Tryd.prog 7 #[.int .u64 n] W fun e w' => e = .returned (.string d) ∧ Below W.heap.size W w' := fun W hW => by rw [hu, hd]; exact print_at u hu64 W hW
  have c2 : ∀ W, Env W → Calls Tryd.prog 8 #[.int .i64 i] W fun e w' => e = .returned (.string t) ∧ Below W.heap.size W w' := fun W hW => by rw [ht]; exact int_at i hi W hW
  have c3 : ∀ W, Env W → Calls Tryd.prog 9 #[.string d] W fun e w' => e = .returned (.tuple #[.int .u64 n, .bool true]) ∧ Below W.heap.size W w' := fun W hW => by
    have := read_at d (by rw [hd]; exact dstr_size u hu64) W hW
    rw [show rd d.data.toList = some u by rw [hd, rd_dec u hu64], tupR, ← hu] at this
    exact this
  have c4 : ∀ W, Env W → Calls Tryd.prog 10 #[.string t] W fun e w' => e = .returned (.tuple #[.int .i64 i, .bool true]) ∧ Below W.heap.size W w' := fun W hW => by
    have := readInt_at t (by rw [ht]; exact istr_size i hi) W hW
    rw [show rdi t.data.toList = some i by rw [ht, rdi_itoa i hi], tupI] at this
    exact this
  have c5 : ∀ W, Calls Tryd.prog 11 #[.int .u64 n] W fun e w' => e = .returned (.string d) ∧ Below W.heap.size W w' := fun W => by rw [hu, hd]; exact rprint_at u hu64 W
  have c6 : ∀ W, Calls Tryd.prog 12 #[.int .i64 i] W fun e w' => e = .returned (.string t) ∧ Below W.heap.size W w' := fun W => by rw [ht]; exact rint_at i hi W
  clear hu hu64 hd ht hn hi
  go_enter Tryd.func3, Tryd.ntmps3
  go_wp2_with fail
  refine (c1 _ he).mono ?_
  rintro e w1 ⟨rfl, hb1⟩
  have he1 := he.kept hb1
  go_wp2_with fail
  refine (c2 _ he1).mono ?_
  rintro e w2 ⟨rfl, hb2⟩
  have he2 := he1.kept hb2
  have q2 := hb1.trans (hb2.mono hb1.size)
  clear hb1 hb2 he1
  go_wp2_with fail
  refine (c3 _ he2).mono ?_
  rintro e w3 ⟨rfl, hb3⟩
  have he3 := he2.kept hb3
  have q3 := q2.trans (hb3.mono q2.size)
  clear hb3 he2 q2
  go_wp2_with fail
  refine (c4 _ he3).mono ?_
  rintro e w4 ⟨rfl, hb4⟩
  have he4 := he3.kept hb4
  have q4 := q3.trans (hb4.mono q3.size)
  clear hb4 he3 q3
  go_wp2_with fail
  refine (c5 _).mono ?_
  rintro e w5 ⟨rfl, hb5⟩
  have he5 := he4.kept hb5
  have q5 := q4.trans (hb5.mono q4.size)
  clear hb5 he4 q4
  go_wp2_with fail
  refine (c6 _).mono ?_
  rintro e w6 ⟨rfl, hb6⟩
  have he6 := he5.kept hb6
  have q6 := q5.trans (hb6.mono q5.size)
  clear hb6 he5 q5
  go_wp2_with fail
  refine (alive_at _ he6).mono ?_
  rintro e w7 ⟨rfl, hb7⟩
  go_wp2
  go_ret
  exact ⟨rfl, q6.trans (hb7.mono q6.size)⟩
set_option maxHeartbeats 1000000 in
set_option maxRecDepth 100000 in
theorem reads_ss (s : ByteArray) (hs : s.size ≤ 200) (w : World) (he : Env w) (u : Nat) (h1 : rd s.data.toList = some u) (i : Int) (h2 : rdi s.data.toList = some i) :
    Calls Tryd.prog 4 #[.string s] w fun e w' => e = .returned (.bool true) ∧ Below w.heap.size w w' := by
  obtain ⟨n, hu⟩ : ∃ n : Int, n = (u : Int) := ⟨_, rfl⟩
  obtain ⟨hu64, e1⟩ := rd_some.1 h1
  have d1 : dstr u = s := dstr_eq.2 e1
  have c7 : ∀ W, Env W → Calls Tryd.prog 7 #[.int .u64 n] W fun e w' => e = .returned (.string s) ∧ Below W.heap.size W w' := fun W hW => by rw [hu, ← d1]; exact print_at u hu64 W hW
  obtain ⟨hi64, e2⟩ := rdi_some.1 h2
  have d2 : istr i = s := istr_eq.2 e2
  have c8 : ∀ W, Env W → Calls Tryd.prog 8 #[.int .i64 i] W fun e w' => e = .returned (.string s) ∧ Below W.heap.size W w' := fun W hW => by rw [← d2]; exact int_at i hi64 W hW
  have c1 : ∀ W, Env W → Calls Tryd.prog 9 #[.string s] W fun e w' => e = .returned (.tuple #[.int .u64 n, .bool true]) ∧ Below W.heap.size W w' := fun W hW => by
    have := read_at s (by omega) W hW
    rw [h1, tupR, ← hu] at this
    exact this
  have c2 : ∀ W, Calls Tryd.prog 14 #[.string s] W fun e w' => e = .returned (.tuple #[.int .u64 n, .bool true]) ∧ Below W.heap.size W w' := fun W => by
    have := rread_at s W
    rw [h1, tupR, ← hu] at this
    exact this
  have c3 : ∀ W, Env W → Calls Tryd.prog 10 #[.string s] W fun e w' => e = .returned (.tuple #[.int .i64 i, .bool true]) ∧ Below W.heap.size W w' := fun W hW => by
    have := readInt_at s (by omega) W hW
    rw [h2, tupI] at this
    exact this
  have c4 : ∀ W, Calls Tryd.prog 15 #[.string s] W fun e w' => e = .returned (.tuple #[.int .i64 i, .bool true]) ∧ Below W.heap.size W w' := fun W => by
    have := rreadInt_at s (by omega) W
    rw [h2, tupI] at this
    exact this
  clear h1 h2 hu hu64 e1 d1 hi64 e2 d2
  have hs' : ¬ (200 : Int) < (s.size : Int) := by omega
  go_enter Tryd.func4, Tryd.ntmps4
  go_wp2_with fail
  refine (c1 _ he).mono ?_
  rintro e w1 ⟨rfl, hb1⟩
  have he1 := he.kept hb1
  have q1 := hb1
  clear hb1
  go_wp2_with fail
  refine (c2 _).mono ?_
  rintro e w2 ⟨rfl, hb2⟩
  have he2 := he1.kept hb2
  have q2 := q1.trans (hb2.mono q1.size)
  clear hb2 he1 q1
  go_wp2_with fail
  refine (c3 _ he2).mono ?_
  rintro e w3 ⟨rfl, hb3⟩
  have he3 := he2.kept hb3
  have q3 := q2.trans (hb3.mono q2.size)
  clear hb3 he2 q2
  go_wp2_with fail
  refine (c4 _).mono ?_
  rintro e w4 ⟨rfl, hb4⟩
  have he4 := he3.kept hb4
  have q4 := q3.trans (hb4.mono q3.size)
  clear hb4 he3 q3
  go_wp2_with fail
  refine (c7 _ he4).mono ?_
  rintro e w5 ⟨rfl, hb5⟩
  have he5 := he4.kept hb5
  have q5 := q4.trans (hb5.mono q4.size)
  clear hb5 he4 q4
  go_wp2_with fail
  refine (c8 _ he5).mono ?_
  rintro e w6 ⟨rfl, hb6⟩
  have he6 := he5.kept hb6
  have q6 := q5.trans (hb6.mono q5.size)
  clear hb6 he5 q5
  go_wp2_with fail
  refine (alive_at _ he6).mono ?_
  rintro e w7 ⟨rfl, hb7⟩
  have he7 := he6.kept hb7
  have q7 := q6.trans (hb7.mono q6.size)
  clear hb7 he6 q6
  go_wp2
  go_ret
  exact ⟨rfl, q7⟩
set_option maxHeartbeats 1000000 in
set_option maxRecDepth 100000 in
theorem reads_sn (s : ByteArray) (hs : s.size ≤ 200) (w : World) (he : Env w) (u : Nat) (h1 : rd s.data.toList = some u) (h2 : rdi s.data.toList = none) :
    Calls Tryd.prog 4 #[.string s] w fun e w' => e = .returned (.bool true) ∧ Below w.heap.size w w' := by
  obtain ⟨n, hu⟩ : ∃ n : Int, n = (u : Int) := ⟨_, rfl⟩
  obtain ⟨hu64, e1⟩ := rd_some.1 h1
  have d1 : dstr u = s := dstr_eq.2 e1
  have c7 : ∀ W, Env W → Calls Tryd.prog 7 #[.int .u64 n] W fun e w' => e = .returned (.string s) ∧ Below W.heap.size W w' := fun W hW => by rw [hu, ← d1]; exact print_at u hu64 W hW
  have c1 : ∀ W, Env W → Calls Tryd.prog 9 #[.string s] W fun e w' => e = .returned (.tuple #[.int .u64 n, .bool true]) ∧ Below W.heap.size W w' := fun W hW => by
    have := read_at s (by omega) W hW
    rw [h1, tupR, ← hu] at this
    exact this
  have c2 : ∀ W, Calls Tryd.prog 14 #[.string s] W fun e w' => e = .returned (.tuple #[.int .u64 n, .bool true]) ∧ Below W.heap.size W w' := fun W => by
    have := rread_at s W
    rw [h1, tupR, ← hu] at this
    exact this
  have c3 : ∀ W, Env W → Calls Tryd.prog 10 #[.string s] W fun e w' => e = .returned (.tuple #[.int .i64 0, .bool false]) ∧ Below W.heap.size W w' := fun W hW => by
    have := readInt_at s (by omega) W hW
    rw [h2, tupI] at this
    exact this
  have c4 : ∀ W, Calls Tryd.prog 15 #[.string s] W fun e w' => e = .returned (.tuple #[.int .i64 0, .bool false]) ∧ Below W.heap.size W w' := fun W => by
    have := rreadInt_at s (by omega) W
    rw [h2, tupI] at this
    exact this
  clear h1 h2 hu hu64 e1 d1
  have hs' : ¬ (200 : Int) < (s.size : Int) := by omega
  go_enter Tryd.func4, Tryd.ntmps4
  go_wp2_with fail
  refine (c1 _ he).mono ?_
  rintro e w1 ⟨rfl, hb1⟩
  have he1 := he.kept hb1
  have q1 := hb1
  clear hb1
  go_wp2_with fail
  refine (c2 _).mono ?_
  rintro e w2 ⟨rfl, hb2⟩
  have he2 := he1.kept hb2
  have q2 := q1.trans (hb2.mono q1.size)
  clear hb2 he1 q1
  go_wp2_with fail
  refine (c3 _ he2).mono ?_
  rintro e w3 ⟨rfl, hb3⟩
  have he3 := he2.kept hb3
  have q3 := q2.trans (hb3.mono q2.size)
  clear hb3 he2 q2
  go_wp2_with fail
  refine (c4 _).mono ?_
  rintro e w4 ⟨rfl, hb4⟩
  have he4 := he3.kept hb4
  have q4 := q3.trans (hb4.mono q3.size)
  clear hb4 he3 q3
  go_wp2_with fail
  refine (c7 _ he4).mono ?_
  rintro e w5 ⟨rfl, hb5⟩
  have he5 := he4.kept hb5
  have q5 := q4.trans (hb5.mono q4.size)
  clear hb5 he4 q4
  go_wp2_with fail
  refine (alive_at _ he5).mono ?_
  rintro e w6 ⟨rfl, hb6⟩
  have he6 := he5.kept hb6
  have q6 := q5.trans (hb6.mono q5.size)
  clear hb6 he5 q5
  go_wp2
  go_ret
  exact ⟨rfl, q6⟩
set_option maxHeartbeats 1000000 in
set_option maxRecDepth 100000 in
theorem reads_ns (s : ByteArray) (hs : s.size ≤ 200) (w : World) (he : Env w) (h1 : rd s.data.toList = none) (i : Int) (h2 : rdi s.data.toList = some i) :
    Calls Tryd.prog 4 #[.string s] w fun e w' => e = .returned (.bool true) ∧ Below w.heap.size w w' := by
  obtain ⟨hi64, e2⟩ := rdi_some.1 h2
  have d2 : istr i = s := istr_eq.2 e2
  have c8 : ∀ W, Env W → Calls Tryd.prog 8 #[.int .i64 i] W fun e w' => e = .returned (.string s) ∧ Below W.heap.size W w' := fun W hW => by rw [← d2]; exact int_at i hi64 W hW
  have c1 : ∀ W, Env W → Calls Tryd.prog 9 #[.string s] W fun e w' => e = .returned (.tuple #[.int .u64 0, .bool false]) ∧ Below W.heap.size W w' := fun W hW => by
    have := read_at s (by omega) W hW
    rw [h1, tupR] at this
    exact this
  have c2 : ∀ W, Calls Tryd.prog 14 #[.string s] W fun e w' => e = .returned (.tuple #[.int .u64 0, .bool false]) ∧ Below W.heap.size W w' := fun W => by
    have := rread_at s W
    rw [h1, tupR] at this
    exact this
  have c3 : ∀ W, Env W → Calls Tryd.prog 10 #[.string s] W fun e w' => e = .returned (.tuple #[.int .i64 i, .bool true]) ∧ Below W.heap.size W w' := fun W hW => by
    have := readInt_at s (by omega) W hW
    rw [h2, tupI] at this
    exact this
  have c4 : ∀ W, Calls Tryd.prog 15 #[.string s] W fun e w' => e = .returned (.tuple #[.int .i64 i, .bool true]) ∧ Below W.heap.size W w' := fun W => by
    have := rreadInt_at s (by omega) W
    rw [h2, tupI] at this
    exact this
  clear h1 h2 hi64 e2 d2
  have hs' : ¬ (200 : Int) < (s.size : Int) := by omega
  go_enter Tryd.func4, Tryd.ntmps4
  go_wp2_with fail
  refine (c1 _ he).mono ?_
  rintro e w1 ⟨rfl, hb1⟩
  have he1 := he.kept hb1
  have q1 := hb1
  clear hb1
  go_wp2_with fail
  refine (c2 _).mono ?_
  rintro e w2 ⟨rfl, hb2⟩
  have he2 := he1.kept hb2
  have q2 := q1.trans (hb2.mono q1.size)
  clear hb2 he1 q1
  go_wp2_with fail
  refine (c3 _ he2).mono ?_
  rintro e w3 ⟨rfl, hb3⟩
  have he3 := he2.kept hb3
  have q3 := q2.trans (hb3.mono q2.size)
  clear hb3 he2 q2
  go_wp2_with fail
  refine (c4 _).mono ?_
  rintro e w4 ⟨rfl, hb4⟩
  have he4 := he3.kept hb4
  have q4 := q3.trans (hb4.mono q3.size)
  clear hb4 he3 q3
  go_wp2_with fail
  refine (c8 _ he4).mono ?_
  rintro e w5 ⟨rfl, hb5⟩
  have he5 := he4.kept hb5
  have q5 := q4.trans (hb5.mono q4.size)
  clear hb5 he4 q4
  go_wp2_with fail
  refine (alive_at _ he5).mono ?_
  rintro e w6 ⟨rfl, hb6⟩
  have he6 := he5.kept hb6
  have q6 := q5.trans (hb6.mono q5.size)
  clear hb6 he5 q5
  go_wp2
  go_ret
  exact ⟨rfl, q6⟩
set_option maxHeartbeats 1000000 in
set_option maxRecDepth 100000 in
theorem reads_nn (s : ByteArray) (hs : s.size ≤ 200) (w : World) (he : Env w) (h1 : rd s.data.toList = none) (h2 : rdi s.data.toList = none) :
    Calls Tryd.prog 4 #[.string s] w fun e w' => e = .returned (.bool true) ∧ Below w.heap.size w w' := by
  have c1 : ∀ W, Env W → Calls Tryd.prog 9 #[.string s] W fun e w' => e = .returned (.tuple #[.int .u64 0, .bool false]) ∧ Below W.heap.size W w' := fun W hW => by
    have := read_at s (by omega) W hW
    rw [h1, tupR] at this
    exact this
  have c2 : ∀ W, Calls Tryd.prog 14 #[.string s] W fun e w' => e = .returned (.tuple #[.int .u64 0, .bool false]) ∧ Below W.heap.size W w' := fun W => by
    have := rread_at s W
    rw [h1, tupR] at this
    exact this
  have c3 : ∀ W, Env W → Calls Tryd.prog 10 #[.string s] W fun e w' => e = .returned (.tuple #[.int .i64 0, .bool false]) ∧ Below W.heap.size W w' := fun W hW => by
    have := readInt_at s (by omega) W hW
    rw [h2, tupI] at this
    exact this
  have c4 : ∀ W, Calls Tryd.prog 15 #[.string s] W fun e w' => e = .returned (.tuple #[.int .i64 0, .bool false]) ∧ Below W.heap.size W w' := fun W => by
    have := rreadInt_at s (by omega) W
    rw [h2, tupI] at this
    exact this
  clear h1 h2
  have hs' : ¬ (200 : Int) < (s.size : Int) := by omega
  go_enter Tryd.func4, Tryd.ntmps4
  go_wp2_with fail
  refine (c1 _ he).mono ?_
  rintro e w1 ⟨rfl, hb1⟩
  have he1 := he.kept hb1
  have q1 := hb1
  clear hb1
  go_wp2_with fail
  refine (c2 _).mono ?_
  rintro e w2 ⟨rfl, hb2⟩
  have he2 := he1.kept hb2
  have q2 := q1.trans (hb2.mono q1.size)
  clear hb2 he1 q1
  go_wp2_with fail
  refine (c3 _ he2).mono ?_
  rintro e w3 ⟨rfl, hb3⟩
  have he3 := he2.kept hb3
  have q3 := q2.trans (hb3.mono q2.size)
  clear hb3 he2 q2
  go_wp2_with fail
  refine (c4 _).mono ?_
  rintro e w4 ⟨rfl, hb4⟩
  have he4 := he3.kept hb4
  have q4 := q3.trans (hb4.mono q3.size)
  clear hb4 he3 q3
  go_wp2_with fail
  refine (alive_at _ he4).mono ?_
  rintro e w5 ⟨rfl, hb5⟩
  have he5 := he4.kept hb5
  have q5 := q4.trans (hb5.mono q4.size)
  clear hb5 he4 q4
  go_wp2
  go_ret
  exact ⟨rfl, q5⟩
set_option maxHeartbeats 1000000 in
set_option maxRecDepth 100000 in
theorem digitsReads_law (s : ByteArray) (w : World) (he : Env w) :
    Calls Tryd.prog 4 #[.string s] w fun e w' => e = .returned (.bool true) ∧ Below w.heap.size w w' := by
  by_cases hs : s.size ≤ 200
  · cases h1 : rd s.data.toList with
    | some u =>
      cases h2 : rdi s.data.toList with
      | some i => exact reads_ss s hs w he u h1 i h2
      | none => exact reads_sn s hs w he u h1 h2
    | none =>
      cases h2 : rdi s.data.toList with
      | some i => exact reads_ns s hs w he h1 i h2
      | none => exact reads_nn s hs w he h1 h2
  · have hs' : (200 : Int) < (s.size : Int) := by omega
    go_enter Tryd.func4, Tryd.ntmps4
    go_wp2_with fail
    refine (alive_at _ he).mono ?_
    rintro e w1 ⟨rfl, hb1⟩
    go_wp2
    go_ret
    exact ⟨rfl, hb1⟩
end Go.Proofs.YtieeanbmdaaldaaDoor
