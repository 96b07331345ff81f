/-
  The law on words: its walk.
-/
import Derived.Test.YtieeanbmdaaldaaDoorWordsLaw
import Derived.Deep.Strs
import Derived.OpenShut
import Derived.ProofKit
namespace Go.Proofs.YtieeanbmdaaldaaDoor
open Go.Shelf Go.RowKit Go.Sort
open Go.Lib hiding intOf
set_option linter.unusedVariables false
theorem words_own (s : ByteArray) (hs : s.size ≤ 1000000) (n : Nat) (hn : n = (wds s.data.toList).length) (w : World) (he : Env w) :
    Calls Tryd.prog 20 #[.string s] w fun e w' => ∃ A, e = .returned (.slice A n n) ∧ SRow w' A (wds s.data.toList) ∧ Below w.heap.size w w' :=
  (words_at s hs n hn w he).mono fun e w' ⟨h1, h2⟩ => ⟨_, h1, h2 ▸ alloc_srow w _, h2 ▸ (Below.refl _ _).alloc (Nat.le_refl _) _⟩
theorem lens_le : ∀ r : List (List UInt8), (∀ x ∈ r, x.length ≤ 1000) → lens r ≤ 1000 * r.length
  | [], _ => by simp [lens]
  | x :: r, h => by
    have h1 := lens_le r (fun y hy => h y (by simp [hy]))
    have h2 := h x (by simp)
    have : lens (x :: r) = x.length + lens r := by simp [lens]
    rw [this, List.length_cons]
    omega
theorem join_le (l : List (List UInt8)) (h : ∀ x ∈ l, x.length ≤ 1000) : (join l [32]).length ≤ 1001 * l.length := by
  cases l with
  | nil => simp [join_nil]
  | cons x r =>
    have h1 := lens_le (x :: r) h
    rw [join_length]
    simp only [List.length_cons, List.length_nil] at *
    omega
def plainB (L : Nat) (l : List (List UInt8)) : Bool := decide (0 < L) && l.all fun x => (wds x).length == 1
theorem plainB_snoc (L : Nat) (l : List (List UInt8)) (x : List UInt8) : plainB L (l ++ [x]) = (plainB L l && ((wds x).length == 1)) := by
  simp [plainB, List.all_append, Bool.and_assoc]
theorem take_moreS (l : List (List UInt8)) (k : Nat) (h : k < l.length) : l.take (k + 1) = l.take k ++ [l[k]] := by rw [List.take_add_one, List.getElem?_eq_getElem h]; rfl
theorem beq_one (n : Nat) : ((n : Int) == 1) = (n == 1) := by
  rw [Bool.eq_iff_iff]; simp; omega
set_option maxHeartbeats 1000000 in
set_option maxRecDepth 100000 in
theorem words_main (ln : ByteArray) (hln : ln.size ≤ 1000) (l : List (List UInt8)) (A : Option Addr) (L cap : Nat) (hL : L = l.length) (hcap : L ≤ cap) (h50 : L ≤ 50) (w : World) (h : SRow w A l) (he : Env w) :
    Calls Tryd.prog 6 #[.string ln, .slice A L cap] w fun e w' => e = .returned (.bool true) ∧ Below w.heap.size w w' := by
  obtain ⟨n, hn⟩ : ∃ n, n = (wds ln.data.toList).length := ⟨_, rfl⟩
  have hn1 : n ≤ 100000 := by
    rw [hn, wds, wdsF_len]
    have := List.count_le_length (a := (32 : UInt8)) (l := ln.data.toList)
    rw [size_list] at this
    omega
  have c1 := words_own ln (by omega) n hn w he
  have c2 : ∀ W, Calls Tryd.prog 22 #[.string ln] W fun e w' => ∃ A cap, e = .returned (.slice A n cap) ∧ SRow w' A (wds ln.data.toList) ∧ Below W.heap.size W w' := fun W => rwords_at ln (by omega) n hn W
  have c3 : ∀ (W : World) (A1 A2 : Option Addr) (k1 k2 : Nat), SRow W A1 (wds ln.data.toList) → SRow W A2 (wds ln.data.toList) → Calls Tryd.prog 21 #[.slice A1 n k1, .slice A2 n k2] W fun e w' => e = .returned (.bool true) ∧ Below W.heap.size W w' := fun W A1 A2 k1 k2 h1 h2 => same_at _ A1 A2 n k1 k2 hn (by omega) W h1 h2
  have c4 : ∀ (W : World) (A1 : Option Addr), SRow W A1 (wds ln.data.toList) → Calls Tryd.prog 23 #[.slice A1 n n] W fun e w' => e = .returned (.string ln) ∧ Below W.heap.size W w' := fun W A1 h1 => join_at _ A1 n n hn (Nat.le_refl _) (by rw [wds_join, size_list]; omega) hn1 W h1 ln (by rw [wds_join, mkS_of])
  have hl' : ¬ (1000 : Int) < (ln.size : Int) := by omega
  have h50' : ¬ (50 : Int) < (L : Int) := by omega
  have HR := Lib.hid h
  have HL := Lib.hid (And.intro hL hcap)
  have Hn := Lib.hid (And.intro hn hn1)
  clear hn hn1 hL hcap h
  go_enter Tryd.func6, Tryd.ntmps6
  go_wp2_with fail
  refine c1.mono ?_
  rintro e w1 ⟨A1, rfl, hr1, q1⟩
  have he1 := he.kept q1
  have R1 := Lib.hid hr1
  clear hr1 c1
  go_wp2_with fail
  refine (c2 _).mono ?_
  rintro e w2 ⟨A2, cap2, rfl, hr2, hb2⟩
  have he2 := he1.kept hb2
  have q2 := q1.trans (hb2.mono q1.size)
  have R12 := Lib.hid (R1.out.kept hb2)
  have R2 := Lib.hid hr2
  clear hr2 hb2 q1 he1 R1
  go_wp2_with fail
  refine (c3 _ _ _ _ _ R12.out R2.out).mono ?_
  rintro e w3 ⟨rfl, hb3⟩
  have he3 := he2.kept hb3
  have q3 := q2.trans (hb3.mono q2.size)
  have R13 := Lib.hid (R12.out.kept hb3)
  clear hb3 q2 he2 R12 R2
  go_wp2_with fail
  refine (c4 _ _ R13.out).mono ?_
  rintro e w4 ⟨rfl, hb4⟩
  have he4 := he3.kept hb4
  have q4 := q3.trans (hb4.mono q3.size)
  clear hb4 q3 he3 R13 c2 c3 c4
  have H4 := Lib.hid (And.intro he4 q4)
  clear he4 q4
  go_wp2_with fail
  go_loopw [6, 37] (fun p i wr => ∃ (k : Nat) (b : Bool), k ≤ L ∧ i = .int .i64 (k : Int) ∧ p = .bool b ∧ Hid (b = plainB L (l.take k) ∧ ∀ x ∈ l.take k, x.length ≤ 1000) ∧ Hid (Env wr ∧ Below w.heap.size w wr)) (fun _ i _ => L - (intOf i).toNat)
  case atStart => exact ⟨0, decide (0 < L), by omega, by go_num, by first | rfl | simp, Lib.hid ⟨by simp [plainB], by simp⟩, H4⟩
  case round =>
    obtain ⟨k, b, hk, rfl, rfl, HK, HE⟩ := hrel
    by_cases hlt : k < L
    · have hkl : k < l.length := by have := HL.out.1; omega
      rcases (HR.out.kept HE.out.2) with e | ⟨b1, off, e, hc⟩
      · rw [e] at hkl; simp at hkl
      · subst e
        have hcell := hc k hkl
        obtain ⟨x, hx⟩ : ∃ x, x = l[k] := ⟨_, rfl⟩
        rw [← hx] at hcell
        obtain ⟨xs, hxs⟩ : ∃ xs, xs = mkS x := ⟨_, rfl⟩
        rw [← hxs] at hcell
        have hsz : xs.size = x.length := by rw [hxs, mkS_size]
        have HX := Lib.hid (And.intro hx (And.intro hxs hsz))
        clear hc hx hxs
        by_cases hbig : 1000 < x.length
        · have hb1 : (1000 : Int) < (xs.size : Int) := by omega
          clear hsz
          go_wp2_with fail
          refine (alive_at _ HE.out.1).mono ?_
          rintro e w9 ⟨rfl, hb9⟩
          go_wp2
          go_ret
          exact ⟨rfl, HE.out.2.trans (hb9.mono HE.out.2.size)⟩
        · have hb1 : ¬ (1000 : Int) < (xs.size : Int) := by omega
          have hxl : x.length ≤ 1000 := by omega
          clear hsz hbig
          have HW : Hid (∀ y ∈ l.take (k + 1), y.length ≤ 1000) := Lib.hid (by
            intro y hy
            rw [take_moreS l k hkl, List.mem_append] at hy
            rcases hy with hy | hy
            · exact HK.out.2 y hy
            · rw [List.mem_singleton] at hy; rw [hy, ← HX.out.1]; exact hxl)
          have HP : Hid (plainB L (l.take (k + 1)) = (b && ((wds x).length == 1))) := Lib.hid (by rw [take_moreS l k hkl, plainB_snoc, ← HK.out.1, ← HX.out.1])
          cases hbv : b with
          | true =>
            subst hbv
            obtain ⟨m, hm⟩ : ∃ m, m = (wds x).length := ⟨_, rfl⟩
            have c22 : ∀ W, Calls Tryd.prog 22 #[.string xs] W fun e w' => ∃ A cap, e = .returned (.slice A m cap) ∧ Below W.heap.size W w' := fun W => by
              have hh : xs.data.toList = x := by rw [HX.out.2.1, mkS_list]
              refine (rwords_at xs (by rw [HX.out.2.2]; omega) m (by rw [hh, hm]) W).mono ?_
              rintro e w' ⟨A5, cap5, h5, _, h6⟩
              exact ⟨A5, cap5, h5, h6⟩
            have HM : Hid (plainB L (l.take (k + 1)) = (m == 1)) := Lib.hid (by rw [HP.out, hm]; simp)
            clear hm hxl
            go_wp2_with fail
            refine (c22 _).mono ?_
            rintro e w5 ⟨A5, cap5, rfl, hb5⟩
            have HE5 := Lib.hid (And.intro (HE.out.1.kept hb5) (HE.out.2.trans (hb5.mono HE.out.2.size)))
            clear hb5 c22
            go_wp2
            go_round
            case rel => exact ⟨k + 1, (m == 1), by omega, by go_num, by first | rfl | rw [beq_one], Lib.hid ⟨HM.out.symm, HW.out⟩, HE5⟩
            case measure => simp only [intOf]; omega
          | false =>
            subst hbv
            have HM : Hid (plainB L (l.take (k + 1)) = false) := Lib.hid (by rw [HP.out]; rfl)
            clear hxl
            go_wp2
            go_round
            case rel => exact ⟨k + 1, false, by omega, by go_num, rfl, Lib.hid ⟨HM.out.symm, HW.out⟩, HE⟩
            case measure => simp only [intOf]; omega
    · have ek : l.take k = l := by rw [List.take_of_length_le]; have := HL.out.1; omega
      have hK := HK.out
      rw [ek] at hK
      obtain ⟨hpb, hle⟩ := hK
      obtain ⟨t, ht⟩ : ∃ t, t = mkS (join l [32]) := ⟨_, rfl⟩
      have hjl : (join l [32]).length ≤ 100000 := by have := join_le l hle; have := HL.out.1; omega
      have d1 : ∀ W, SRow W A l → Calls Tryd.prog 23 #[.slice A L cap] W fun e w' => e = .returned (.string t) ∧ Below W.heap.size W w' := fun W hW => join_at l A L cap HL.out.1 HL.out.2 (by omega) (by omega) W hW t ht
      have d2 : ∀ W, SRow W A l → Calls Tryd.prog 24 #[.slice A L cap] W fun e w' => e = .returned (.string t) ∧ W = w' := fun W hW => rjoin_at l A L cap HL.out.1 (fun j => by
        have := join_le (l.take j) (fun x hx => hle x (List.mem_of_mem_take hx))
        have h2 : (l.take j).length ≤ l.length := by rw [List.length_take]; exact Nat.min_le_right _ _
        have := HL.out.1
        omega) (fun x hx => by have := hle x hx; omega) (by omega) W hW t ht
      have hts : t.data.toList = join l [32] := by rw [ht, mkS_list]
      have htz : t.size ≤ 1000000 := by rw [← size_list, hts]; omega
      have d3 : b = true → ∀ W, Env W → Calls Tryd.prog 20 #[.string t] W fun e w' => ∃ A5 cap5, e = .returned (.slice A5 L cap5) ∧ SRow w' A5 l ∧ Below W.heap.size W w' := fun hbt W hW => by
        rw [hbt, plainB] at hpb
        have hpb := hpb.symm
        rw [Bool.and_eq_true, List.all_eq_true] at hpb
        have hw : wds t.data.toList = l := by
          rw [hts]
          refine join_wds l (fun e => ?_) (fun x hx => wds_plain (by simpa using hpb.2 x hx))
          have := HL.out.1
          rw [e] at this
          simp only [List.length_nil] at this
          rw [this] at hpb
          simp at hpb
        have := words_row t htz L (by rw [hw]; exact HL.out.1) W hW
        rw [hw] at this
        exact this
      have d4 : ∀ (W : World) (A5 : Option Addr) (cap5 : Nat), SRow W A5 l → SRow W A l → Calls Tryd.prog 21 #[.slice A5 L cap5, .slice A L cap] W fun e w' => e = .returned (.bool true) ∧ Below W.heap.size W w' := fun W A5 cap5 h5 h6 => same_at l A5 A L cap5 cap HL.out.1 (by omega) W h5 h6
      have D3 := Lib.hid d3
      clear hpb hle ht hjl hts htz ek HK d3
      go_wp2_with fail
      refine (d1 _ (HR.out.kept HE.out.2)).mono ?_
      rintro e w5 ⟨rfl, hb5⟩
      have he5 := HE.out.1.kept hb5
      have q5 := HE.out.2.trans (hb5.mono HE.out.2.size)
      clear hb5 HE d1
      go_wp2_with fail
      refine (d2 _ (HR.out.kept q5)).mono ?_
      rintro e w6 ⟨rfl, rfl⟩
      clear d2
      cases hbv : b with
      | true =>
        subst hbv
        go_wp2_with fail
        refine (D3.out (by first | exact trivial | rfl) _ he5).mono ?_
        rintro e w7 ⟨A5, cap5, rfl, hr7, hb7⟩
        have he7 := he5.kept hb7
        have q7 := q5.trans (hb7.mono q5.size)
        go_wp2_with fail
        refine (d4 _ _ _ hr7 (HR.out.kept q7)).mono ?_
        rintro e w8 ⟨rfl, hb8⟩
        have he8 := he7.kept hb8
        have q8 := q7.trans (hb8.mono q7.size)
        go_wp2_with fail
        refine (alive_at _ he8).mono ?_
        rintro e w9 ⟨rfl, hb9⟩
        go_wp2
        go_ret
        exact ⟨rfl, q8.trans (hb9.mono q8.size)⟩
      | false =>
        subst hbv
        go_wp2_with fail
        refine (alive_at _ he5).mono ?_
        rintro e w9 ⟨rfl, hb9⟩
        go_wp2
        go_ret
        exact ⟨rfl, q5.trans (hb9.mono q5.size)⟩
section
variable {H : Type} {enc : TypeId × Value → H} {w : World} {base : Nat} {spare : Nat → Bool} {held : Bool}
theorem plain_addr {w : World} {x : Addr} {v : Value} (h : w.cell? (x.add 0) = some v) : ∃ b off, x = ⟨b, off, none⟩ := by
  obtain ⟨b, off, s⟩ := x
  cases s with
  | none => exact ⟨b, off, rfl⟩
  | some s =>
    simp [World.cell?, Addr.add] at h
    split at h <;> cases h
theorem open_texts {fuel : Nat} {A : Option Addr} {len cap : Nat} {x : DataW H × List MemPlace} (h : DataW.trod enc Tryd.prog w base spare held fuel 37 (Value.slice A len cap).cells.toList = some x) :
    ∃ l : List (List UInt8), len = l.length ∧ len ≤ cap ∧ SRow w A l := by
  rcases Go.Deep.open_strs Tryd.underlying37 Tryd.underlying9 (by kernel_rfl) h with ⟨hcs, _⟩ | ⟨a, l, c, m, Sx, hcs, _, hl, hm, hmm, _, hel⟩
  · simp [Value.cells] at hcs
    obtain ⟨rfl, rfl, rfl⟩ := hcs
    exact ⟨[], rfl, Nat.le_refl _, .inl rfl⟩
  · simp [Value.cells] at hcs
    obtain ⟨rfl, rfl, rfl⟩ := hcs
    have hml : len ≤ m := by rw [hmm]; split <;> omega
    by_cases h0 : len = 0
    · subst h0; exact ⟨[], rfl, hl, .inl rfl⟩
    · obtain ⟨b, off, rfl⟩ := plain_addr (x := a) (hel 0 (by omega)).1
      refine ⟨(List.range len).map fun i => (Sx i).data.toList, by simp, hl, .inr ⟨b, off, rfl, fun i hi => ?_⟩⟩
      have hil : i < len := by simpa using hi
      have h := (hel i (by omega)).1
      rw [Lib.add_plain] at h
      rw [h]
      simp only [List.getElem_map, List.getElem_range, mkS_of]
end
set_option maxHeartbeats 1000000 in
set_option maxRecDepth 100000 in
theorem digitsWords_law (ln : ByteArray) (A : Option Addr) (L cap : Nat) (l : List (List UInt8)) (w : World) (hL : L = l.length) (hcap : L ≤ cap) (h : SRow w A l) (he : Env w) :
    Calls Tryd.prog 6 #[.string ln, .slice A L cap] w fun e w' => e = .returned (.bool true) ∧ Below w.heap.size w w' := by
  by_cases h1 : ln.size ≤ 1000
  · by_cases h2 : L ≤ 50
    · exact words_main ln h1 l A L cap hL hcap h2 w h he
    · have h1' : ¬ (1000 : Int) < (ln.size : Int) := by omega
      have h2' : (50 : Int) < (L : Int) := by omega
      clear hL hcap h h1 h2
      go_enter Tryd.func6, Tryd.ntmps6
      go_wp2_with fail
      refine (alive_at _ he).mono ?_
      rintro e w1 ⟨rfl, hb1⟩
      go_wp2
      go_ret
      exact ⟨rfl, hb1⟩
  · have h1' : (1000 : Int) < (ln.size : Int) := by omega
    clear hL hcap h h1
    go_enter Tryd.func6, Tryd.ntmps6
    go_wp2_with fail
    refine (alive_at _ he).mono ?_
    rintro e w1 ⟨rfl, hb1⟩
    go_wp2
    go_ret
    exact ⟨rfl, hb1⟩
end Go.Proofs.YtieeanbmdaaldaaDoor
