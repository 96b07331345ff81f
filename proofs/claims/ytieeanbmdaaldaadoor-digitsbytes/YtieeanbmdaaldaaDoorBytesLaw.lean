/-
  The law on bytes: its walk.
-/
import Derived.Test.YtieeanbmdaaldaaDoorRefX
import Derived.Test.YtieeanbmdaaldaaDoorAlive
import Derived.OpenShut
import Derived.ProofKit
namespace Go.Proofs.YtieeanbmdaaldaaDoor
open Go.Shelf Go.RowKit Go.Sort
open Go.ChangeShapes Go.WideShapes Go.ChangeAt
open Go.Lib hiding intOf add_plain
set_option linter.unusedVariables false
/-- a slice of integers that came in -/
def IsRow (k : IntKind) (w : World) (a : Option Addr) (len cap : Nat) (zs : List Int) : Prop :=
  (a = none ∧ len = 0 ∧ cap = 0 ∧ zs = []) ∨
  ∃ x, a = some x ∧ len ≤ cap ∧ cap ≤ maxLen ∧ zs.length = cap ∧ (∀ i, i < zs.length → w.cell? (x.add i) = some (.int k (zs.getD i 0))) ∧ ∀ n ∈ zs, (Lit.int k n).wf = true
theorem IsRow.bytes {w : World} {a : Option Addr} {len cap : Nat} {zs : List Int} (h : IsRow .u8 w a len cap zs) :
    ∃ l : List UInt8, l.length = len ∧ BRow w a l := by
  rcases h with ⟨rfl, rfl, rfl, rfl⟩ | ⟨x, rfl, hl, hm, hz, hc, hw⟩
  · exact ⟨[], rfl, .inl rfl⟩
  · refine ⟨(zs.take len).map fun z => UInt8.ofNat z.toNat, by simp; omega, ?_⟩
    by_cases h0 : len = 0
    · left; subst h0; simp
    · right
      obtain ⟨b, off, rfl, hc'⟩ := ints_at hc (by omega)
      refine ⟨b, off, rfl, fun i hi => ?_⟩
      have hi' : i < len := by simp at hi; omega
      rw [hc' i (by omega)]
      have hb := bounds_u8 (hw (zs.getD i 0) (by
        rw [List.getD_eq_getElem?_getD, List.getElem?_eq_getElem (by omega : i < zs.length)]
        exact List.getElem_mem _))
      have e : zs.getD i 0 = zs[i]'(by omega) := by rw [List.getD_eq_getElem?_getD, List.getElem?_eq_getElem (by omega : i < zs.length)]; rfl
      rw [e] at hb ⊢
      simp only [List.getElem_map, List.getElem_take]
      congr 2
      rw [UInt8.toNat_ofNat']
      omega
theorem hstr_list (l : List UInt8) : (hstr l).data.toList = hexOf l := by simp [hstr]
theorem hstr_size (l : List UInt8) : (hstr l).size = 2 * l.length := by rw [← hexOf_length, ← hstr_list, size_list]
/-- the reader of bytes, of any text -/
theorem readHex_is (s : ByteArray) (hs : s.size ≤ 100000) (y : List UInt8) (b : Bool) (hy : y = (rhx s.data.toList).getD []) (hb : b = (rhx s.data.toList).isSome) (w : World) (f : FuncId)
    (c : Calls Tryd.prog f #[.string s] w fun e w' => RPost s.data.toList w e w') :
    Calls Tryd.prog f #[.string s] w fun e w' => ∃ A cap, e = .returned (.tuple #[.slice A y.length cap, .bool b]) ∧ BRow w' A y ∧ Below w.heap.size w w' := by
  refine c.mono fun e w' ⟨v, h1, h2, h3⟩ => ?_
  rw [← hy] at h2
  rw [← hb] at h1
  obtain ⟨A, cap, hv, hr⟩ := own_row h2
  exact ⟨A, cap, by rw [h1, hv], hr, h3⟩
set_option maxHeartbeats 1000000 in
set_option maxRecDepth 100000 in
theorem bytes_main (l : List UInt8) (A : Option Addr) (L cap : Nat) (hL : L = l.length) (s : ByteArray) (hl : L ≤ 200) (hs : s.size ≤ 200) (w : World) (h : BRow w A l) (he : Env w) :
    Calls Tryd.prog 5 #[.slice A L cap, .string s] w fun e w' => e = .returned (.bool true) ∧ Below w.heap.size w w' := by
  obtain ⟨t, ht⟩ : ∃ t, t = hstr l := ⟨_, rfl⟩
  obtain ⟨bs, hbs⟩ : ∃ bs : ByteArray, bs = ⟨l.toArray⟩ := ⟨_, rfl⟩
  obtain ⟨y, hy⟩ : ∃ y, y = (rhx s.data.toList).getD [] := ⟨_, rfl⟩
  obtain ⟨b, hb⟩ : ∃ b, b = (rhx s.data.toList).isSome := ⟨_, rfl⟩
  obtain ⟨ys, hys⟩ : ∃ ys : ByteArray, ys = ⟨y.toArray⟩ := ⟨_, rfl⟩
  have c1 : ∀ W, BRow W A l → Calls Tryd.prog 16 #[.slice A L cap] W fun e w' => e = .returned (.string t) ∧ Below W.heap.size W w' := fun W hW => by rw [hL, ht]; exact hex_at l A cap (by omega) W hW
  have c2 : ∀ W, Calls Tryd.prog 17 #[.string t] W fun e w' => ∃ A2 cap2, e = .returned (.tuple #[.slice A2 L cap2, .bool true]) ∧ BRow w' A2 l ∧ Below W.heap.size W w' := fun W => by
    have := readHex_is t (by rw [ht, hstr_size]; omega) l true (by rw [ht, hstr_list, rhx_hex]; rfl) (by rw [ht, hstr_list, rhx_hex]; rfl) W 17 (readHex_at t (by rw [ht, hstr_size]; omega) W)
    rw [← hL] at this
    exact this
  obtain ⟨Y, hY⟩ : ∃ Y, Y = y.length := ⟨_, rfl⟩
  have c3 : ∀ W, Calls Tryd.prog 17 #[.string s] W fun e w' => ∃ A2 cap2, e = .returned (.tuple #[.slice A2 Y cap2, .bool b]) ∧ BRow w' A2 y ∧ Below W.heap.size W w' := fun W => by
    have := readHex_is s (by omega) y b hy hb W 17 (readHex_at s (by omega) W)
    rw [← hY] at this
    exact this
  have c4 : ∀ W, Calls Tryd.prog 18 #[.string s] W fun e w' => ∃ A2 cap2, e = .returned (.tuple #[.slice A2 Y cap2, .bool b]) ∧ BRow w' A2 y ∧ Below W.heap.size W w' := fun W => by
    have := readHex_is s (by omega) y b hy hb W 18 (rreadHex_at s (by omega) W)
    rw [← hY] at this
    exact this
  have c5 : ∀ W, BRow W A l → Calls Tryd.prog 19 #[.slice A L cap] W fun e w' => e = .returned (.string t) ∧ Below W.heap.size W w' := fun W hW => by rw [hL, ht]; exact rhex_at l A cap (by omega) W hW
  have k1 : ∀ (W : World) (A2 : Option Addr) (cap2 : Nat), BRow W A2 l → (convert 32 9 (.slice A2 L cap2)).run Tryd.prog W = .ok (.string bs) W := fun W A2 cap2 hW => by rw [hL, hbs]; exact conv_row hW cap2
  have k2 : ∀ (W : World) (A2 : Option Addr) (cap2 : Nat), BRow W A2 y → (convert 32 9 (.slice A2 Y cap2)).run Tryd.prog W = .ok (.string ys) W := fun W A2 cap2 hW => by rw [hY, hys]; exact conv_row hW cap2
  have c6 : b = true → ∀ (W : World) (A2 : Option Addr) (cap2 : Nat), BRow W A2 y → Calls Tryd.prog 16 #[.slice A2 Y cap2] W fun e w' => e = .returned (.string s) ∧ Below W.heap.size W w' := fun hbt W A2 cap2 hW => by
    cases e : rhx s.data.toList with
    | none => rw [hb, e] at hbt; cases hbt
    | some z =>
      have hz : y = z := by rw [hy, e]; rfl
      have hx := hex_rhx _ _ _ (Nat.le_refl _) e
      have hlen := rhx_length _ _ _ (Nat.le_refl _) e
      have := hex_at y A2 cap2 (by rw [hz]; have := size_list s; omega) W hW
      rw [← hY] at this
      have es : hstr y = s := by rw [hz]; apply ByteArray.ext; apply Array.toList_inj.1; rw [hstr_list, hx]
      rw [es] at this
      exact this
  have hl' : ¬ (200 : Int) < (L : Int) := by omega
  have hs' : ¬ (200 : Int) < (s.size : Int) := by omega
  have HR := Lib.hid h
  clear ht hbs hy hb hys hY hL h
  go_enter Tryd.func5, Tryd.ntmps5
  go_wp2_with fail
  refine (c1 _ HR.out).mono ?_
  rintro e w1 ⟨rfl, hb1⟩
  have he1 := he.kept hb1
  have q1 := hb1
  clear hb1
  go_wp2_with fail
  refine (c2 _).mono ?_
  rintro e w2 ⟨A2, cap2, rfl, hr2, hb2⟩
  have he2 := he1.kept hb2
  have q2 := q1.trans (hb2.mono q1.size)
  clear he1 q1 hb2
  have R2 := Lib.hid hr2
  clear hr2
  go_wp2_with fail
  refine (c3 _).mono ?_
  rintro e w3 ⟨A3, cap3, rfl, hr3, hb3⟩
  have he3 := he2.kept hb3
  have q3 := q2.trans (hb3.mono q2.size)
  have R23 := Lib.hid (R2.out.kept hb3)
  clear he2 q2 hb3 R2
  have R3 := Lib.hid hr3
  clear hr3
  go_wp2_with fail
  refine (c4 _).mono ?_
  rintro e w4 ⟨A4, cap4, rfl, hr4, hb4⟩
  have he4 := he3.kept hb4
  have q4 := q3.trans (hb4.mono q3.size)
  have R24 := Lib.hid (R23.out.kept hb4)
  have R34 := Lib.hid (R3.out.kept hb4)
  clear he3 q3 hb4 R23 R3
  have R4 := Lib.hid hr4
  clear hr4
  go_wp2_with fail
  refine (c5 _ (HR.out.kept q4)).mono ?_
  rintro e w5 ⟨rfl, hb5⟩
  have he5 := he4.kept hb5
  have q5 := q4.trans (hb5.mono q4.size)
  have f1 := k1 w5 A2 cap2 (R24.out.kept hb5)
  have f2 := k1 w5 A cap (HR.out.kept q5)
  have f3 := k2 w5 A3 cap3 (R34.out.kept hb5)
  have f4 := k2 w5 A4 cap4 (R4.out.kept hb5)
  have R35 := Lib.hid (R34.out.kept hb5)
  clear he4 q4 hb5 R24 R34 R4 HR k1 k2 c1 c2 c3 c4 c5
  cases hbv : b with
  | true =>
    subst hbv
    go_wp2_with fail
    refine (c6 (by first | exact trivial | rfl) _ _ _ R35.out).mono ?_
    rintro e w6 ⟨rfl, hb6⟩
    have he6 := he5.kept hb6
    have q6 := q5.trans (hb6.mono q5.size)
    go_wp2_with fail
    refine (alive_at _ he6).mono ?_
    rintro e w7 ⟨rfl, hb7⟩
    go_wp2
    go_ret
    exact ⟨rfl, q6.trans (hb7.mono q6.size)⟩
  | false =>
    subst hbv
    go_wp2_with fail
    refine (alive_at _ he5).mono ?_
    rintro e w7 ⟨rfl, hb7⟩
    go_wp2
    go_ret
    exact ⟨rfl, q5.trans (hb7.mono q5.size)⟩
set_option maxHeartbeats 1000000 in
set_option maxRecDepth 100000 in
theorem digitsBytes_law (a0 : Option Addr) (len0 cap0 : Nat) (z0 : List Int) (s : ByteArray) (w : World) (w0 : IsRow .u8 w a0 len0 cap0 z0) (he : Env w) :
    Calls Tryd.prog 5 #[.slice a0 len0 cap0, .string s] w fun e w' => e = .returned (.bool true) ∧ Below w.heap.size w w' := by
  obtain ⟨l, hl, hr⟩ := w0.bytes
  by_cases h1 : len0 ≤ 200
  · by_cases h2 : s.size ≤ 200
    · exact bytes_main l a0 len0 cap0 hl.symm s h1 h2 w hr he
    · have h1' : ¬ (200 : Int) < (len0 : Int) := by omega
      have h2' : (200 : Int) < (s.size : Int) := by omega
      clear w0 hl hr h1 h2
      go_enter Tryd.func5, Tryd.ntmps5
      go_wp2_with fail
      refine (alive_at _ he).mono ?_
      rintro e w1 ⟨rfl, hb1⟩
      go_wp2
      go_ret
      exact ⟨rfl, hb1⟩
  · have h1' : (200 : Int) < (len0 : Int) := by omega
    clear w0 hl hr h1
    go_enter Tryd.func5, Tryd.ntmps5
    go_wp2_with fail
    refine (alive_at _ he).mono ?_
    rintro e w1 ⟨rfl, hb1⟩
    go_wp2
    go_ret
    exact ⟨rfl, hb1⟩
end Go.Proofs.YtieeanbmdaaldaaDoor
