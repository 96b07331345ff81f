/-
  The law on a name's number.
-/
import Derived.Test.YthgecgehelnadaaDoorLive
import Derived.Test.YthgecgehelnadaaDoorRPrn
import Derived.Test.YthgecgehelnadaaDoorDSame
import Derived.Deep.RegionHeld3
namespace Go.Proofs.YthgecgehelnadaaDoor
open Go.Shelf Go.RowKit Go.Sort
open Go.Lib hiding intOf
set_option linter.unusedVariables false
theorem RowAt.cells10 {w : World} {b : Nat} {a0 a1 a2 a3 a4 a5 a6 a7 a8 a9 : Int} (h : RowAt w b [a0, a1, a2, a3, a4, a5, a6, a7, a8, a9]) : w.cell? ⟨b, 0, none⟩ = some (.int .u64 a0) ∧ w.cell? ⟨b, 1, none⟩ = some (.int .u64 a1) ∧ w.cell? ⟨b, 2, none⟩ = some (.int .u64 a2) ∧ w.cell? ⟨b, 3, none⟩ = some (.int .u64 a3) ∧ w.cell? ⟨b, 4, none⟩ = some (.int .u64 a4) ∧ w.cell? ⟨b, 5, none⟩ = some (.int .u64 a5) ∧ w.cell? ⟨b, 6, none⟩ = some (.int .u64 a6) ∧ w.cell? ⟨b, 7, none⟩ = some (.int .u64 a7) ∧ w.cell? ⟨b, 8, none⟩ = some (.int .u64 a8) ∧ w.cell? ⟨b, 9, none⟩ = some (.int .u64 a9) :=
  ⟨h.cell 0 (by simp), h.cell 1 (by simp), h.cell 2 (by simp), h.cell 3 (by simp), h.cell 4 (by simp), h.cell 5 (by simp), h.cell 6 (by simp), h.cell 7 (by simp), h.cell 8 (by simp), h.cell 9 (by simp)⟩
theorem ca10 (a0 a1 a2 a3 a4 a5 a6 a7 a8 a9 : Int) : ca [a0, a1, a2, a3, a4, a5, a6, a7, a8, a9] = #[.int .u64 a0, .int .u64 a1, .int .u64 a2, .int .u64 a3, .int .u64 a4, .int .u64 a5, .int .u64 a6, .int .u64 a7, .int .u64 a8, .int .u64 a9] := rfl
theorem names_some (w : World) : Calls Tryd.prog 11 #[] w fun e w' => ∃ g, e = .returned (.slice (some ⟨g, 0, none⟩) 10 10) ∧ NmRow w' g nms ∧ Below w.heap.size w w' :=
  (names_at w).mono fun e w' ⟨h1, h2⟩ => ⟨_, h1, h2 ▸ nm_alloc w nms, h2 ▸ (Below.refl _ _).alloc (Nat.le_refl _) _⟩
theorem NmRow.srow {w : World} {b : Nat} {l : List (List UInt8)} (h : NmRow w b l) : SRow w (some ⟨b, 0, none⟩) l := .inr ⟨b, 0, rfl, fun j hj => by rw [Nat.zero_add]; exact h.cell j hj⟩
theorem same_nms (g1 g2 : Nat) (w : World) (h1 : NmRow w g1 nms) (h2 : NmRow w g2 nms) : Calls Tryd.prog 10 #[.slice (some ⟨g1, 0, none⟩) 10 10, .slice (some ⟨g2, 0, none⟩) 10 10] w fun e w' => e = .returned (.bool true) ∧ Below w.heap.size w w' :=
  same_at nms _ _ 10 10 10 rfl (by omega) w h1.srow h2.srow
set_option maxHeartbeats 1000000 in
set_option maxRecDepth 100000 in
theorem of_law (c : List Int) (hc : c.length = 10) (x : ByteArray) (n : Int) (w : World) (he : EnvT w) : Calls Tryd.prog 3 #[cv c, .string x, .int .u64 n] w fun e w' => e = .returned (.bool true) ∧ Below w.heap.size w w' := by
  have hB := row_alloc w c
  have b1 := (Below.refl w.heap.size w).alloc (Nat.le_refl _) (.cells (ca c) 24)
  have hE1 := he.kept b1
  obtain ⟨w1, hw1⟩ : ∃ w1, w1 = w.alloc (.cells (ca c) 24) := ⟨_, rfl⟩
  rw [← hw1] at hB b1 hE1
  have HW := Lib.hid hw1
  have H1 := Lib.hid (And.intro hB (And.intro b1 hE1))
  have HC := Lib.hid hc
  have HE := Lib.hid he
  clear hB b1 hc he hE1 hw1
  by_cases hx : 100 < x.size
  · have hx' : (100 : Int) < (x.size : Int) := by omega
    go_enter Tryd.func3, Tryd.ntmps3
    go_wp2_with fail
    rw [← HW.out]
    refine (alive_at _ H1.out.2.2).mono ?_
    rintro e w2 ⟨rfl, hb2⟩
    go_wp2
    go_ret
    exact ⟨rfl, H1.out.2.1.trans (hb2.mono H1.out.2.1.size)⟩
  · have hx' : ¬ (100 : Int) < (x.size : Int) := by omega
    go_enter Tryd.func3, Tryd.ntmps3
    go_wp2_with fail
    rw [← HW.out]
    refine (place_at x nms rfl _).mono ?_
    rintro e w2 ⟨r, rfl, hp, hb2⟩
    have hB2 := H1.out.1.kept hb2 H1.out.1.lt
    have q2 := H1.out.2.1.trans (hb2.mono H1.out.2.1.size)
    have hE2 := H1.out.2.2.kept hb2
    have H2 := Lib.hid (And.intro hB2 (And.intro q2 hE2))
    have HP := Lib.hid hp
    clear hb2 hB2 q2 hE2 hp H1 HW
    go_wp2_with (first | fail | refine ld24 rfl (.tmp 3) rfl _ rfl _ H2.out.1 HC.out ?_)
    refine (of_at c HC.out x _).mono ?_
    rintro e w3 ⟨r2, rfl, hp2, hb3⟩
    obtain rfl := HP.out.uniq hp2
    have hB3 := H2.out.1.kept hb3 H2.out.1.lt
    have q3 := H2.out.2.1.trans (hb3.mono H2.out.2.1.size)
    have hE3 := H2.out.2.2.kept hb3
    have H3 := Lib.hid (And.intro hB3 (And.intro q3 hE3))
    clear hb3 hB3 q3 hE3 hp2 H2
    go_wp2_with (first | fail | refine ld24 rfl (.tmp 3) rfl _ rfl _ H3.out.1 HC.out ?_)
    refine (with_at c HC.out x n _).mono ?_
    rintro e w4 ⟨r2, rfl, hp2, hb4⟩
    obtain rfl := HP.out.uniq hp2
    have hB4 := H3.out.1.kept hb4 H3.out.1.lt
    have q4 := H3.out.2.1.trans (hb4.mono H3.out.2.1.size)
    have hE4 := H3.out.2.2.kept hb4
    have hD : (setc c r n).length = 10 := by rw [setc_len]; exact HC.out
    have hb5 := (Below.refl w4.heap.size w4).alloc (Nat.le_refl _) (.cells (ca (setc c r n)) 24)
    have hB5 := hB4.kept hb5 hB4.lt
    have hD5 := row_alloc w4 (setc c r n)
    have q5 := q4.trans (hb5.mono q4.size)
    have hE5 := hE4.kept hb5
    obtain ⟨w5, hw5⟩ : ∃ w5, w5 = w4.alloc (.cells (ca (setc c r n)) 24) := ⟨_, rfl⟩
    obtain ⟨b5, hb5'⟩ : ∃ b5, b5 = w4.heap.size := ⟨_, rfl⟩
    rw [← hw5] at hB5 hD5 q5 hE5
    rw [← hb5'] at hD5
    have H5 := Lib.hid (And.intro hB5 (And.intro hD5 (And.intro q5 hE5)))
    have HW5 := Lib.hid (And.intro hw5 hb5')
    have HD := Lib.hid hD
    rcases HP.out.lt with e | ⟨k, e, hk⟩
    · subst e
      have e2 : setc c (-1) n = c := by rw [setc, if_pos (by decide)]
      have e3 : getc c (-1) = 0 := by rw [getc, if_pos (by decide)]
      rw [e2] at H5 HW5 HD ⊢
      rw [e3]
      obtain ⟨a0, a1, a2, a3, a4, a5, a6, a7, a8, a9, hca⟩ := ten_list c HC.out
      have z3 := H5.out.1
      have z10 := H5.out.2.1
      rw [hca] at z3 z10
      obtain ⟨x0, x1, x2, x3, x4, x5, x6, x7, x8, x9⟩ := z3.cells10
      obtain ⟨y0, y1, y2, y3, y4, y5, y6, y7, y8, y9⟩ := z10.cells10
      rw [HW5.out.2] at y0 y1 y2 y3 y4 y5 y6 y7 y8 y9
      have HCA := Lib.hid hca
      clear hb4 hB4 q4 hE4 hD hb5 hB5 hD5 q5 hE5 hw5 hb5' hp2 H3 e2 e3 z3 z10 hca
      go_wp2_with (first | fail | (refine st24n rfl (.tmp 10) (.tmp 31) rfl _ HC.out rfl rfl _ rfl ?_; rw [← HW5.out.1]))
      refine (names_some _).mono ?_
      rintro e w6 ⟨g1, rfl, hn1, hb6⟩
      clear x0 x1 x2 x3 x4 x5 x6 x7 x8 x9 y0 y1 y2 y3 y4 y5 y6 y7 y8 y9
      have q6 := H5.out.2.2.1.trans (hb6.mono H5.out.2.2.1.size)
      have H6 := Lib.hid (And.intro hn1 (And.intro q6 (H5.out.2.2.2.kept hb6)))
      clear hn1 q6 hb6 H5 HW5
      go_wp2_with fail
      refine (rnames_some _).mono ?_
      rintro e w7 ⟨g2, rfl, hn2, hb7⟩
      have q7 := H6.out.2.1.trans (hb7.mono H6.out.2.1.size)
      have H7 := Lib.hid (And.intro (H6.out.1.kept hb7 H6.out.1.lt) (And.intro hn2 (And.intro q7 (H6.out.2.2.kept hb7))))
      clear hn2 q7 hb7 H6
      go_wp2_with fail
      refine (same_nms g1 g2 _ H7.out.1 H7.out.2.1).mono ?_
      rintro e w8 ⟨rfl, hb8⟩
      have q8 := H7.out.2.2.1.trans (hb8.mono H7.out.2.2.1.size)
      have H8 := Lib.hid (And.intro q8 (H7.out.2.2.2.kept hb8))
      clear q8 hb8 H7
      go_wp2_with fail
      refine (alive_at _ H8.out.2).mono ?_
      rintro e w9 ⟨rfl, hb9⟩
      go_wp2
      go_ret
      exact ⟨rfl, H8.out.1.trans (hb9.mono H8.out.1.size)⟩
    · have hk10 : k < 10 := hk
      have hgc : getc c r = c[k]'(by rw [HC.out]; exact hk10) := by
        rw [e, getc, if_neg (by omega), Int.toNat_natCast, List.getD_eq_getElem?_getD, List.getElem?_eq_getElem]
        rfl
      have hsc : setc c r n = c.set k n := by rw [e, setc, if_neg (by omega)]; simp
      obtain ⟨G, hG⟩ : ∃ G, G = getc c r := ⟨_, rfl⟩
      obtain ⟨D, hDD⟩ : ∃ D, D = setc c r n := ⟨_, rfl⟩
      rw [← hG] at hgc ⊢
      rw [← hDD] at H5 HW5 HD hsc ⊢
      subst e
      have hdr : decide ((0 : Int) ≤ (k : Int)) = true := by simp
      rw [hdr]
      have HGD := Lib.hid (And.intro hgc hsc)
      have hkp : ¬ (k : Int) < 0 := by omega
      clear hb4 hB4 q4 hE4 hD hb5 hB5 hD5 q5 hE5 hw5 hb5' hp2 H3 hG hDD hgc hsc hdr hk
      go_wp2_with (first | fail | (refine st24n rfl (.tmp 10) (.tmp 31) rfl _ HD.out rfl rfl _ rfl ?_; rw [← HW5.out.1, ← HW5.out.2]) | refine ld24 rfl (.tmp 3) rfl _ rfl _ H5.out.1 HC.out ?_)
      refine (rlist_some c HC.out _).mono ?_
      rintro e w6 ⟨g, rfl, hX6, hg6, hb6⟩
      have hgb : b5 < g := by have := H5.out.2.1.lt; omega
      have q6 := H5.out.2.2.1.trans (hb6.mono H5.out.2.2.1.size)
      have hgw : w.heap.size ≤ g := by have := H5.out.2.2.1.size; omega
      have hD6 := H5.out.2.1.kept hb6 H5.out.2.1.lt
      have hc6 := hX6.cell k (by rw [HC.out]; exact hk10)
      rw [← HGD.out.1] at hc6
      have hf6 := hX6.free k
      have hX7 := hX6.set k n
      rw [← HGD.out.2] at hX7
      have hD7 := hD6.cellOther (p := ⟨g, k, none⟩) (v := .int .u64 n) (by simp; omega)
      have q7 := q6.setCell (p := ⟨g, k, none⟩) hgw (.int .u64 n)
      obtain ⟨w7, hw7⟩ : ∃ w7, w7 = w6.setCell ⟨g, k, none⟩ (.int .u64 n) := ⟨_, rfl⟩
      rw [← hw7] at hX7 hD7 q7
      have hE7 := HE.out.kept q7
      have H7 := Lib.hid (And.intro hX7 (And.intro hD7 (And.intro q7 hE7)))
      have HW7 := Lib.hid hw7
      clear hX6 hg6 hb6 hgb q6 hgw hD6 hX7 hD7 q7 hE7 hw7 H5 HW5
      go_wp2_with fail
      rw [← HW7.out]
      obtain ⟨d0, d1, d2, d3, d4, d5, d6, d7, d8, d9, hDe⟩ := ten_list D HD.out
      have C14 : Hid (∀ V : World, Below w7.heap.size w7 V → Calls Tryd.prog 14 #[.slice (some ⟨g, 0, none⟩) 10 10] V fun e w' => e = .returned (.agg #[.int .u64 d0, .int .u64 d1, .int .u64 d2, .int .u64 d3, .int .u64 d4, .int .u64 d5, .int .u64 d6, .int .u64 d7, .int .u64 d8, .int .u64 d9]) ∧ Below w7.heap.size w7 w') := Lib.hid (fun V hV =>
        (rof_at D HD.out g 10 (by omega) V (H7.out.1.kept hV H7.out.1.lt).ten).mono fun e w' ⟨h1, h2⟩ => ⟨by rw [h1, hDe]; rfl, hV.trans (h2.mono hV.size)⟩)
      have C11 : Hid (∀ V : World, Below w7.heap.size w7 V → Calls Tryd.prog 11 #[] V fun e w' => ∃ g1, e = .returned (.slice (some ⟨g1, 0, none⟩) 10 10) ∧ NmRow w' g1 nms ∧ Below w7.heap.size w7 w') := Lib.hid (fun V hV =>
        (names_some V).mono fun e w' ⟨g1, h1, h2, h3⟩ => ⟨g1, h1, h2, hV.trans (h3.mono hV.size)⟩)
      have C12 : Hid (∀ (V : World) (g1 : Nat), NmRow V g1 nms → Below w7.heap.size w7 V → Calls Tryd.prog 12 #[] V fun e w' => ∃ g2, e = .returned (.slice (some ⟨g2, 0, none⟩) 10 10) ∧ NmRow w' g1 nms ∧ NmRow w' g2 nms ∧ Below w7.heap.size w7 w') := Lib.hid (fun V g1 hn hV =>
        (rnames_some V).mono fun e w' ⟨g2, h1, h2, h3⟩ => ⟨g2, h1, hn.kept h3 hn.lt, h2, hV.trans (h3.mono hV.size)⟩)
      have C10 : Hid (∀ (V : World) (g1 g2 : Nat), NmRow V g1 nms → NmRow V g2 nms → Below w7.heap.size w7 V → Calls Tryd.prog 10 #[.slice (some ⟨g1, 0, none⟩) 10 10, .slice (some ⟨g2, 0, none⟩) 10 10] V fun e w' => e = .returned (.bool true) ∧ Below w7.heap.size w7 w') := Lib.hid (fun V g1 g2 hn1 hn2 hV =>
        (same_nms g1 g2 V hn1 hn2).mono fun e w' ⟨h1, h3⟩ => ⟨h1, hV.trans (h3.mono hV.size)⟩)
      have C6 : Hid (∀ (V : World), Below w7.heap.size w7 V → Calls Tryd.prog 6 #[] V fun e w' => e = .returned (.bool true) ∧ Below w7.heap.size w7 w') := Lib.hid (fun V hV =>
        (alive_at V (H7.out.2.2.2.kept hV)).mono fun e w' ⟨h1, h3⟩ => ⟨h1, hV.trans (h3.mono hV.size)⟩)
      have hD7 := H7.out.2.1
      rw [hDe] at hD7
      have HD7 := Lib.hid hD7
      have z := hD7.cells10
      clear hD7 hDe hc6 hf6
      go_region_held3 (fun w' => w'.cell? ⟨b5, 0, none⟩ = some (.int .u64 d0) ∧ w'.cell? ⟨b5, 1, none⟩ = some (.int .u64 d1) ∧ w'.cell? ⟨b5, 2, none⟩ = some (.int .u64 d2) ∧ w'.cell? ⟨b5, 3, none⟩ = some (.int .u64 d3) ∧ w'.cell? ⟨b5, 4, none⟩ = some (.int .u64 d4) ∧ w'.cell? ⟨b5, 5, none⟩ = some (.int .u64 d5) ∧ w'.cell? ⟨b5, 6, none⟩ = some (.int .u64 d6) ∧ w'.cell? ⟨b5, 7, none⟩ = some (.int .u64 d7) ∧ w'.cell? ⟨b5, 8, none⟩ = some (.int .u64 d8) ∧ w'.cell? ⟨b5, 9, none⟩ = some (.int .u64 d9)) (first | exact z | exact (HD7.out.kept hgl HD7.out.lt).cells10 | go_keep)
        (first | (go_at_call 14; refine (C14.out _ (by first | exact hgl | exact below_drew (Below.refl _ _) 1)).mono ?_; rintro e wl ⟨rfl, hgl⟩) | (go_at_call 11; refine (C11.out _ hgl).mono ?_; rintro e wl ⟨g1, rfl, hn1, hgl⟩) | (go_at_call 12; refine (C12.out _ _ hn1 hgl).mono ?_; rintro e wl ⟨g2, rfl, hn1, hn2, hgl⟩) | (go_at_call 10; refine (C10.out _ _ _ hn1 hn2 hgl).mono ?_; rintro e wl ⟨rfl, hgl⟩) | (go_at_call 6; refine (C6.out _ hgl).mono ?_; rintro e wl ⟨rfl, hgl⟩))
      all_goals go_wp2
      all_goals go_ret
      all_goals exact ⟨rfl, H7.out.2.2.1.trans (hgl.mono H7.out.2.2.1.size)⟩
theorem tallyOf_law (c : List Int) (hc : c.length = 10) (hu : U64s c) (x : ByteArray) (n : Int) (w : World) (w2 : (Lit.int .u64 n).wf = true) (he : EnvT w) : Calls Tryd.prog 3 #[cv c, .string x, .int .u64 n] w fun e w' => e = .returned (.bool true) ∧ Below w.heap.size w w' := of_law c hc x n w he
end Go.Proofs.YthgecgehelnadaaDoor
