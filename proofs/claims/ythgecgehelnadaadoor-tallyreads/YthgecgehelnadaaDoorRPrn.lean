/-
  The document's Print.
-/
import Derived.Test.YthgecgehelnadaaDoorPrn
import Derived.Test.YthgecgehelnadaaDoorRAdd
import Derived.BigQuiet
import Derived.Deep.QuietTactic
namespace Go.Proofs.YthgecgehelnadaaDoor
open Go.Shelf Go.RowKit Go.Sort
open Go.Lib hiding intOf
set_option linter.unusedVariables false
/-- a world that has only grown -/
structure GrB (w : World) where
  v : World
  h : Below w.heap.size w v
instance (w : World) : Inhabited (GrB w) := ⟨⟨w, Below.refl _ _⟩⟩
/-- a region that draws its order, whose operations only read, and whose callees read and make memory of their own -/
theorem region_grown {P : Program} {id : Nat} {Q : Exit → Act → World → Prop} {a : Act} {w : World} {l : List Oper} (hm : P.follows .mixedOrders = true) (hB : Region.lexB .any l.toArray = true)
    (h : wpQuiet P l.toArray (fun w' => ∃ p : GrB w, w' = p.v) (fun a' => ∀ w', (∃ p : GrB w, w' = p.v) → Q .normal a' w') l a) : (Code.region id l.toArray true).wp P Q a w :=
  wp_region_quiet (C := fun w' => ∃ p : GrB w, w' = p.v) hm hB ⟨⟨w.drewN 1, below_drew (Below.refl _ _) 1⟩, rfl⟩ (by simpa using h)
theorem rnames_some (w : World) : Calls Tryd.prog 12 #[] w fun e w' => ∃ g, e = .returned (.slice (some ⟨g, 0, none⟩) 10 10) ∧ NmRow w' g nms ∧ Below w.heap.size w w' :=
  (rnames_at w).mono fun e w' ⟨h1, h2⟩ => ⟨_, h1, h2 ▸ nm_alloc w nms, h2 ▸ (Below.refl _ _).alloc (Nat.le_refl _) _⟩
set_option maxHeartbeats 1000000 in
set_option maxRecDepth 100000 in
theorem rprn_at (c : List Int) (hc : c.length = 10) (hu : U64s c) (w : World) : Calls Tryd.prog 21 #[cv c] w fun e w' => e = .returned (.string (ptx c)) ∧ Below w.heap.size w w' := by
  have hB := row_alloc w c
  have b1 := (Below.refl w.heap.size w).alloc (Nat.le_refl _) (.cells (ca c) 24)
  have H1 := Lib.hid (And.intro hB b1)
  have HC := Lib.hid (And.intro hc hu)
  clear hB b1 hc hu
  go_enter Tryd.func21, Tryd.ntmps21
  go_wp2_with (first | fail | refine ld24 rfl (.tmp 1) rfl _ rfl _ H1.out.1 HC.out.1 ?_)
  refine (rlist_some c HC.out.1 _).mono ?_
  rintro e w2 ⟨g, rfl, hX2, hg, hb2⟩
  have q2 := H1.out.2.trans (hb2.mono H1.out.2.size)
  have H2 := Lib.hid (And.intro hX2 q2)
  clear hX2 hg hb2 q2 H1
  go_wp2_with fail
  refine (rnames_some _).mono ?_
  rintro e w3 ⟨nb, rfl, hN3, hb3⟩
  have q3 := H2.out.2.trans (hb3.mono H2.out.2.size)
  have hX3 := H2.out.1.kept hb3 H2.out.1.lt
  obtain ⟨l, hl⟩ : ∃ l, l = nms := ⟨_, rfl⟩
  have HLN := Lib.hid hl
  have HLL : Hid (l.length = 10) := Lib.hid (by rw [hl]; rfl)
  rw [← hl] at hN3
  have H3 := Lib.hid (And.intro hX3 (And.intro hN3 q3))
  clear hb3 q3 hX3 hN3 hl H2
  go_wp2_with fail
  go_loopw [5, 6] (fun v i wr => ∃ (k : Nat) (s : List UInt8), k ≤ 10 ∧ i = .int .i64 (k : Int) ∧ v = .string (mkS s) ∧ Hid (s = join (wk l c k) [32] ∧ s.length ≤ 1000000) ∧ Hid (URow wr g c ∧ NmRow wr nb l ∧ Below w.heap.size w wr)) (fun _ i _ => 10 - (intOf i).toNat)
  case atStart => exact ⟨0, [], by omega, by go_num, rfl, Lib.hid ⟨by simp [wk_zero, join_nil], by simp⟩, H3⟩
  case round =>
    obtain ⟨k, s, hk, rfl, rfl, HS, HR⟩ := hrel
    by_cases hlt : k < 10
    · obtain ⟨hX, hN, q⟩ := HR.out
      have hkl : k < l.length := by have := HLL.out; omega
      have hkc : k < c.length := by have := HC.out.1; omega
      have c1 := hN.cell k hkl
      have c2 := hX.cell k hkc
      have hu := HC.out.2 _ (List.getElem_mem hkc)
      obtain ⟨u, huu⟩ : ∃ u : Nat, c[k] = (u : Int) := ⟨c[k].toNat, by omega⟩
      have hul : u < 18446744073709551616 := by omega
      have hwk := wk_succ l c (by rw [HC.out.1, HLL.out]) k hkl
      rw [huu, Int.toNat_natCast] at hwk
      rw [huu] at c2
      obtain ⟨x, hx⟩ : ∃ x, x = l[k] := ⟨_, rfl⟩
      rw [← hx] at c1 hwk
      have hxl : x.length ≤ 1000 := by
        have : ∀ y ∈ l, y.length ≤ 1000 := fun y hy => (nms_small y (by rw [← HLN.out]; exact hy)).1
        rw [hx]; exact this _ (List.getElem_mem hkl)
      have hwl := wk_len l c (by rw [HC.out.1, HLL.out]) k (by omega)
      have hjl : (join (wk l c (k + 1)) [32]).length ≤ 1000000 := by
        rw [HLN.out]
        exact Nat.le_trans (W_join c HC.out.1 HC.out.2 (k + 1) (by omega)) (by omega)
      have hsl := HS.out.2
      have hdl : (decDigits u).length ≤ 20 := dec_len u hul
      obtain ⟨U, hU⟩ : ∃ U : Int, U = (u : Int) := ⟨_, rfl⟩
      have c30 := fun W => rprint_at u hul W
      rw [← hU] at c2
      simp only [← hU] at c30
      obtain ⟨d, hd⟩ : ∃ d, d = decDigits u := ⟨_, rfl⟩
      have hds : dstr u = mkS d := by rw [hd]; rfl
      simp only [hds] at c30
      rw [← hd] at hwk hdl
      have hstep : join (wk l c (k + 1)) [32] = if k = 0 then x ++ [32] ++ d else s ++ [32] ++ x ++ [32] ++ d := by
        rw [hwk, join_snoc, if_neg (by simp), join_snoc, hwl, HS.out.1]
        by_cases h0 : k = 0
        · simp [h0]
        · rw [if_neg (by omega), if_neg h0]
      have z1 : (mkS s).size ≤ 1000000 := by rw [mkS_size]; exact hsl
      have z2 : (mkS x).size ≤ 1000 := by rw [mkS_size]; exact hxl
      have z3 : (mkS d).size ≤ 20 := by rw [mkS_size]; exact hdl
      have C30 : Hid (∀ p : GrB wr, Calls Tryd.prog 30 #[.int .u64 U] p.v fun e w' => e = .returned (.string (mkS d)) ∧ ∃ p' : GrB wr, w' = p'.v) := Lib.hid (fun p => (c30 p.v).mono fun e w' ⟨h1, h2⟩ => ⟨h1, ⟨w', p.h.trans (h2.mono p.h.size)⟩, rfl⟩)
      have y1 : ∀ p : GrB wr, p.v.cell? ⟨nb, k, none⟩ = some (.string (mkS x)) := fun p => by rw [p.h.cell (by exact Lib.lt_of_cell c1)]; exact c1
      have y2 : ∀ p : GrB wr, p.v.cell? ⟨g, k, none⟩ = some (.int .u64 U) := fun p => by rw [p.h.cell (by exact Lib.lt_of_cell c2)]; exact c2
      clear c30 c1 c2
      have HST := Lib.hid (And.intro hstep hjl)
      have HQ := Lib.hid q
      clear hX hN q hu huu hul hwk hx hxl hwl hjl hsl hdl hU hd hds hstep H3
      by_cases h0 : k = 0
      · have hp : ¬ (0 : Int) < (k : Int) := by omega
        have HST0 : Hid (join (wk l c (k + 1)) [32] = s ++ x ++ [32] ++ d) := Lib.hid (by
          have := HST.out.1
          rw [if_pos h0] at this
          have hs0 : s = [] := by rw [HS.out.1, h0]; simp [wk_zero, join_nil]
          rw [hs0]; simpa using this)
        clear h0
        go_wp2_with fail
        refine region_grown (by kernel_rfl) (by kernel_rfl) ?_
        repeat (go_big_quiet_step (first | (go_at_call 30; exact C30.out _)))
        refine wpQuiet_nil ?_
        rintro w' ⟨⟨w9, hgl⟩, rfl⟩
        clear y1 y2
        all_goals go_wp2
        all_goals refine ⟨⟨k + 1, _, by omega, by go_num, ?_, Lib.hid ⟨HST0.out.symm, by rw [← HST0.out]; exact HST.out.2⟩, Lib.hid ⟨HR.out.1.kept hgl HR.out.1.lt, HR.out.2.1.kept hgl HR.out.2.1.lt, HQ.out.trans (hgl.mono HQ.out.size)⟩⟩, by simp only [intOf]; omega⟩
        all_goals simp only [show (⟨#[32]⟩ : ByteArray) = mkS [32] from rfl, str_join]
      · have hp : (0 : Int) < (k : Int) := by omega
        have HST0 : Hid (join (wk l c (k + 1)) [32] = s ++ [32] ++ x ++ [32] ++ d) := Lib.hid (by
          have := HST.out.1
          rw [if_neg h0] at this
          exact this)
        clear h0
        have z4 : (mkS (s ++ [32])).size ≤ 1000001 := by rw [mkS_size, List.length_append] at *; simp only [List.length_singleton]; omega
        go_wp2_with fail
        rw [show (mkS s ++ ⟨#[32]⟩ : ByteArray) = mkS (s ++ [32]) from str_join s [32]]
        refine region_grown (by kernel_rfl) (by kernel_rfl) ?_
        repeat (go_big_quiet_step (first | (go_at_call 30; exact C30.out _)))
        refine wpQuiet_nil ?_
        rintro w' ⟨⟨w9, hgl⟩, rfl⟩
        clear y1 y2
        all_goals go_wp2
        all_goals refine ⟨⟨k + 1, _, by omega, by go_num, ?_, Lib.hid ⟨HST0.out.symm, by rw [← HST0.out]; exact HST.out.2⟩, Lib.hid ⟨HR.out.1.kept hgl HR.out.1.lt, HR.out.2.1.kept hgl HR.out.2.1.lt, HQ.out.trans (hgl.mono HQ.out.size)⟩⟩, by simp only [intOf]; omega⟩
        all_goals simp only [show (⟨#[32]⟩ : ByteArray) = mkS [32] from rfl, str_join]
    · obtain rfl : k = 10 := by omega
      have HE : Hid (ptx c = mkS s) := Lib.hid (by rw [ptx, W, HS.out.1, HLN.out])
      go_wp2
      go_ret
      exact ⟨by rw [HE.out]; rfl, HR.out.2.2⟩
end Go.Proofs.YthgecgehelnadaaDoor
