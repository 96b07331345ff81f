/-
  Counts told: Print.
-/
import Derived.Test.YthgecgehelnadaaDoorText
import Derived.Test.YthgecgehelnadaaDoorAdd
import Derived.Test.YthgecgehelnadaaDoorDJoin
import Derived.ArgAppend
namespace Go.Proofs.YthgecgehelnadaaDoor
open Go.Shelf Go.RowKit Go.Sort
open Go.Lib hiding intOf
set_option linter.unusedVariables false
theorem grown_trans {a b c : World} {row : Option Nat} (h1 : a.grownBy b row) (h2 : b.grownBy c row) : a.grownBy c row :=
  ⟨h2.os.trans h1.os, h2.tape.trans h1.tape, h2.output.trans h1.output, Nat.le_trans h1.size h2.size, fun k hk hr => (h2.block k (Nat.lt_of_lt_of_le hk h1.size) hr).trans (h1.block k hk hr)⟩
theorem makeS (c : Nat) (z : Int) (hz : z = (c : Int)) (hc : c ≤ 1000000) (w : World) : ∃ w1, (Instr.makeSlice 32 (.int .i64 0) (.int .i64 z)).run Tryd.prog w = .ok (.slice (some ⟨w.heap.size, 0, none⟩) 0 c) w1 ∧ w1.ownsRow w.heap.size 9 1 (.slice (some ⟨w.heap.size, 0, none⟩) 0 c) 0 (svals []) ∧ Below w.heap.size w w1 := by
  obtain ⟨i0, hi, hz0, hz1, hz2⟩ := info_parts info9
  obtain ⟨w1, h1, h2, h3⟩ := run_make_own (P := Tryd.prog) w w.heap.size 32 9 i0 (.string ⟨#[]⟩) 1 Tryd.underlying32 hi hz0 hz1 .i64 .i64 c (by rw [hz2]; omega) (by unfold maxLen; omega) (Nat.le_refl _)
  exact ⟨w1, by rw [hz]; exact h1, h2, (Below.refl _ _).grown h3 (Nat.le_refl _) fun k hk => by cases hk⟩
theorem appR {w : World} {base n g : Nat} {l : List (List UInt8)} (x y : List UInt8) (s t : ByteArray) (hs : s = mkS x) (htt : t = mkS y) (ho : w.ownsRow base 9 1 (.slice (some ⟨g, 0, none⟩) n 20) n (svals l)) (hb : base ≤ w.heap.size) (hn : n + 2 ≤ 20) :
    ∃ w1, (Builtin.append_ #[32, 32] 32 #[.slice (some ⟨g, 0, none⟩) n 20, .slice (some ⟨w.heap.size, 0, none⟩) 2 2]).run Tryd.prog (w.alloc (.cells #[.string s, .string t] 9)) = .ok (.slice (some ⟨g, 0, none⟩) (n + 2) 20) w1 ∧ w1.ownsRow base 9 1 (.slice (some ⟨g, 0, none⟩) (n + 2) 20) (n + 2) (svals ((l ++ [x]) ++ [y])) ∧ w.grownBy w1 (some g) := by
  obtain ⟨i0, hi, hz0, hz1, hz2⟩ := info_parts info9
  have hnews : ∀ (j : Nat) (u : Value), (svals [x, y])[j]? = some u → (w.alloc (.cells #[.string s, .string t] 9)).cell? ((⟨w.heap.size, 0, none⟩ : Addr).add j) = some u := fun j u hu => by
    have hj : j < 2 := (List.getElem?_eq_some_iff.1 hu).1
    have hj' : j = 0 ∨ j = 1 := by omega
    rcases hj' with rfl | rfl
    · simp [svals] at hu
      subst hu
      rw [Lib.add_plain, World.cell?_alloc_new, hs]
      rfl
    · simp [svals] at hu
      subst hu
      rw [Lib.add_plain, World.cell?_alloc_new, htt]
      rfl
  obtain ⟨v', w1, h1, h2, h3, _⟩ := run_append_own (P := Tryd.prog) (w.alloc (.cells #[.string s, .string t] 9)) base 32 32 9 i0 (.string ⟨#[]⟩) 1 16 Tryd.underlying32 hi hz0 hz1 hz2 rfl (by decide) _ n (svals l) (ho.alloc _) ⟨w.heap.size, 0, none⟩ 2 2 (svals [x, y]) rfl hnews (fun u hu => by obtain ⟨z, _, rfl⟩ := List.mem_map.1 hu; rfl) (by unfold maxLen; omega) (by omega) (by simp; omega)
  rcases (ho.alloc (.cells #[.string s, .string t] 9)).2 with ⟨e, _⟩ | ⟨g', cap, cur, e, hg, hh, hcap, hm, hcs, ht⟩
  · cases e
  · injection e with e1 e2 e3
    injection e1 with e1
    injection e1 with e1
    subst e1 e3
    have hlt : ∀ j, j < 2 → n * i0.size + j < cur.size := fun j hj => by rw [hz1, hcs]; omega
    have h4 := run_append_room_cells (P := Tryd.prog) (w := w.alloc (.cells #[.string s, .string t] 9)) 32 32 9 i0 Tryd.underlying32 hi g 0 n 20 ⟨w.heap.size, 0, none⟩ 2 2 (svals [x, y]) (by rw [hz1]; rfl) hnews (fun u hu => by obtain ⟨z, _, rfl⟩ := List.mem_map.1 hu; rfl) hn (fun j hj => by
      rw [Nat.zero_add, cell_of_row _ _ _ cur 9 (0, 0) hh, Array.getElem?_eq_getElem (hlt j (by simpa [svals] using hj))]
      rfl) (fun j hj => by simp [World.frozen?, hh])
    rw [h4] at h1
    injection h1 with h5 h6
    rw [← h6] at h2 h3
    rw [← h5] at h2
    refine ⟨_, h4, ?_, ?_⟩
    · rw [List.append_assoc, svals_app]; exact h2
    · exact grown_trans (World.grownBy_alloc w _ (some g)) h3
theorem own_keep {w w' : World} {base n : Nat} {v : Value} {l : List (List UInt8)} (ho : w.ownsRow base 9 1 v n (svals l)) (h : Below w.heap.size w w') : w'.ownsRow base 9 1 v n (svals l) := own_below ho h
/-- a row of names in a block of its own -/
def NmRow (w : World) (b : Nat) (l : List (List UInt8)) : Prop := w.heap[b]? = some (.cells (svals l).toArray 9 (0, 0))
theorem nm_alloc (w : World) (l : List (List UInt8)) : NmRow (w.alloc (.cells (svals l).toArray 9)) w.heap.size l := by
  show (w.heap.push _)[w.heap.size]? = _
  simp
theorem NmRow.kept {w w' : World} {b B : Nat} {l : List (List UInt8)} (h : NmRow w b l) (hb : Below B w w') (hB : b < B) : NmRow w' b l := by
  unfold NmRow; rw [hb.block b hB]; exact h
theorem NmRow.lt {w : World} {b : Nat} {l : List (List UInt8)} (h : NmRow w b l) : b < w.heap.size := (Array.getElem?_eq_some_iff.1 h).1
theorem NmRow.cell {w : World} {b : Nat} {l : List (List UInt8)} (h : NmRow w b l) (k : Nat) (hk : k < l.length) : w.cell? ⟨b, k, none⟩ = some (.string (mkS l[k])) := by
  rw [cell_of_row (w := w) b k (svals l).toArray 9 (0, 0) h]
  simp [svals, hk, mkS]
theorem NmRow.grown {w w' : World} {b g : Nat} {l : List (List UInt8)} (h : NmRow w b l) (hg : w.grownBy w' (some g)) (hne : b ≠ g) : NmRow w' b l := by
  unfold NmRow; rw [hg.block b h.lt (fun e => hne (Option.some.inj e))]; exact h
theorem PRow.grown {w w' : World} {p b g : Nat} (h : PRow w p b) (hg : w.grownBy w' (some g)) (hne : p ≠ g) : PRow w' p b := by
  unfold PRow; rw [hg.block p h.lt (fun e => hne (Option.some.inj e))]; exact h
theorem RowAt.grown {w w' : World} {b g : Nat} {c : List Int} (h : RowAt w b c) (hg : w.grownBy w' (some g)) (hne : b ≠ g) : RowAt w' b c := by
  unfold RowAt; rw [hg.block b h.lt (fun e => hne (Option.some.inj e))]; exact h
theorem owns_base2 {W : World} {a b : Nat} {e : TypeId} {size : Nat} {v : Value} {n : Nat} {xs : List Value} (h : W.ownsRow a e size v n xs) (hb : b ≤ a) : W.ownsRow b e size v n xs := by
  refine ⟨h.1, ?_⟩
  rcases h.2 with h | ⟨g, cap, cur, hv, hg, r⟩
  · exact .inl h
  · exact .inr ⟨g, cap, cur, hv, Nat.le_trans hb hg, r⟩
set_option maxHeartbeats 1000000 in
set_option maxRecDepth 100000 in
theorem prn_at (c : List Int) (hc : c.length = 10) (hu : U64s c) (w : World) (he : EnvT w) : Calls Tryd.prog 18 #[cv c] w fun e w' => e = .returned (.string (ptx c)) ∧ Below w.heap.size w w' := by
  have hB := row_alloc w c
  have b1 := (Below.refl w.heap.size w).alloc (Nat.le_refl _) (.cells (ca c) 24)
  have H1 := Lib.hid (And.intro hB b1)
  have HC := Lib.hid (And.intro hc hu)
  have HE := Lib.hid he
  clear hB b1 hc hu he
  go_enter Tryd.func18, Tryd.ntmps18
  go_wp2_with fail
  refine (fields_at w.heap.size _).mono ?_
  rintro e w2 ⟨rfl, hb2⟩
  obtain ⟨hB, q⟩ := H1.out
  have hB2 := hB.kept hb2 hB.lt
  have q2 := q.trans (hb2.mono q.size)
  have hb3 := (Below.refl w2.heap.size w2).alloc (Nat.le_refl _) (.cells (pa w.heap.size) 48)
  have hB3 := hB2.kept hb3 hB2.lt
  have hP3 := prow_alloc w2 w.heap.size
  have q3 := q2.trans (hb3.mono q2.size)
  obtain ⟨p, hp⟩ : ∃ p, p = w2.heap.size := ⟨_, rfl⟩
  rw [← hp] at hP3
  obtain ⟨w3, hw3⟩ : ∃ w3, w3 = w2.alloc (.cells (pa w.heap.size) 48) := ⟨_, rfl⟩
  rw [← hw3] at hB3 hP3 q3
  obtain ⟨w4, hmk, ho4, hb4⟩ := makeS 20 20 rfl (by omega) w3
  have hB4 := hB3.kept hb4 hB3.lt
  have hP4 := hP3.kept hb4 hP3.lt
  have q4 := q3.trans (hb4.mono q3.size)
  have ho4' := owns_base2 ho4 q3.size
  obtain ⟨g, hg⟩ : ∃ g, g = w3.heap.size := ⟨_, rfl⟩
  have hgp : p < g := by rw [hg]; exact hP3.lt
  have hgc : w.heap.size < g := by rw [hg]; exact hB3.lt
  have hg4 : g < w4.heap.size := by
    have := (ho4.lt w3.heap.size rfl).2
    rw [hg]; exact this
  rw [← hg] at hmk ho4'
  have H4 := Lib.hid (And.intro hB4 (And.intro hP4 (And.intro q4 ho4')))
  have HW := Lib.hid (And.intro hp (And.intro hw3 hmk))
  have HG := Lib.hid (And.intro hgp (And.intro hgc hg4))
  clear hb2 hB q hB2 q2 hb3 hB3 hP3 q3 hp hw3 hmk ho4 hb4 hB4 hP4 q4 ho4' hg hgp hgc hg4 H1
  go_wp2_with (first | fail | refine st48 rfl (.tmp 3) (.tmp 7) rfl w.heap.size rfl rfl _ rfl ?_)
  rw [← HW.out.2.1, HW.out.2.2, ← HW.out.1]
  go_wp2_with fail
  refine (names_at _).mono ?_
  rintro e w5 ⟨rfl, rfl⟩
  obtain ⟨hB4, hP4, q4, ho4⟩ := H4.out
  have hb5 := (Below.refl w4.heap.size w4).alloc (Nat.le_refl _) (.cells (svals nms).toArray 9)
  have hB5 := hB4.kept hb5 hB4.lt
  have hP5 := hP4.kept hb5 hP4.lt
  have hN5 := alloc_srow w4 nms
  have q5 := q4.trans (hb5.mono q4.size)
  have ho5 := own_keep ho4 hb5
  obtain ⟨l, hl⟩ : ∃ l, l = nms := ⟨_, rfl⟩
  have HLN := Lib.hid hl
  have HLL : Hid (l.length = 10) := Lib.hid (by rw [hl]; rfl)
  have hN5' : NmRow (w4.alloc (.cells (svals nms).toArray 9)) w4.heap.size nms := nm_alloc w4 nms
  obtain ⟨nb, hnb⟩ : ∃ nb, nb = w4.heap.size := ⟨_, rfl⟩
  have hgn : g < nb := by rw [hnb]; exact HG.out.2.2
  have HGN := Lib.hid hgn
  rw [← hl] at hb5 hB5 hP5 hN5' q5 ho5 ⊢
  rw [← hnb] at hN5' ⊢
  obtain ⟨w5, hw5⟩ : ∃ w5, w5 = w4.alloc (.cells (svals l).toArray 9) := ⟨_, rfl⟩
  rw [← hw5] at hb5 hB5 hP5 hN5' q5 ho5 ⊢
  have hE5 := HE.out.kept q5
  have H5 := Lib.hid (And.intro hB5 (And.intro hP5 (And.intro hN5' (And.intro q5 hE5))))
  have HO5 := Lib.hid ho5
  clear hB4 hP4 q4 ho4 hb5 hB5 hP5 hN5 hN5' q5 ho5 hl hnb hgn hw5 hE5 H4 HW
  go_wp2_with fail
  go_loopw [4, 11] (fun v i wr => ∃ k m : Nat, k ≤ 10 ∧ Hid (m = 2 * k) ∧ i = .int .i64 (k : Int) ∧ v = .slice (some ⟨g, 0, none⟩) m 20 ∧ Hid (RowAt wr w.heap.size c ∧ PRow wr p w.heap.size ∧ NmRow wr nb l ∧ Below w.heap.size w wr ∧ EnvT wr) ∧ Hid (wr.ownsRow w.heap.size 9 1 (.slice (some ⟨g, 0, none⟩) m 20) m (svals (wk l c k)))) (fun _ i _ => 10 - (intOf i).toNat)
  case atStart => exact ⟨0, 0, by omega, Lib.hid rfl, by go_num, rfl, H5, HO5⟩
  case round =>
    obtain ⟨k, m, hk, HM, rfl, rfl, HR, HO⟩ := hrel
    by_cases hlt : k < 10
    · obtain ⟨hB, hP, hN, q, hE⟩ := HR.out
      have hkl : k < l.length := by have := HLL.out; omega
      have hkc : k < c.length := by have := HC.out.1; omega
      · have hcell := hN.cell k hkl
        obtain ⟨x, hx⟩ : ∃ x, x = mkS l[k] := ⟨_, rfl⟩
        rw [← hx] at hcell
        have c1 := hP.cell k hlt
        have c2 := hB.cell k hkc
        have hu := HC.out.2 _ (List.getElem_mem hkc)
        obtain ⟨u, huu⟩ : ∃ u : Nat, c[k] = (u : Int) := ⟨c[k].toNat, by omega⟩
        have hul : u < 18446744073709551616 := by omega
        have hwk := wk_succ l c (by rw [HC.out.1, HLL.out]) k hkl
        rw [huu, Int.toNat_natCast] at hwk
        rw [huu] at c2
        obtain ⟨U, hU⟩ : ∃ U : Int, U = (u : Int) := ⟨_, rfl⟩
        have c24 := print_at u hul wr hE
        rw [← hU] at c2 c24
        have HX := Lib.hid (And.intro hx (And.intro hwk hU))
        clear hB hP hN q hE hx hu huu hul hwk hU H5 HO5
        go_wp2_with fail
        refine c24.mono ?_
        rintro e w6 ⟨rfl, hb6⟩
        obtain ⟨hB, hP, hN, q, hE⟩ := HR.out
        have hB6 := hB.kept hb6 hB.lt
        have hP6 := hP.kept hb6 hP.lt
        have hN6 := hN.kept hb6 hN.lt
        have q6 := q.trans (hb6.mono q.size)
        have hO6 := own_keep HO.out hb6
        obtain ⟨w7, hrun, ho7, hg7⟩ := appR l[k] (decDigits u) x (dstr u) HX.out.1 rfl hO6 q6.size (by have := HM.out; omega)
        rw [← HX.out.2.1] at ho7
        have HM2 : Hid (m + 2 = 2 * (k + 1)) := Lib.hid (by have := HM.out; omega)
        have q7 : Below w.heap.size w w7 := q6.grown hg7 q6.size (fun k hk => by injection hk with hk; have := HG.out.2.1; omega)
        have H7 := Lib.hid (And.intro (hB6.grown hg7 (by have := HG.out.2.1; omega)) (And.intro (hP6.grown hg7 (by have := HG.out.1; omega)) (And.intro (hN6.grown hg7 (by have := HGN.out; omega)) (And.intro q7 (HE.out.kept q7)))))
        have HO7 := Lib.hid ho7
        have HRUN := Lib.hid hrun
        clear hB hP hN q hE hB6 hP6 hN6 q6 hO6 hrun ho7 hg7 q7 hb6 HR HO c24 c1 c2 hcell HX
        go_wp2_with (at_builtin; refine append_run rfl (.tmp 16) (.tmp 24) 32 rfl rfl rfl HRUN.out ?_)
        go_round
        case rel => exact ⟨k + 1, m + 2, by omega, HM2, by go_num, rfl, H7, HO7⟩
        case measure => simp only [intOf]; omega
    · obtain rfl : k = 10 := by omega
      obtain ⟨A2, cap2, hv, hS⟩ := owns_srow HO.out
      have hwl := wk_len l c (by rw [HC.out.1, HLL.out]) 10 (by rw [HLL.out]; omega)
      rw [hwl] at hv
      injection hv with hv1 hv2 hv3
      subst hv1 hv3
      have hm := HM.out
      subst hm
      have hW : wk l c 10 = W c := by rw [HLN.out]; rfl
      rw [hW] at hS
      have cj := join_at (W c) (some ⟨g, 0, none⟩) 20 20 (W_len c HC.out.1).symm (by omega) (by have := W_join c HC.out.1 HC.out.2 10 (Nat.le_refl _); exact Nat.le_trans this (by omega)) (by omega) _ hS (ptx c) rfl
      have q := HR.out.2.2.2.1
      have HQ := Lib.hid q
      clear hwl hW hS hv2 q HR HO H5 HO5
      go_wp2_with fail
      refine cj.mono ?_
      rintro e w8 ⟨rfl, hb8⟩
      go_wp2
      go_ret
      exact ⟨rfl, HQ.out.trans (hb8.mono HQ.out.size)⟩
end Go.Proofs.YthgecgehelnadaaDoor
