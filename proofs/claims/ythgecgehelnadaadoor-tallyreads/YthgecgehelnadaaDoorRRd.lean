/-
  The document's Read.
-/
import Derived.Test.YthgecgehelnadaaDoorRd
import Derived.Test.YthgecgehelnadaaDoorDRefW
import Derived.Test.YthgecgehelnadaaDoorDRefR
namespace Go.Proofs.YthgecgehelnadaaDoor
open Go.Shelf Go.RowKit Go.Sort
open Go.Lib hiding intOf
set_option linter.unusedVariables false
def uvals (l : List Int) : List Value := l.map (Value.int .u64)
theorem uvals_len (l : List Int) : (uvals l).length = l.length := by simp [uvals]
theorem uvals_app (l r : List Int) : uvals (l ++ r) = uvals l ++ uvals r := by simp [uvals]
theorem info22 : (Tryd.prog.info? 22).map (fun i => (i.zero, i.size, i.bytes)) = some (some (.int .u64 0), 1, 8) := by kernel_rfl
theorem appU {w : World} {base n : Nat} {v : Value} {l : List Int} (x : Int) (ho : w.ownsRow base 22 1 v n (uvals l)) (hb : base ≤ w.heap.size) (hn : n + 1 ≤ 1000000) :
    ∃ v' w1, (Builtin.append_ #[34, 34] 34 #[v, .slice (some ⟨w.heap.size, 0, none⟩) 1 1]).run Tryd.prog (w.alloc (.cells #[.int .u64 x] 22)) = .ok v' w1 ∧ w1.ownsRow base 22 1 v' (n + 1) (uvals (l ++ [x])) ∧ Below base w w1 ∧ (w.alloc (.cells #[.int .u64 x] 22)).grownBy w1 v.ownBlock := by
  obtain ⟨i0, hi, hz0, hz1, hz2⟩ := info_parts info22
  obtain ⟨v', w1, h1, h2, h3, _⟩ := run_append_own (P := Tryd.prog) (w.alloc (.cells #[.int .u64 x] 22)) base 34 34 22 i0 (.int .u64 0) 1 8 Tryd.underlying34 hi hz0 hz1 hz2 rfl (by decide) v n (uvals l) (ho.alloc _) ⟨w.heap.size, 0, none⟩ 1 1 (uvals [x]) rfl (fun j u hu => by
    have hj : j < 1 := (List.getElem?_eq_some_iff.1 hu).1
    obtain rfl : j = 0 := by omega
    simp [uvals] at hu
    subst hu
    rw [Lib.add_plain, World.cell?_alloc_new]
    rfl) (fun u hu => by obtain ⟨z, _, rfl⟩ := List.mem_map.1 hu; rfl) (by unfold maxLen; omega) (by omega) (by simp; omega)
  exact ⟨v', w1, h1, by rw [uvals_app]; exact h2, ((Below.refl base w).alloc hb _).trans (grown_below (ho.alloc _) h3 (by simp; omega)), h3⟩
theorem owns_ten {w : World} {base n : Nat} {v : Value} {l : List Int} (ho : w.ownsRow base 22 1 v n (uvals l)) (hn : n = 10) : ∃ g cap, v = .slice (some ⟨g, 0, none⟩) 10 cap ∧ 10 ≤ cap ∧ l.length = 10 ∧ Ten w g 0 l := by
  subst hn
  obtain ⟨h1, h2⟩ := ho
  rw [uvals_len] at h1
  rcases h2 with ⟨_, h⟩ | ⟨g, cap, cur, rfl, hg, hh, hcap, hm, hs, ht⟩
  · cases h
  · refine ⟨g, cap, rfl, hcap, by omega, fun j hj => ?_⟩
    have hx : (uvals l)[j]? = some (.int .u64 l[j]) := by simp [uvals, hj]
    rw [← ht, List.getElem?_take, if_pos (by omega)] at hx
    simp only [World.cell?, hh, Nat.zero_add]
    simpa using hx
theorem rdRW_at (ws : List (List UInt8)) (k : Nat) (y : ByteArray) (hy : y = mkS (ws.getD (2 * k + 1) [])) (w : World) : Calls Tryd.prog 29 #[.string y] w fun e w' => e = .returned (tupR (rdAt ws k)) ∧ Below w.heap.size w w' := by
  have := rread_at y w
  rw [hy, mkS_list] at this
  rw [hy]
  exact this
theorem tupR_num (ws : List (List UInt8)) (k : Nat) : ∃ b, tupR (rdAt ws k) = .tuple #[.int .u64 (numAt ws k), .bool b] := by
  unfold numAt
  cases e : rdAt ws k with
  | none => exact ⟨false, rfl⟩
  | some u => exact ⟨true, rfl⟩
set_option maxHeartbeats 1000000 in
set_option maxRecDepth 100000 in
theorem rread20_at (s : ByteArray) (hs : s.size ≤ 100000) (w : World) : Calls Tryd.prog 20 #[.string s] w (RdPost (wds s.data.toList) w) := by
  have hGI := good_iff s
  obtain ⟨ws, hws⟩ : ∃ ws, ws = wds s.data.toList := ⟨_, rfl⟩
  obtain ⟨n, hn⟩ : ∃ n, n = ws.length := ⟨_, rfl⟩
  have c28 : ∀ V : World, Calls Tryd.prog 28 #[.string s] V fun e w' => ∃ A cap, e = .returned (.slice A n cap) ∧ SRow w' A ws ∧ Below V.heap.size V w' := fun V => by
    rw [hws]
    exact rwords_at s hs n (by rw [hn, hws]) V
  rw [← hws] at hGI ⊢
  have hR := row_alloc w zs
  have q1 := (Below.refl w.heap.size w).alloc (Nat.le_refl _) (.cells (ca zs) 24)
  obtain ⟨w1, hw1⟩ : ∃ w1, w1 = w.alloc (.cells (ca zs) 24) := ⟨_, rfl⟩
  rw [← hw1] at hR q1
  have HW := Lib.hid hw1
  have H1 := Lib.hid (And.intro hR q1)
  have HN := Lib.hid hn
  have HGI := Lib.hid hGI
  have C28 := Lib.hid (c28 w1)
  clear hws hn c28 hR q1 hw1 hs hGI
  go_enter Tryd.func20, Tryd.ntmps20
  go_wp2_with fail
  have hA : w.alloc (.cells #[.int .u64 0, .int .u64 0, .int .u64 0, .int .u64 0, .int .u64 0, .int .u64 0, .int .u64 0, .int .u64 0, .int .u64 0, .int .u64 0] 24) = w1 := HW.out.symm
  rw [hA]
  clear hA
  refine C28.out.mono ?_
  rintro e w2 ⟨A, cap, rfl, hS2, hb2⟩
  have hR2 := H1.out.1.kept hb2 H1.out.1.lt
  have q2 := H1.out.2.trans (hb2.mono H1.out.2.size)
  have hsz2 : w.heap.size < w2.heap.size := hR2.lt
  have H2 := Lib.hid (And.intro hR2 (And.intro q2 hS2))
  clear hS2 hb2 hR2 q2 H1 HW C28
  by_cases h20 : n = 20
  · subst h20
    have hwl : ws.length = 20 := HN.out.symm
    obtain ⟨b, off, rfl, hw2⟩ := H2.out.2.2.wrow hwl
    have hbw : b < w2.heap.size := hw2.lt
    have HWL := Lib.hid hwl
    have HBW := Lib.hid (And.intro hbw hsz2)
    have H3 := Lib.hid (And.intro H2.out.1 (And.intro hw2 H2.out.2.1))
    have HO3 : Hid (w2.ownsRow w2.heap.size 22 1 (.slice none 0 0) 0 (uvals ([] : List Int))) := Lib.hid (World.ownsRow_nil w2 w2.heap.size 22 1)
    clear hw2 hwl hbw hsz2 H2
    go_wp2_with fail
    go_loopw [5, 6] (fun v i wr => ∃ k : Nat, k ≤ 10 ∧ i = .int .i64 (k : Int) ∧ Hid (Below w2.heap.size w2 wr) ∧ Hid (wr.ownsRow w2.heap.size 22 1 v k (uvals ((nums ws).take k)))) (fun _ i _ => 10 - (intOf i).toNat)
    case atStart => exact ⟨0, by omega, by go_num, Lib.hid (Below.refl _ _), HO3⟩
    case round =>
      obtain ⟨k, hk, rfl, HR, HO⟩ := hrel
      by_cases hlt : k < 10
      · have hW := H3.out.2.1.kept HR.out HBW.out.1
        have c2 := hW (2 * k + 1) (by omega)
        obtain ⟨y, hy⟩ : ∃ y, y = mkS (ws.getD (2 * k + 1) []) := ⟨_, rfl⟩
        rw [← hy] at c2
        have HY := Lib.hid hy
        clear hW hy
        go_wp2_with fail
        refine (rdRW_at ws k y HY.out _).mono ?_
        rintro e w4 ⟨rfl, hb4⟩
        obtain ⟨t, ht⟩ := tupR_num ws k
        rw [ht]
        obtain ⟨U, hU⟩ : ∃ U, U = numAt ws k := ⟨_, rfl⟩
        rw [← hU]
        have hO4 := own_below HO.out hb4
        have q4 := HR.out.trans (hb4.mono HR.out.size)
        obtain ⟨v', w5, hrun, ho5, hb5, _⟩ := appU U hO4 q4.size (by omega)
        have e5 : (nums ws).take k ++ [U] = (nums ws).take (k + 1) := by
          rw [List.take_add_one, List.getElem?_eq_getElem (by rw [nums_len]; exact hlt), nums_get ws k hlt, hU]
          rfl
        rw [e5] at ho5
        have HRUN := Lib.hid hrun
        have HO5 := Lib.hid ho5
        have HR5 := Lib.hid (q4.trans hb5)
        clear ht hU hO4 q4 hrun ho5 hb5 e5 hb4 HR HO c2 HY HO3
        go_wp2_with (at_builtin; refine append_run rfl (.tmp 30) (.tmp 32) 34 rfl rfl rfl HRUN.out ?_)
        go_round
        case rel => exact ⟨k + 1, by omega, by go_num, HR5, HO5⟩
        case measure => simp only [intOf]; omega
      · obtain rfl : k = 10 := by omega
        have e10 : (nums ws).take 10 = nums ws := by rw [List.take_of_length_le]; rw [nums_len]; omega
        have hO := HO.out
        rw [e10] at hO
        obtain ⟨g, cap2, rfl, hcap2, _, hT⟩ := owns_ten hO rfl
        have hR6 := H3.out.1.kept HR.out HBW.out.2
        have q6 := H3.out.2.2.trans (HR.out.mono (Nat.le_of_lt HBW.out.2))
        have H6 := Lib.hid (And.intro hR6 (And.intro q6 hT))
        clear e10 hO hR6 q6 hT HR HO HO3
        go_wp2_with fail
        refine (rof_at (nums ws) (nums_len ws) g cap2 hcap2 _ H6.out.2.2).mono ?_
        rintro e w7 ⟨rfl, hb7⟩
        have hR7 := H6.out.1.kept hb7 H6.out.1.lt
        have q7 := H6.out.2.1.trans (hb7.mono H6.out.2.1.size)
        have hb8 := (Below.refl w7.heap.size w7).alloc (Nat.le_refl _) (.cells (ca (nums ws)) 24)
        have hR8 := hR7.kept hb8 hR7.lt
        have hC8 := row_alloc w7 (nums ws)
        have q8 := q7.trans (hb8.mono q7.size)
        obtain ⟨w8, hw8⟩ : ∃ w8, w8 = w7.alloc (.cells (ca (nums ws)) 24) := ⟨_, rfl⟩
        obtain ⟨b8, hb8e⟩ : ∃ b8, b8 = w7.heap.size := ⟨_, rfl⟩
        rw [← hw8] at hR8 hC8 q8
        rw [← hb8e] at hC8
        have H8 := Lib.hid (And.intro hR8 (And.intro hC8 q8))
        have HW8 := Lib.hid (And.intro hw8 hb8e)
        clear hb7 hR7 q7 hb8 hR8 hC8 q8 hw8 hb8e H6 hcap2
        go_wp2_with (first | fail | (refine st24n rfl (.tmp 9) (.tmp 35) rfl _ (nums_len ws) rfl rfl _ rfl ?_; rw [← HW8.out.1, ← HW8.out.2]) | refine ld24 rfl (.tmp 9) rfl _ rfl _ H8.out.2.1 (nums_len ws) ?_)
        refine (rprn_at (nums ws) (nums_len ws) (nums_u64 ws) _).mono ?_
        rintro e w9 ⟨rfl, hb9⟩
        have hR9 := H8.out.1.kept hb9 H8.out.1.lt
        have hC9 := H8.out.2.1.kept hb9 H8.out.2.1.lt
        have q9 := H8.out.2.2.trans (hb9.mono H8.out.2.2.size)
        have H9 := Lib.hid (And.intro hR9 (And.intro hC9 q9))
        clear hb9 hR9 hC9 q9 H8 HW8
        obtain ⟨T, hT⟩ : ∃ T, T = ptx (nums ws) := ⟨_, rfl⟩
        rw [← hT]
        by_cases hs : T = s
        · have HG : Hid (Good ws) := Lib.hid (HGI.out.2 ⟨HWL.out, by rw [← hT]; exact hs⟩)
          subst hs
          have heq := bl_eq T
          clear hT
          go_wp2_with (first | fail | refine ld24 rfl (.tmp 9) rfl _ rfl _ H9.out.2.1 (nums_len ws) ?_ | refine st24 rfl (.tmp 2) (.tmp 41) rfl _ _ rfl rfl _ H9.out.1 rfl (nums_len ws) ?_)
          refine bodyPost_ret (results_cnt2 rfl _ _ _ _ rfl H9.out.1.rowSet (nums_len ws)) rfl ?_
          exact ⟨.inl ⟨HG.out, rfl⟩, below_setRow H9.out.2.2 (Nat.le_refl _)⟩
        · have HG : Hid (¬ Good ws) := Lib.hid (fun h => hs (by rw [hT]; exact (HGI.out.1 h).2))
          have hne := bl_ne hs
          clear hT
          go_wp2_with (first | fail | refine st24 rfl (.tmp 2) (.tmp 40) rfl _ zs rfl rfl _ H9.out.1 rfl rfl ?_)
          refine bodyPost_ret (results_cnt2 rfl _ _ _ _ rfl H9.out.1.rowSet rfl) rfl ?_
          exact ⟨.inr ⟨HG.out, rfl⟩, below_setRow H9.out.2.2 (Nat.le_refl _)⟩
  · have hne : ¬ (n : Int) = 20 := by omega
    have hG : ¬ Good ws := fun h => h20 (by rw [HN.out]; exact h.1)
    go_wp2_with (refine st24 rfl (.tmp 2) (.tmp 15) rfl _ zs rfl rfl _ H2.out.1 rfl rfl ?_)
    refine bodyPost_ret (results_cnt2 rfl _ _ _ _ rfl H2.out.1.rowSet rfl) rfl ?_
    exact ⟨.inr ⟨hG, rfl⟩, below_setRow H2.out.2.1 (Nat.le_refl _)⟩
end Go.Proofs.YthgecgehelnadaaDoor
