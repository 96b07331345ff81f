/-
  Counts read: Read.
-/
import Derived.Test.YthgecgehelnadaaDoorReadM
import Derived.Test.YthgecgehelnadaaDoorOfLaw
import Derived.Test.YthgecgehelnadaaDoorDWords
namespace Go.Proofs.YthgecgehelnadaaDoor
open Go.Shelf Go.RowKit Go.Sort
open Go.Lib hiding intOf
set_option linter.unusedVariables false
/-- twenty words -/
def WRow (w : World) (b off : Nat) (ws : List (List UInt8)) : Prop := ∀ j, j < 20 → w.cell? ⟨b, off + j, none⟩ = some (.string (mkS (ws.getD j [])))
theorem WRow.kept {w w' : World} {b off B : Nat} {ws : List (List UInt8)} (h : WRow w b off ws) (hb : Below B w w') (hB : b < B) : WRow w' b off ws := fun j hj => by
  rw [hb.cell (by exact hB)]; exact h j hj
theorem WRow.lt {w : World} {b off : Nat} {ws : List (List UInt8)} (h : WRow w b off ws) : b < w.heap.size := by exact Lib.lt_of_cell (h 0 (by omega))
theorem WRow.other {w : World} {b off : Nat} {ws : List (List UInt8)} {p : Addr} {v : Value} (h : WRow w b off ws) (hne : b ≠ p.block) : WRow (w.setCell p v) b off ws := fun j hj => by
  rw [World.cell?_setCell_other (a := p) (b := ⟨b, off + j, none⟩) (h := fun e => hne (by rw [e]))]; exact h j hj
theorem SRow.wrow {w : World} {A : Option Addr} {ws : List (List UInt8)} (h : SRow w A ws) (hl : ws.length = 20) : ∃ b off, A = some ⟨b, off, none⟩ ∧ WRow w b off ws := by
  rcases h with e | ⟨b, off, e, h⟩
  · rw [e] at hl; cases hl
  · exact ⟨b, off, e, fun j hj => by rw [h j (by omega), getD_of (by omega)]⟩
theorem NmRow.other {w : World} {b : Nat} {l : List (List UInt8)} {p : Addr} {v : Value} (h : NmRow w b l) (hne : b ≠ p.block) : NmRow (w.setCell p v) b l := by
  unfold NmRow at h ⊢
  rw [Below.heap_setCell w p v b hne]
  exact h
theorem rdW_at (ws : List (List UInt8)) (k : Nat) (y : ByteArray) (hy : y = mkS (ws.getD (2 * k + 1) [])) (hs : y.size ≤ 1000000) (w : World) (he : Env w) : Calls Tryd.prog 27 #[.string y] w fun e w' => e = .returned (tupR (rdAt ws k)) ∧ Below w.heap.size w w' := by
  have := read_at y hs w he
  rw [hy, mkS_list] at this
  rw [hy]
  exact this
def RdPost (ws : List (List UInt8)) (w : World) (e : Ending) (w' : World) : Prop := ((Good ws ∧ e = .returned (.tuple #[cv (nums ws), .bool true])) ∨ (¬ Good ws ∧ e = .returned (.tuple #[cv zs, .bool false]))) ∧ Below w.heap.size w w'
def sndf (_ y : Int) : Int := y
theorem words_small (s : ByteArray) (i : Nat) : ((wds s.data.toList).getD i []).length ≤ s.size := by
  by_cases h : i < (wds s.data.toList).length
  · rw [getD_of h]
    have hj := wds_join s.data.toList
    have : ∀ (l : List (List UInt8)) (x : List UInt8), x ∈ l → x.length ≤ (join l [32]).length := by
      intro l x hx
      have h1 : x.length ≤ lens l := by
        induction l with
        | nil => cases hx
        | cons a r ih =>
          have e : lens (a :: r) = a.length + lens r := by simp [lens]
          rcases List.mem_cons.1 hx with rfl | hx
          · omega
          · have := ih hx; omega
      cases l with
      | nil => cases hx
      | cons a r =>
        rw [join_length]
        omega
    have := this _ _ (List.getElem_mem h)
    rw [hj, size_list] at this
    exact this
  · rw [List.getD_eq_getElem?_getD, List.getElem?_eq_none (by omega)]
    simp
set_option maxHeartbeats 1000000 in
set_option maxRecDepth 100000 in
theorem read19_at (s : ByteArray) (hs : s.size ≤ 100000) (w : World) (he : Env w) : Calls Tryd.prog 19 #[.string s] w (RdPost (wds s.data.toList) w) := by
  obtain ⟨ws, hws⟩ : ∃ ws, ws = wds s.data.toList := ⟨_, rfl⟩
  obtain ⟨n, hn⟩ : ∃ n, n = ws.length := ⟨_, rfl⟩
  have hsm : ∀ i, (mkS (ws.getD i [])).size ≤ 1000000 := fun i => by
    rw [mkS_size, hws]
    have := words_small s i
    omega
  have c26 : ∀ V : World, Env V → Calls Tryd.prog 26 #[.string s] V fun e w' => ∃ A cap, e = .returned (.slice A n cap) ∧ SRow w' A ws ∧ Below V.heap.size V w' := fun V hV => by
    rw [hws]
    exact words_row s (by omega) n (by rw [hn, hws]) V hV
  rw [← hws]
  have hR := row_alloc w zs
  have q1 := (Below.refl w.heap.size w).alloc (Nat.le_refl _) (.cells (ca zs) 24)
  have hE1 := he.kept q1
  obtain ⟨w1, hw1⟩ : ∃ w1, w1 = w.alloc (.cells (ca zs) 24) := ⟨_, rfl⟩
  rw [← hw1] at hR q1 hE1
  have HW := Lib.hid hw1
  have H1 := Lib.hid (And.intro hR (And.intro q1 hE1))
  have HN := Lib.hid hn
  have HSM := Lib.hid hsm
  have C26 := Lib.hid (c26 w1 hE1)
  clear hws hn hsm c26 hR q1 hE1 hw1 hs
  have HE := Lib.hid he
  clear he
  go_enter Tryd.func19, Tryd.ntmps19
  go_wp2_with fail
  have hA : w.alloc (.cells #[.int .u64 0, .int .u64 0, .int .u64 0, .int .u64 0, .int .u64 0, .int .u64 0, .int .u64 0, .int .u64 0, .int .u64 0, .int .u64 0] 24) = w1 := HW.out.symm
  rw [hA]
  clear hA
  refine C26.out.mono ?_
  rintro e w2 ⟨A, cap, rfl, hS2, hb2⟩
  have hR2 := H1.out.1.kept hb2 H1.out.1.lt
  have q2 := H1.out.2.1.trans (hb2.mono H1.out.2.1.size)
  have H2 := Lib.hid (And.intro hR2 (And.intro q2 hS2))
  clear hS2 hb2 hR2 q2 H1 HW C26
  by_cases h20 : n = 20
  · subst h20
    have hwl : ws.length = 20 := HN.out.symm
    obtain ⟨b, off, rfl, hw2⟩ := H2.out.2.2.wrow hwl
    have HWL := Lib.hid hwl
    have hb1 := (Below.refl w2.heap.size w2).alloc (Nat.le_refl _) (.cells (ca zs) 24)
    have hR3 := H2.out.1.kept hb1 H2.out.1.lt
    have hC3 := row_alloc w2 zs
    have hW3 := hw2.kept hb1 hw2.lt
    have q3 := H2.out.2.1.trans (hb1.mono H2.out.2.1.size)
    obtain ⟨b1, hb1e⟩ : ∃ b1, b1 = w2.heap.size := ⟨_, rfl⟩
    have hbb : b < b1 := by rw [hb1e]; exact hw2.lt
    have hb0 : w.heap.size < b1 := by rw [hb1e]; exact H2.out.1.lt
    obtain ⟨w3, hw3⟩ : ∃ w3, w3 = w2.alloc (.cells (ca zs) 24) := ⟨_, rfl⟩
    rw [← hw3] at hR3 hC3 hW3 q3
    rw [← hb1e] at hC3
    have H3 := Lib.hid (And.intro hR3 (And.intro hC3 (And.intro hW3 q3)))
    have HB := Lib.hid (And.intro hbb hb0)
    have HW3 := Lib.hid (And.intro hw3 hb1e)
    clear hw2 hb1 hR3 hC3 hW3 q3 hw3 hb1e hbb hb0 hwl H2
    go_wp2_with fail
    have hA : w2.alloc (.cells #[.int .u64 0, .int .u64 0, .int .u64 0, .int .u64 0, .int .u64 0, .int .u64 0, .int .u64 0, .int .u64 0, .int .u64 0, .int .u64 0] 24) = w3 := HW3.out.1.symm
    rw [hA, ← HW3.out.2]
    clear hA
    refine (fields_at b1 _).mono ?_
    rintro e w4 ⟨rfl, hb4⟩
    obtain ⟨hR3, hC3, hW3, q3⟩ := H3.out
    have hR4 := hR3.kept hb4 hR3.lt
    have hC4 := hC3.kept hb4 hC3.lt
    have hW4 := hW3.kept hb4 hW3.lt
    have q4 := q3.trans (hb4.mono q3.size)
    have hb5 := (Below.refl w4.heap.size w4).alloc (Nat.le_refl _) (.cells (pa b1) 48)
    have hR5 := hR4.kept hb5 hR4.lt
    have hC5 := hC4.kept hb5 hC4.lt
    have hW5 := hW4.kept hb5 hW4.lt
    have hP5 := prow_alloc w4 b1
    have q5 := q4.trans (hb5.mono q4.size)
    obtain ⟨p, hp⟩ : ∃ p, p = w4.heap.size := ⟨_, rfl⟩
    have hbp : b1 < p := by rw [hp]; exact hC4.lt
    obtain ⟨w5, hw5⟩ : ∃ w5, w5 = w4.alloc (.cells (pa b1) 48) := ⟨_, rfl⟩
    rw [← hw5] at hR5 hC5 hW5 hP5 q5
    rw [← hp] at hP5
    have H5 := Lib.hid (And.intro hR5 (And.intro hC5 (And.intro hW5 (And.intro hP5 q5))))
    have HP := Lib.hid hbp
    have HW5 := Lib.hid (And.intro hw5 hp)
    clear hb4 hR3 hC3 hW3 q3 hR4 hC4 hW4 q4 hb5 hR5 hC5 hW5 hP5 q5 hp hbp hw5 H3 HW3
    go_wp2_with (first | fail | (refine st48 rfl (.tmp 6) (.tmp 17) rfl b1 rfl rfl _ rfl ?_; rw [← HW5.out.1, ← HW5.out.2]))
    refine (names_some _).mono ?_
    rintro e w6 ⟨nb, rfl, hn6, hb6⟩
    obtain ⟨hR5, hC5, hW5, hP5, q5⟩ := H5.out
    have hR6 := hR5.kept hb6 hR5.lt
    have hC6 := hC5.kept hb6 hC5.lt
    have hW6 := hW5.kept hb6 hW5.lt
    have hP6 := hP5.kept hb6 hP5.lt
    have q6 := q5.trans (hb6.mono q5.size)
    obtain ⟨l, hl⟩ : ∃ l, l = nms := ⟨_, rfl⟩
    have HL := Lib.hid hl
    have HLL : Hid (l.length = 10) := Lib.hid (by rw [hl]; rfl)
    rw [← hl] at hn6
    have hnb : nb ≠ b1 := fun e => by
      unfold RowAt at hC6
      unfold NmRow at hn6
      rw [e, hC6] at hn6
      injection hn6 with h
      injection h with h1 h2
      cases h2
    have HNB := Lib.hid hnb
    have H6 := Lib.hid (And.intro hR6 (And.intro hC6 (And.intro hW6 (And.intro hP6 (And.intro hn6 q6)))))
    clear hb6 hR5 hC5 hW5 hP5 q5 hR6 hC6 hW6 hP6 hn6 q6 hl hnb H5 HW5
    go_wp2_with fail
    go_loopw [20] (fun i wr => ∃ k : Nat, k ≤ 10 ∧ i = .int .i64 (k : Int) ∧ Hid (RowAt wr w.heap.size zs ∧ RowAt wr b1 (mx sndf zs (nums ws) k) ∧ WRow wr b off ws ∧ PRow wr p b1 ∧ NmRow wr nb l ∧ Below w.heap.size w wr) ∧ Hid (∀ j, j < k → okAt ws j)) (fun i _ => 10 - (intOf i).toNat)
    case atStart => exact ⟨0, by omega, by go_num, by rw [mx_zero]; exact H6, Lib.hid (fun j hj => absurd hj (by omega))⟩
    case round =>
      obtain ⟨k, hk, rfl, HR, HK⟩ := hrel
      by_cases hlt : k < 10
      · obtain ⟨hR, hC, hW, hP, hN, q⟩ := HR.out
        have hkl : k < l.length := by have := HLL.out; omega
        have c1 := hN.cell k hkl
        have c2 := hW (2 * k + 1) (by omega)
        have c3 := hW (2 * k) (by omega)
        have c4 := hP.cell k hlt
        obtain ⟨x, hx⟩ : ∃ x, x = mkS l[k] := ⟨_, rfl⟩
        obtain ⟨y, hy⟩ : ∃ y, y = mkS (ws.getD (2 * k + 1) []) := ⟨_, rfl⟩
        obtain ⟨z, hz⟩ : ∃ z, z = mkS (ws.getD (2 * k) []) := ⟨_, rfl⟩
        rw [← hx] at c1
        rw [← hy] at c2
        rw [← hz] at c3
        have HX := Lib.hid (And.intro hx (And.intro hy hz))
        clear hR hC hW hP hN q hx hy hz H6
        go_wp2_with fail
        refine (rdW_at ws k y HX.out.2.1 (by rw [HX.out.2.1]; exact HSM.out _) _ (HE.out.kept HR.out.2.2.2.2.2)).mono ?_
        rintro e w7 ⟨rfl, hb7⟩
        obtain ⟨hR, hC, hW, hP, hN, q⟩ := HR.out
        have hW7 := hW.kept hb7 hW.lt
        have hP7 := hP.kept hb7 hP.lt
        have d3 := hW7 (2 * k) (by omega)
        rw [← HX.out.2.2] at d3
        have d4 := hP7.cell k hlt
        have H7 := Lib.hid (And.intro (hR.kept hb7 hR.lt) (And.intro (hC.kept hb7 hC.lt) (And.intro hW7 (And.intro hP7 (And.intro (hN.kept hb7 hN.lt) (And.intro (q.trans (hb7.mono q.size)) trivial))))))
        clear hR hC hW hP hN q hW7 hP7 hb7 c1 c2 c3 c4 HR
        cases hrd : rdAt ws k with
        | none =>
          have HG : Hid (¬ Good ws) := Lib.hid (fun h => by have := (h.2 k hlt).2; rw [hrd] at this; cases this)
          clear hrd
          dsimp only [tupR]
          go_wp2_with (first | fail | refine st24 rfl (.tmp 2) (.tmp 46) rfl _ zs rfl rfl _ H7.out.1 rfl rfl ?_)
          refine bodyPost_ret (results_cnt2 rfl _ _ _ _ rfl H7.out.1.rowSet rfl) rfl ?_
          exact ⟨.inr ⟨HG.out, rfl⟩, below_setRow H7.out.2.2.2.2.2.1 (Nat.le_refl _)⟩
        | some u =>
          have hnum : numAt ws k = (u : Int) := by rw [numAt, hrd]; rfl
          obtain ⟨U, hU⟩ : ∃ U : Int, U = (u : Int) := ⟨_, rfl⟩
          have HU : Hid (numAt ws k = U) := Lib.hid (by rw [hnum, hU])
          have HRD : Hid ((rdAt ws k).isSome = true) := Lib.hid (by rw [hrd]; rfl)
          dsimp only [tupR]
          rw [← hU]
          clear hrd hnum hU
          by_cases hxz : z = x
          · have HOK : Hid (okAt ws k) := Lib.hid ⟨by
              have h1 := HX.out.1
              rw [← hxz, HX.out.2.2] at h1
              have h2 := congrArg (fun b : ByteArray => b.data.toList) h1
              simp only [mkS_list] at h2
              rw [h2, getD_of (l := nms) hlt]
              have : ∀ (l' : List (List UInt8)) (h : l' = nms) (h1 : k < l'.length), l'[k] = nms[k]'hlt := fun l' h h1 => by subst h; rfl
              exact this l HL.out _, HRD.out⟩
            subst hxz
            have c2 := H7.out.2.1.cell k (by rw [mx_len sndf zs (nums ws) (by rw [nums_len]; rfl) k (by show k ≤ 10; omega)]; exact hlt)
            have f2 := H7.out.2.1.free k
            obtain ⟨v0, hv0⟩ : ∃ v0, w7.cell? ⟨b1, k, none⟩ = some v0 := ⟨_, c2⟩
            have heq := bl_eq z
            have hC8 := H7.out.2.1.set k U
            have e8 : (mx sndf zs (nums ws) k).set k U = mx sndf zs (nums ws) (k + 1) := by
              rw [mx_succ sndf zs (nums ws) (by rw [nums_len]; rfl) k hlt]
              congr 1
              rw [← HU.out]
              show _ = (nums ws)[k]'_
              rw [nums_get ws k hlt]
            rw [e8] at hC8
            have hR8 := H7.out.1.cellOther (p := ⟨b1, k, none⟩) (v := .int .u64 U) (by have := HB.out.2; simp; omega)
            have hW8 := H7.out.2.2.1.other (p := ⟨b1, k, none⟩) (v := .int .u64 U) (by have := HB.out.1; simp; omega)
            have hP8 := H7.out.2.2.2.1.cellOther (p := ⟨b1, k, none⟩) (v := .int .u64 U) (by have := HP.out; simp; omega)
            have hN8 := H7.out.2.2.2.2.1.other (p := ⟨b1, k, none⟩) (v := .int .u64 U) (by have := HNB.out; simpa using this)
            have q8 := H7.out.2.2.2.2.2.1.setCell (p := ⟨b1, k, none⟩) (by have := HB.out.2; show w.heap.size ≤ b1; omega) (.int .u64 U)
            have H8 := Lib.hid (And.intro hR8 (And.intro hC8 (And.intro hW8 (And.intro hP8 (And.intro hN8 q8)))))
            have HK8 : Hid (∀ j, j < k + 1 → okAt ws j) := Lib.hid (fun j hj => by
              rcases Nat.lt_succ_iff_lt_or_eq.1 hj with h | rfl
              · exact HK.out j h
              · exact HOK.out)
            clear c2 hC8 e8 hR8 hW8 hP8 hN8 q8 H7 HOK HRD HU HX
            go_wp2
            go_round
            case rel => exact ⟨k + 1, by omega, by go_num, H8, HK8⟩
            case measure => simp only [intOf]; omega
          · have hne := bl_ne hxz
            have HG : Hid (¬ Good ws) := Lib.hid (fun h => hxz (by
              have h1 := (h.2 k hlt).1
              rw [HX.out.2.2, HX.out.1, h1, getD_of (l := nms) hlt]
              congr 1
              have : ∀ (l' : List (List UInt8)) (h : l' = nms) (h1 : k < l'.length), l'[k] = nms[k]'hlt := fun l' h h1 => by subst h; rfl
              exact (this l HL.out _).symm))
            go_wp2_with (first | fail | refine st24 rfl (.tmp 2) (.tmp 46) rfl _ zs rfl rfl _ H7.out.1 rfl rfl ?_)
            refine bodyPost_ret (results_cnt2 rfl _ _ _ _ rfl H7.out.1.rowSet rfl) rfl ?_
            exact ⟨.inr ⟨HG.out, rfl⟩, below_setRow H7.out.2.2.2.2.2.1 (Nat.le_refl _)⟩
      · obtain rfl : k = 10 := by omega
        obtain ⟨hR, hC, hW, hP, hN, q⟩ := HR.out
        have e10 : mx sndf zs (nums ws) 10 = nums ws := by
          have h1 := mx_all sndf zs (nums ws) (by rw [nums_len]; rfl)
          rw [show zs.length = 10 from rfl] at h1
          rw [h1]
          refine List.ext_getElem (by simp [nums_len, zs]) fun i h1 h2 => ?_
          rw [List.getElem_zipWith]
          rfl
        rw [e10] at hC
        have HG : Hid (Good ws) := Lib.hid ⟨HWL.out, HK.out⟩
        have HF := Lib.hid (And.intro hR (And.intro hC q))
        clear hR hC hW hP hN q e10 HR HK H6
        go_wp2_with (first | refine ld24 rfl (.tmp 5) rfl _ rfl _ HF.out.2.1 (nums_len ws) ?_ | refine st24 rfl (.tmp 2) (.tmp 53) rfl _ _ rfl rfl _ HF.out.1 rfl (nums_len ws) ?_)
        refine bodyPost_ret (results_cnt2 rfl _ _ _ _ rfl HF.out.1.rowSet (nums_len ws)) rfl ?_
        exact ⟨.inl ⟨HG.out, rfl⟩, below_setRow HF.out.2.2 (Nat.le_refl _)⟩
  · have hne : ¬ (n : Int) = 20 := by omega
    have hG : ¬ Good ws := fun h => h20 (by rw [HN.out]; exact h.1)
    go_wp2_with (refine st24 rfl (.tmp 2) (.tmp 16) rfl _ zs rfl rfl _ H2.out.1 rfl rfl ?_)
    refine bodyPost_ret (results_cnt2 rfl _ _ _ _ rfl H2.out.1.rowSet rfl) rfl ?_
    exact ⟨.inr ⟨hG, rfl⟩, below_setRow H2.out.2.1 (Nat.le_refl _)⟩
end Go.Proofs.YthgecgehelnadaaDoor
