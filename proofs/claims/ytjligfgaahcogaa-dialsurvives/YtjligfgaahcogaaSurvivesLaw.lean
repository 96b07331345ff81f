/-
  The walk of the law that a hand survives its node.
-/
import Derived.Test.YtjligfgaahcogaaAdds
namespace Go.Proofs.Ytjligfgaahcogaa
open Go.ChangeShapes Go.WideShapes Go.ChangeAt Go.RowKit
set_option linter.unusedVariables false
set_option maxRecDepth 100000

theorem hs_two {D : Dl} (h : D.hs.length = 2) : ∃ h0 h1, D.hs = [h0, h1] := by
  match hh : D.hs, h with
  | [a, b], _ => exact ⟨a, b, rfl⟩
theorem gap_two {D : Dl} {h0 h1 : Nat} (h : D.hs = [h0, h1]) (hl : D.l ≠ []) : D.gap 0 1 = (h1 + D.l.length - h0) % D.l.length := by
  unfold Dl.gap
  rw [h, if_neg]
  · rfl
  · rintro (e | e)
    · have e : (inN 2 0 && inN 2 1) = false := e
      exact absurd e (by decide)
    · exact hl e
theorem around_two {D : Dl} {h0 h1 : Nat} (h : D.hs = [h0, h1]) : D.around 0 = rot D.l h0 := Dl.around_at (i := 0) (by rw [h]; rfl)
theorem at_two {D : Dl} {h0 h1 : Nat} (h : D.hs = [h0, h1]) (k : Nat) : (D.at_ 0 k).hs = [k, h1] := by simp [Dl.at_, h]

theorem at_self {D : Dl} {h0 h1 : Nat} (h : D.hs = [h0, h1]) : D.at_ 0 h0 = D := by
  cases D
  simp only at h
  simp [Dl.at_, h]
theorem at_again (D : Dl) (i a b : Nat) : (D.at_ i a).at_ i b = D.at_ i b := by simp [Dl.at_]
/-- what a hand meets: at the step j the node t[j] -/
theorem meets {w : World} {lo b gL gH : Nat} {D : Dl} {r0 r1 m j y : Nat} {t : List Nat} (h : IsD w lo b gL gH (D.at_ 0 ((r0 + j) % m))) (hh : D.hs = [r0, r1]) (ht : rot D.l r0 = t) (hm : D.l.length = m) (hr : r0 < m) (hj : t[j % m]? = some y) :
    Calls Try.prog 20 #[.pointer (some ⟨b, 0, none⟩), .int .i64 0] w fun e w' => e = .returned (.tuple #[.int .i32 (y : Int), .bool true]) ∧ w = w' := by
  have h1 := at_is h 0
  rw [around_two (at_two hh _)] at h1
  have hm0 : 0 < m := by omega
  subst hm
  subst ht
  rw [rot_get hr _ (Nat.mod_lt _ hm0)] at hj
  have e : (r0 + j % D.l.length) % D.l.length = (r0 + j) % D.l.length := by rw [Nat.add_mod_mod]
  rw [e] at hj
  rw [show (D.at_ 0 ((r0 + j) % D.l.length)).l = D.l from rfl, rot_head hj] at h1
  exact h1
theorem steps {w : World} {lo b gL gH : Nat} {D : Dl} {r0 r1 m j : Nat} (h : IsD w lo b gL gH (D.at_ 0 ((r0 + j) % m))) (hh : D.hs = [r0, r1]) (hm : D.l.length = m) (hr : r0 < m) :
    Calls Try.prog 14 #[.pointer (some ⟨b, 0, none⟩), .int .i64 0] w (DPost w lo b gL gH (D.at_ 0 ((r0 + (j + 1)) % m)) (.bool true)) := by
  have h1 := step_is h (i := 0) (k := (r0 + j) % m) (by rw [at_two hh]; rfl) (fun e => by have e : D.l = [] := e; rw [e] at hm; simp at hm; omega)
  rw [at_again, show (D.at_ 0 ((r0 + j) % m)).l = D.l from rfl, hm, mod_next] at h1
  exact h1
theorem NRow.cap {lo : Nat} {w : World} {A : Option Addr} {n cap : Nat} {l : List Nat} (h : NRow lo w (.slice A n cap) l) : n = l.length ∧ l.length ≤ cap := by
  obtain ⟨A', cap', hv, h1, _⟩ := h
  injection hv with e1 e2 e3
  subst e3
  exact ⟨e2, h1⟩
set_option maxHeartbeats 4000000 in
theorem surv_walk (A : Option Addr) (len cap st : Nat) (zs : List Nat) (w : World) (hlen : zs.length = len) (hz : ∀ x ∈ zs, x < 256) (hr : BRow w A zs) (hst : st < 256) (h60 : len ≤ 60) :
    Calls Try.prog 4 #[.slice A len cap, .int .u8 (st : Int)] w fun e w' => e = .returned (.bool true) ∧ w.grownBy w' none := by
  have hd : decide (60 < (len : Int)) = false := by simp; omega
  have hd' : decide (60 < len) = false := by simp; omega
  have c0 : Calls Try.prog 7 #[.int .i64 256, .int .i64 2] w fun e w' => ∃ gL gH, e = .returned (.tuple #[.pointer (some ⟨w.heap.size + 2, 0, none⟩), .int .i64 0]) ∧ IsD w' w.heap.size (w.heap.size + 2) gL gH (Dl.new 256 2) ∧ w.grownBy w' none ∧ w'.heap.size = w.heap.size + 3 := new_is 256 2 w (by decide) (by decide) (by decide)
  have Hlen := Lib.hid hlen
  have HZ := Lib.hid hz
  have HB := Lib.hid hr
  have hws : IntKind.i64.wrap (st : Int) = (st : Int) := by rw [IntKind.wrap_i64]; omega
  clear hlen hz hr
  go_enter Try.func4, Try.ntmps4
  go_wp2_with fail
  refine c0.mono ?_
  rintro e w1 ⟨gL, gH, rfl, hs, hg, _⟩
  have HG1 := Lib.hid hg
  have HS1 := Lib.hid hs
  have HL := Lib.hid hs.los
  clear hs hg c0
  go_wp2_with fail
  -- the nodes come in
  go_loopw [37] (fun k wr => ∃ (k' : Nat) (D : Dl), k' ≤ len ∧ k = .int .i64 (k' : Int) ∧ Hid (IsD wr w.heap.size (w.heap.size + 2) gL gH D) ∧ Hid (D.N = 256 ∧ D.hs.length = 2 ∧ D.l.length ≤ k' ∧ (k' ≠ 0 → D.l ≠ [])) ∧ Hid (w.grownBy wr none)) (fun k _ => len - (intOf k).toNat)
  case atStart => exact ⟨0, Dl.new 256 2, by omega, by go_num, HS1, Lib.hid ⟨rfl, rfl, Nat.le_refl _, fun h => absurd rfl h⟩, HG1⟩
  case round =>
    obtain ⟨k, D, hk, rfl, HS2, HD2, HG2⟩ := hrel
    clear HS1 HG1
    by_cases hlt : k < len
    · have hx0 : ¬ zs = [] := by intro e; have := Hlen.out; rw [e] at this; simp at this; omega
      obtain ⟨b1, o1, rfl, hb1, hc1⟩ := HB.out.resolve_left hx0
      obtain ⟨x, Hx⟩ : ∃ x, Hid (zs[k]? = some x) := ⟨_, Lib.hid (List.getElem?_eq_getElem (by rw [Hlen.out]; exact hlt))⟩
      have hcell := HG2.out.cell (hc1 k x Hx.out) (by simp)
      have hx256 : x < 256 := HZ.out x (List.mem_of_getElem? Hx.out)
      have hw32 : IntKind.i32.wrap (x : Int) = (x : Int) := by rw [IntKind.wrap_i32]; omega
      have HC := Lib.hid (insert_any HS2.out (i := 1) (x := x) (by rw [HD2.out.2.1]; omega) (by rw [HD2.out.1]; exact hx256))
      clear hc1 hx0
      go_wp2_with (go_at_call 13; refine HC.out.mono ?_; rintro e w2 ⟨v, D', rfl, hs, hk2, h1, h2, h3, h4⟩; have HS3 := Lib.hid hs; have HG3 := Lib.hid (Kp.grown HG2.out hk2 HL.out.1 HL.out.2.1 HL.out.2.2); have HD3 : Hid (D'.N = 256 ∧ D'.hs.length = 2 ∧ D'.l.length ≤ k + 1 ∧ (k + 1 ≠ 0 → D'.l ≠ [])) := Lib.hid ⟨h1.trans HD2.out.1, h2.trans HD2.out.2.1, Nat.le_trans h3 (Nat.succ_le_succ HD2.out.2.2.1), fun _ => h4⟩; clear hs hk2 h1 h2 h3 h4)
      go_roundw
      case rel => exact ⟨k + 1, D', by omega, by go_num, HS3, HD3, HG3⟩
      case measure => simp [intOf]; omega
    · obtain rfl : k = len := by omega
      go_wp2_with fail
      -- the hand steps
      go_loopw [9] (fun i ws => ∃ (j : Nat) (D : Dl), j ≤ st ∧ i = .int .i64 (j : Int) ∧ Hid (IsD ws w.heap.size (w.heap.size + 2) gL gH D) ∧ Hid (D.N = 256 ∧ D.hs.length = 2 ∧ D.l.length ≤ k ∧ (k ≠ 0 → D.l ≠ [])) ∧ Hid (w.grownBy ws none)) (fun i _ => st - (intOf i).toNat)
      case atStart => exact ⟨0, D, by omega, by go_num, HS2, HD2, HG2⟩
      case round =>
        clear HS2 HG2 HD2
        obtain ⟨j, D, hj, rfl, HS2, HD2, HG2⟩ := hrel
        by_cases hjt : j < st
        · have HC := Lib.hid (step_any HS2.out 0)
          go_wp2_with (go_at_call 14; refine HC.out.mono ?_; rintro e w2 ⟨v, D', rfl, hs, hk2, h1, h2, h3⟩; have HS3 := Lib.hid hs; have HG3 := Lib.hid (Kp.grown HG2.out hk2 HL.out.1 HL.out.2.1 HL.out.2.2); have HD3 : Hid (D'.N = 256 ∧ D'.hs.length = 2 ∧ D'.l.length ≤ k ∧ (k ≠ 0 → D'.l ≠ [])) := Lib.hid ⟨h1.trans HD2.out.1, h2.trans HD2.out.2.1, by rw [h3]; exact HD2.out.2.2.1, by rw [h3]; exact HD2.out.2.2.2⟩; clear hs hk2 h1 h2 h3)
          go_roundw
          case rel => exact ⟨j + 1, D', by omega, by go_num, HS3, HD3, HG3⟩
          case measure => simp [intOf]; omega
        · obtain rfl : j = st := by omega
          clear hlt hjt
          obtain ⟨h0, h1, Hh⟩ : ∃ h0 h1, Hid (D.hs = [h0, h1]) := by
            obtain ⟨h0, h1, hh⟩ := hs_two HD2.out.2.1
            exact ⟨h0, h1, Lib.hid hh⟩
          have c1 : Calls Try.prog 15 #[.pointer (some ⟨w.heap.size + 2, 0, none⟩), .int .i64 0, .int .i64 1000] wr (ToldPost wr (rot D.l h0) 1000) := by
            have := told_is HS2.out 0 1000 (by decide)
            rw [around_two Hh.out] at this
            exact this
          have hll := HD2.out.2.2.1
          go_wp2_with fail
          refine c1.mono ?_
          rintro e w2 ⟨v, rfl, hr, hg⟩
          rw [List.take_of_length_le (by rw [rot_length]; omega)] at hr
          rw [rot_length] at hr
          have HR2 : Hid (NRow wr.heap.size w2 v (rot D.l h0)) := Lib.hid (NRow.of_owns hr (rot_length _ _).symm)
          have HG3 := Lib.hid (grown_trans HG2.out hg)
          have HS3 := Lib.hid (HS2.out.kept hg)
          have HH : Hid (gH < wr.heap.size) := Lib.hid HS2.out.lts.2.2
          obtain ⟨A2, cap2, rfl⟩ := owns_slice hr
          have c2 := len_is HS3.out
          obtain ⟨n, Hn⟩ : ∃ n, Hid (D.l.length = n) := ⟨_, Lib.hid rfl⟩
          rw [Hn.out] at c2 hll HR2 ⊢
          have HC2 := Lib.hid c2
          clear hr hg c1 HS2 HG2 c2
          go_wp2_with fail
          refine HC2.out.mono ?_
          rintro e w' ⟨rfl, rfl⟩
          by_cases hn0 : n = 0
          · subst hn0
            have hk0 : k = 0 := by
              refine Decidable.byContradiction fun hk0 => HD2.out.2.2.2 hk0 (List.eq_nil_of_length_eq_zero Hn.out)
            subst hk0
            go_wp2_with (go_at_call 9; refine (alive_any w2).mono ?_; rintro e w3 ⟨rfl, hg3⟩; have HG4 := Lib.hid (grown_trans HG3.out hg3); clear hg3)
            go_ret
            exact ⟨rfl, HG4.out⟩
          · have hne : ((n : Int) == 0) = false := by simp; omega
            have hne' : (n == 0) = false := by simp; omega
            have HOk := Lib.hid HS3.out.ok
            have Hl0 : Hid (D.l ≠ []) := Lib.hid fun e => by have := Hn.out; rw [e] at this; simp at this; omega
            have hh0 : h0 < n := by
              rcases HOk.out.hh h0 (by rw [Hh.out]; simp) with h | h
              · rw [Hn.out] at h; exact h
              · exact absurd h.1 Hl0.out
            have hh1 : h1 < n := by
              rcases HOk.out.hh h1 (by rw [Hh.out]; simp) with h | h
              · rw [Hn.out] at h; exact h
              · exact absurd h.1 Hl0.out
            obtain ⟨x, Hx⟩ : ∃ x, Hid (D.l[h0]? = some x) := ⟨_, Lib.hid (List.getElem?_eq_getElem (by rw [Hn.out]; exact hh0))⟩
            obtain ⟨t, Ht⟩ : ∃ t, Hid (D.l.drop (h0 + 1) ++ D.l.take h0 = t) := ⟨_, Lib.hid rfl⟩
            rw [rot_head Hx.out, Ht.out] at HR2
            have Htl : Hid (t.length = n - 1) := Lib.hid (by rw [← Ht.out, List.length_append, List.length_drop, List.length_take, Hn.out]; omega)
            obtain ⟨g, Hg⟩ : ∃ g, Hid ((h1 + n - h0) % n = g) := ⟨_, Lib.hid rfl⟩
            have hgn : g < n := by rw [← Hg.out]; exact Nat.mod_lt _ (by omega)
            have c3 : Calls Try.prog 17 #[.pointer (some ⟨w.heap.size + 2, 0, none⟩), .int .i64 0, .int .i64 1] w2 fun e w' => e = .returned (.int .i64 (g : Int)) ∧ w2.grownBy w' none := by
              have := gap_is HS3.out 0 1
              rw [gap_two Hh.out Hl0.out, Hn.out, Hg.out] at this
              exact this
            have HC3 := Lib.hid c3
            clear c3 HC2
            go_wp2_with fail
            refine HC3.out.mono ?_
            rintro e w3 ⟨rfl, hg3⟩
            have HS4 := Lib.hid (HS3.out.kept hg3)
            have HG4 := Lib.hid (grown_trans HG3.out hg3)
            have HR4 := Lib.hid (HR2.out.kept hg3)
            clear hg3 HC3 HS3 HG3 HR2
            obtain ⟨b2, o2, rfl, hcell⟩ := HR4.out.at (i := 0) (x := x) rfl
            simp only [Nat.add_zero] at hcell
            have hn1 : 0 < n := by omega
            have c4 : Calls Try.prog 18 #[.pointer (some ⟨w.heap.size + 2, 0, none⟩), .int .i32 (x : Int)] w3 (DPost w3 w.heap.size (w.heap.size + 2) gL gH (D.rem h0) (.bool true)) := remove_is HS4.out Hx.out
            have HC4 := Lib.hid c4
            clear c4
            go_wp2_with fail
            refine HC4.out.mono ?_
            rintro e w4 ⟨rfl, hs, hk4⟩
            have HS5 := Lib.hid hs
            have HG5 := Lib.hid (Kp.grown HG4.out hk4 HL.out.1 HL.out.2.1 HL.out.2.2)
            have HR5 := Lib.hid (HR4.out.kp hk4 HS4.out.types.1 HS4.out.types.2.1 HH.out)
            clear hs hk4 hcell HC4 HS4 HG4 HR4
            -- the ring without it
            obtain ⟨r0, Hr0⟩ : ∃ r, Hid (remH h0 (n - 1) h0 = r) := ⟨_, Lib.hid rfl⟩
            obtain ⟨r1, Hr1⟩ : ∃ r, Hid (remH h0 (n - 1) h1 = r) := ⟨_, Lib.hid rfl⟩
            have HE : Hid ((D.rem h0).hs = [r0, r1]) := Lib.hid (by unfold Dl.rem; rw [Hh.out, Hn.out]; simp only [List.map_cons, List.map_nil, Hr0.out, Hr1.out])
            have HEl : Hid (rot (D.rem h0).l r0 = t) := Lib.hid (by have := rem_rot Hx.out; rw [Hn.out, Hr0.out, Ht.out] at this; exact this)
            have HEn : Hid ((D.rem h0).l.length = n - 1) := Lib.hid (by have := rem_len (k := h0) (l := D.l) (by rw [Hn.out]; exact hh0); rw [Hn.out] at this; exact this)
            have HEg : Hid (2 ≤ n → (r1 + (n - 1) - r0) % (n - 1) = g - 1) := Lib.hid (fun h2 => by have := rem_gap HOk.out.nd Hx.out (h := h1) (by rw [Hn.out]; exact hh1) (by rw [Hn.out]; exact h2); rw [Hn.out, Hr0.out, Hr1.out, Hg.out] at this; exact this)
            have HEr : Hid (2 ≤ n → r0 < n - 1) := Lib.hid (fun h2 => by rw [← Hr0.out]; exact remH_lt (by omega))
            generalize D.rem h0 = D' at *
            clear HD2 HOk Hl0 hh0 hh1 Hx Ht Hg Hr0 Hr1 Hn Hh
            have c5 : Calls Try.prog 15 #[.pointer (some ⟨w.heap.size + 2, 0, none⟩), .int .i64 0, .int .i64 1000] w4 (ToldPost w4 t 1000) := by
              have := told_is HS5.out 0 1000 (by decide)
              rw [around_two HE.out, HEl.out] at this
              exact this
            have HC5 := Lib.hid c5
            clear c5
            go_wp2_with fail
            refine HC5.out.mono ?_
            rintro e w5 ⟨v5, rfl, hr, hg⟩
            rw [List.take_of_length_le (by rw [Htl.out]; omega)] at hr
            have HO6 : Hid (NRow w4.heap.size w5 v5 t) := Lib.hid (NRow.of_owns hr rfl)
            have HG6 := Lib.hid (grown_trans HG5.out hg)
            have HS6 := Lib.hid (HS5.out.kept hg)
            have HR6 := Lib.hid (HR5.out.kept hg)
            have HH6 : Hid (gH < w4.heap.size) := Lib.hid HS5.out.lts.2.2
            obtain ⟨A5, cap5, rfl⟩ := owns_slice hr
            obtain ⟨m, Hm⟩ : ∃ m, Hid (n - 1 = m) := ⟨_, Lib.hid rfl⟩
            rw [Htl.out, Hm.out] at HO6
            rw [Htl.out, Hm.out]
            have hnm : n = m + 1 := by rw [← Hm.out]; omega
            have hcap : m + 1 ≤ cap2 := by have := HR6.out.cap; omega
            clear hr hg HC5 HS5 HG5 HR5
            subst hnm
            have hN : (cap2 = 0 + 1 → NRow wr.heap.size w5 (.slice (some ⟨b2, o2, none⟩) m 0) t) ∧ ∀ c', cap2 = 0 + 1 + (c' + 1) → NRow wr.heap.size w5 (.slice (some ⟨b2, o2 + 1, none⟩) m (c' + 1)) t := NRow.dropped HR6.out 1 (by simp)
            have hNo : ∀ v, NRow wr.heap.size w5 v t → Calls Try.prog 19 #[.slice A5 m cap5, v] w5 fun e w' => e = .returned (.bool true) ∧ ∃ q, w' = w5.drewN q := by
              intro v hv
              refine (nodes_at _ _ _ _ w5 HO6.out hv (by rw [Htl.out]; omega) (by rw [Htl.out]; omega)).mono ?_
              rintro e w' ⟨rfl, q, rfl⟩
              rw [show decide (t = t) = true from decide_eq_true rfl]
              exact ⟨rfl, q, rfl⟩
            have HN := Lib.hid hN
            have HNo := Lib.hid hNo
            clear hN hNo
            by_cases hm0 : m = 0
            · subst hm0
              have Ht0 : Hid (t = []) := Lib.hid (List.eq_nil_of_length_eq_zero (by rw [Htl.out]))
              by_cases hcc : cap2 = 1
              · subst hcc
                have HNv := Lib.hid (HNo.out _ (HN.out.1 rfl))
                clear HN HNo
                go_wp2_with fail
                refine HNv.out.mono ?_
                rintro e w6 ⟨rfl, q, rfl⟩
                have HS7 := Lib.hid (HS6.out.kept (grown_drewN w5 q none))
                have HG7 := Lib.hid (grown_trans HG6.out (grown_drewN w5 q none))
                clear HNv HS6 HG6 HR6 HO6
                generalize w5.drewN q = w6 at *
                go_wp2_with fail
                go_loopw [110] (fun i ws => i = .int .i64 0 ∧ Hid (IsD ws w.heap.size (w.heap.size + 2) gL gH D') ∧ Hid (w.grownBy ws none)) (fun _ _ => 0)
                case atStart => exact ⟨rfl, HS7, HG7⟩
                case round =>
                  obtain ⟨rfl, HS8, HG8⟩ := hrel
                  clear HS7 HG7
                  have c9 : Calls Try.prog 20 #[.pointer (some ⟨w.heap.size + 2, 0, none⟩), .int .i64 0] wr fun e w' => e = .returned (tupO none) ∧ wr = w' := by
                    have := at_is HS8.out 0
                    rw [around_two HE.out, HEl.out, Ht0.out] at this
                    exact this
                  have HC9 := Lib.hid c9
                  clear c9
                  go_wp2_with fail
                  refine HC9.out.mono ?_
                  unfold tupO
                  rintro e w' ⟨rfl, rfl⟩
                  go_wp2_with (go_at_call 9; refine (alive_any wr).mono ?_; rintro e w9 ⟨rfl, hg9⟩; have HG9 := Lib.hid (grown_trans HG8.out hg9); clear hg9)
                  go_ret
                  exact ⟨rfl, HG9.out⟩
              · obtain ⟨c', rfl⟩ : ∃ c', cap2 = c' + 2 := ⟨cap2 - 2, by omega⟩
                have HNv := Lib.hid (HNo.out _ (HN.out.2 c' (by omega)))
                clear HN HNo
                go_wp2_with fail
                refine HNv.out.mono ?_
                rintro e w6 ⟨rfl, q, rfl⟩
                have HS7 := Lib.hid (HS6.out.kept (grown_drewN w5 q none))
                have HG7 := Lib.hid (grown_trans HG6.out (grown_drewN w5 q none))
                clear HNv HS6 HG6 HR6 HO6
                generalize w5.drewN q = w6 at *
                go_wp2_with fail
                go_loopw [110] (fun i ws => i = .int .i64 0 ∧ Hid (IsD ws w.heap.size (w.heap.size + 2) gL gH D') ∧ Hid (w.grownBy ws none)) (fun _ _ => 0)
                case atStart => exact ⟨rfl, HS7, HG7⟩
                case round =>
                  obtain ⟨rfl, HS8, HG8⟩ := hrel
                  clear HS7 HG7
                  have c9 : Calls Try.prog 20 #[.pointer (some ⟨w.heap.size + 2, 0, none⟩), .int .i64 0] wr fun e w' => e = .returned (tupO none) ∧ wr = w' := by
                    have := at_is HS8.out 0
                    rw [around_two HE.out, HEl.out, Ht0.out] at this
                    exact this
                  have HC9 := Lib.hid c9
                  clear c9
                  go_wp2_with fail
                  refine HC9.out.mono ?_
                  unfold tupO
                  rintro e w' ⟨rfl, rfl⟩
                  go_wp2_with (go_at_call 9; refine (alive_any wr).mono ?_; rintro e w9 ⟨rfl, hg9⟩; have HG9 := Lib.hid (grown_trans HG8.out hg9); clear hg9)
                  go_ret
                  exact ⟨rfl, HG9.out⟩
            · obtain ⟨c', rfl⟩ : ∃ c', cap2 = c' + 2 := ⟨cap2 - 2, by omega⟩
              have HNv := Lib.hid (HNo.out _ (HN.out.2 c' (by omega)))
              clear HN HNo
              go_wp2_with fail
              refine HNv.out.mono ?_
              rintro e w6 ⟨rfl, q, rfl⟩
              have HS7 := Lib.hid (HS6.out.kept (grown_drewN w5 q none))
              have HG7 := Lib.hid (grown_trans HG6.out (grown_drewN w5 q none))
              have HO7 := Lib.hid (HO6.out.kept (grown_drewN w5 q none))
              clear HNv HS6 HG6 HR6 HO6
              generalize w5.drewN q = w6 at *
              have hmd : decide (0 < (m : Int)) = true := by simp; omega
              have hmd' : decide (0 < m) = true := by simp; omega
              have hm1 : ((m : Int) == 0) = false := by simp; omega
              have hm1' : (m == 0) = false := by simp; omega
              have Hml0 : Hid (D'.l ≠ []) := Lib.hid fun e => by have := HEn.out; rw [e, Hm.out] at this; simp at this; omega
              obtain ⟨g1, Hg1⟩ : ∃ g1, Hid (g - 1 = g1) := ⟨_, Lib.hid rfl⟩
              have c6 : Calls Try.prog 17 #[.pointer (some ⟨w.heap.size + 2, 0, none⟩), .int .i64 0, .int .i64 1] w6 fun e w' => e = .returned (.int .i64 (g1 : Int)) ∧ w6.grownBy w' none := by
                have := gap_is HS7.out 0 1
                rw [gap_two HE.out Hml0.out, HEn.out, HEg.out (by omega), Hg1.out] at this
                exact this
              have HC6 := Lib.hid c6
              clear c6
              go_wp2_with fail
              refine HC6.out.mono ?_
              rintro e w7 ⟨rfl, hg7⟩
              have HS8 := Lib.hid (HS7.out.kept hg7)
              have HG8 := Lib.hid (grown_trans HG7.out hg7)
              have HO8 := Lib.hid (HO7.out.kept hg7)
              clear hg7 HS7 HG7 HO7 HC6
              have hmax : (if wrap64 ((g : Int) - 1) < 0 then (0 : Int) else wrap64 ((g : Int) - 1)) = (g1 : Int) := by
                have h1 := Hg1.out
                unfold wrap64
                by_cases h0 : g = 0
                · subst h0; simp at h1; subst h1; rfl
                · rw [if_neg (by omega)]; omega
              have hmax2 : (if ((g : Int) - 1) < 0 then (0 : Int) else ((g : Int) - 1)) = (g1 : Int) := by
                have h1 := Hg1.out
                by_cases h0 : g = 0
                · subst h0; simp at h1; subst h1; rfl
                · rw [if_neg (by omega)]; omega
              clear HEg
              go_wp2_with fail
              have Hr0 := Lib.hid (HEr.out (by omega))
              rw [Hm.out] at Hr0 HEn
              have HS9 : Hid (IsD w7 w.heap.size (w.heap.size + 2) gL gH (D'.at_ 0 ((r0 + 0) % m))) := Lib.hid (by have e0 : (r0 + 0) % m = r0 := (Nat.mod_eq_of_lt Hr0.out); rw [e0, at_self HE.out]; exact HS8.out)
              clear HS8 HEr hmax hmax2 Hg1
              go_loopw [110] (fun i ws => ∃ jj : Nat, jj ≤ m ∧ i = .int .i64 (jj : Int) ∧ Hid (IsD ws w.heap.size (w.heap.size + 2) gL gH (D'.at_ 0 ((r0 + jj) % m))) ∧ Hid (w.grownBy ws none) ∧ Hid (NRow w4.heap.size ws (.slice A5 m cap5) t)) (fun i _ => m - (intOf i).toNat)
              case atStart => exact ⟨0, by omega, by go_num, HS9, HG8, HO8⟩
              case round =>
                obtain ⟨jj, hjj, rfl, HSa, HGa, HOa⟩ := hrel
                clear HS9 HG8 HO8
                by_cases hjm : jj < m
                · obtain ⟨y, Hy⟩ : ∃ y, Hid (t[jj]? = some y) := ⟨_, Lib.hid (List.getElem?_eq_getElem (by rw [Htl.out, Hm.out]; exact hjm))⟩
                  obtain ⟨b5, o5, rfl, hcell⟩ := HOa.out.at Hy.out
                  have HCa := Lib.hid (meets HSa.out HE.out HEl.out HEn.out Hr0.out (y := y) (by rw [Nat.mod_eq_of_lt hjm]; exact Hy.out))
                  have HCb := Lib.hid (steps HSa.out HE.out HEn.out Hr0.out)
                  go_wp2_with fail
                  refine HCa.out.mono ?_
                  rintro e w' ⟨rfl, rfl⟩
                  go_wp2_with fail
                  refine HCb.out.mono ?_
                  rintro e wb ⟨rfl, hs, hkb⟩
                  have HSb := Lib.hid hs
                  have HGb := Lib.hid (Kp.grown HGa.out hkb HL.out.1 HL.out.2.1 HL.out.2.2)
                  have HOb := Lib.hid (HOa.out.kp hkb HSa.out.types.1 HSa.out.types.2.1 HH6.out)
                  clear hs hkb HCa HCb HSa HGa HOa hcell
                  go_wp2
                  go_roundw
                  case rel => exact ⟨jj + 1, by omega, by go_num, HSb, HGb, HOb⟩
                  case measure => simp [intOf]; omega
                · obtain rfl : jj = m := by omega
                  obtain ⟨y, Hy⟩ : ∃ y, Hid (t[0]? = some y) := ⟨_, Lib.hid (List.getElem?_eq_getElem (by rw [Htl.out, Hm.out]; omega))⟩
                  obtain ⟨b5, o5, rfl, hcell⟩ := HOa.out.at Hy.out
                  simp only [Nat.add_zero] at hcell
                  have HCa := Lib.hid (meets HSa.out HE.out HEl.out HEn.out Hr0.out (y := y) (by rw [Nat.mod_self]; exact Hy.out))
                  have hj0 : 0 < jj := by omega
                  go_wp2_with fail
                  refine HCa.out.mono ?_
                  rintro e w' ⟨rfl, rfl⟩
                  go_wp2_with (go_at_call 9; refine (alive_any wr).mono ?_; rintro e w9 ⟨rfl, hg9⟩; have HG9 := Lib.hid (grown_trans HGa.out hg9); clear hg9)
                  go_ret
                  exact ⟨rfl, HG9.out⟩
theorem surv_long (A : Option Addr) (len cap : Nat) (k : Int) (w : World) (h : 60 < len) :
    Calls Try.prog 4 #[.slice A len cap, .int .u8 k] w fun e w' => e = .returned (.bool true) ∧ w.grownBy w' none := by
  have hd : decide (60 < (len : Int)) = true := by simp; omega
  have hd' : decide (60 < len) = true := by simp; omega
  have H := Lib.hid (alive_any w)
  go_enter Try.func4, Try.ntmps4
  go_wp2_with (go_at_call 9; refine H.out.mono ?_; rintro e w' ⟨rfl, hg⟩; have HG := Lib.hid hg; clear hg)
  go_ret
  exact ⟨rfl, HG.out⟩
end Go.Proofs.Ytjligfgaahcogaa
