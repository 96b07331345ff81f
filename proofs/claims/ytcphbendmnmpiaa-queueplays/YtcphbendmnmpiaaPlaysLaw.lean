/-
  The walk of the law that any Pushes and Pops make of a queue what the document says.
-/
import Derived.Test.YtcphbendmnmpiaaOrderLaw
namespace Go.Proofs.Ytcphbendmnmpiaa
open Go.ChangeShapes Go.WideShapes Go.ChangeAt Go.RowKit
set_option linter.unusedVariables false
set_option maxRecDepth 100000

theorem at_out {w : World} {lo b : Nat} {og : Option Nat} {st : List Int} {m tot : Nat} (h : IsQ w lo b og (ivals st) m tot) {i : Int} (hi : i < 0 ∨ (st.length : Int) ≤ i) :
    Calls Try.prog 12 #[.pointer (some ⟨b, 0, none⟩), .int .i64 i] w fun e w' => e = .returned (.tuple #[.int .i64 0, .bool false]) ∧ w.grownBy w' none := by
  have := at_is h i
  unfold atOf at this
  rw [if_neg (by rw [ivals_length]; omega)] at this
  exact this
theorem at_in {w : World} {lo b : Nat} {og : Option Nat} {st : List Int} {m tot : Nat} (h : IsQ w lo b og (ivals st) m tot) {i : Nat} {x : Int} (hx : st[i]? = some x) :
    Calls Try.prog 12 #[.pointer (some ⟨b, 0, none⟩), .int .i64 (i : Int)] w fun e w' => e = .returned (.tuple #[.int .i64 x, .bool true]) ∧ w.grownBy w' none := by
  have := at_is h (i : Int)
  have hl := (List.getElem?_eq_some_iff.1 hx).1
  unfold atOf at this
  rw [if_pos ⟨by omega, by rw [ivals_length]; omega⟩, Int.toNat_natCast, ivals_get hx] at this
  exact this
theorem plays_bad (A : Option Addr) (n cap : Nat) (m at' : Int) (w : World) (hm : m < 1 ∨ 65536 < m) :
    Calls Try.prog 3 #[.int .i64 m, .slice A n cap, .int .i64 at'] w fun e w' => e = .returned (.bool true) ∧ w.grownBy w' none := by
  have C0 := Lib.hid (new_bad m hm w)
  by_cases h1 : m < 1
  · clear hm
    go_enter Try.func3, Try.ntmps3
    go_wp2_with fail
    refine C0.out.mono ?_
    rintro e w1 ⟨rfl, rfl⟩
    go_wp2_with fail
    refine (alive_any w).mono ?_
    rintro e w2 ⟨rfl, hg⟩
    have HG := Lib.hid hg
    clear hg
    go_wp2_with fail
    go_ret
    exact ⟨rfl, HG.out⟩
  · have h2 : 65536 < m := by omega
    clear hm
    go_enter Try.func3, Try.ntmps3
    go_wp2_with fail
    refine C0.out.mono ?_
    rintro e w1 ⟨rfl, rfl⟩
    go_wp2_with fail
    refine (alive_any w).mono ?_
    rintro e w2 ⟨rfl, hg⟩
    have HG := Lib.hid hg
    clear hg
    go_wp2_with fail
    go_ret
    exact ⟨rfl, HG.out⟩
theorem plays_long (A : Option Addr) (n cap m : Nat) (at' : Int) (w : World) (h1 : 1 ≤ m) (h2 : m ≤ 65536) (hn : 200 < n) :
    Calls Try.prog 3 #[.int .i64 (m : Int), .slice A n cap, .int .i64 at'] w fun e w' => e = .returned (.bool true) ∧ w.grownBy w' none := by
  have C0 := Lib.hid (new_at m h1 h2 w)
  have k1 : ¬ (m : Int) < 1 := by omega
  have k2 : ¬ (65536 : Int) < (m : Int) := by omega
  have k3 : (200 : Int) < (n : Int) := by omega
  go_enter Try.func3, Try.ntmps3
  go_wp2_with fail
  refine C0.out.mono ?_
  rintro e w1 ⟨rfl, hg, h⟩
  have HG := Lib.hid hg
  clear hg h C0
  go_wp2_with fail
  refine (alive_any w1).mono ?_
  rintro e w2 ⟨rfl, hg⟩
  have HG2 := Lib.hid (grown_trans HG.out hg)
  clear hg
  go_wp2_with fail
  go_ret
  exact ⟨rfl, HG2.out⟩
set_option maxHeartbeats 1000000 in
theorem plays_walk (A : Option Addr) (cap m : Nat) (at' : Int) (l : List Int) (w : World) (h1 : 1 ≤ m) (h2 : m ≤ 65536) (hl : IRow w A l) (hlen : l.length ≤ 200) :
    Calls Try.prog 3 #[.int .i64 (m : Int), .slice A l.length cap, .int .i64 at'] w fun e w' => e = .returned (.bool true) ∧ w.grownBy w' none := by
  have C0 := Lib.hid (new_at m h1 h2 w)
  have k1 : ¬ (m : Int) < 1 := by omega
  have k2 : ¬ (65536 : Int) < (m : Int) := by omega
  have HL := Lib.hid hl
  obtain ⟨len, Hlen⟩ : ∃ len, Hid (l.length = len) := ⟨_, Lib.hid rfl⟩
  rw [Hlen.out] at hlen ⊢
  clear hl
  go_enter Try.func3, Try.ntmps3
  go_wp2_with fail
  refine C0.out.mono ?_
  rintro e w1 ⟨rfl, hg, h⟩
  have HO : Hid (OI w w1 w.heap.size none m 0 [] [] (.slice none 0 0)) := Lib.hid ⟨h, orow_nil _ _, fun k hk => (by cases hk), hg⟩
  clear hg h C0
  go_wp2_with fail
  go_loopw [9, 10, 53] (fun rv tv iv wr => ∃ (k tot : Nat) (og : Option Nat) (st : List Int) (Ag : Option Addr) (n cg : Nat), k ≤ len ∧ tot ≤ k ∧ iv = .int .i64 (k : Int) ∧ tv = .int .u64 (tot : Int) ∧ rv = .slice Ag n cg ∧ Hid (st.length = n) ∧ n ≤ k ∧ Hid (OI w wr w.heap.size og m tot st st (.slice Ag n cg))) (fun _ _ iv _ => len - (intOf iv).toNat)
  case atStart => exact ⟨0, 0, none, [], none, 0, 0, Nat.zero_le _, Nat.zero_le _, by go_num, by go_num, rfl, Lib.hid rfl, Nat.zero_le _, HO⟩
  case round =>
    obtain ⟨k, tot, og, st, Ag, n, cg, hk, htk, rfl, rfl, rfl, HN, hnk, HI⟩ := hrel
    clear HO
    by_cases hlt : k < len
    · obtain ⟨a, Ha⟩ : ∃ a, Hid (l[k]? = some a) := ⟨_, Lib.hid (List.getElem?_eq_getElem (by rw [Hlen.out]; exact hlt))⟩
      obtain ⟨bl, ol, rfl, hcell⟩ := (HL.out.kept HI.out.grown).at Ha.out
      have hnm : n ≤ m := by have := HI.out.q.few.1; rw [ivals_length, HN.out] at this; exact this
      by_cases ha : a < 0
      · have HP := Lib.hid HI.out.pop
        cases st with
        | nil =>
          obtain rfl : n = 0 := HN.out.symm
          unfold popI at HP
          dsimp only at HP
          have j1 : ¬ (m : Int) < 0 := by omega
          go_wp2_with fail
          refine HP.out.mono ?_
          rintro e w2 ⟨rfl, og2, h3⟩
          have HI3 := Lib.hid h3
          have HN3 := HN
          clear h3 hcell HI HP
          go_wp2_with fail
          by_cases hat : at' < 0
          · have HA := Lib.hid (at_out HI3.out.q (i := at') (.inl hat))
            refine HA.out.mono ?_
            rintro e w4 ⟨rfl, hg4⟩
            have h4 := HI3.out.kept hg4
            have HTD := Lib.hid (told_all h4.q (most := 1000) (by rw [HN3.out]; omega) (by decide))
            have HI4 := Lib.hid h4
            clear h4 hg4 HI3 HA
            go_wp2_with fail
            refine HTD.out.mono ?_
            rintro e w5 ⟨v5, rfl, hr5, hg5⟩
            have h5 := HI4.out.kept hg5
            obtain ⟨A5, c5, rfl⟩ := hr5.slice
            have HSm := Lib.hid (same_is A5 Ag c5 (cg) (([] : List Int)) (([] : List Int)) w5 hr5.irow h5.row.irow (by rw [HN3.out]; omega) (by rw [HN3.out]; omega))
            rw [HN3.out, show decide ((([] : List Int)) = (([] : List Int))) = true from decide_eq_true rfl] at HSm
            rw [HN3.out]
            have HI5 := Lib.hid h5
            clear hr5 hg5 h5 HTD HI4
            go_wp2_with fail
            refine HSm.out.mono ?_
            rintro e w6 ⟨rfl, q, rfl⟩
            have HI6 := Lib.hid (HI5.out.kept (grown_drewN w5 q none))
            clear HI5 HSm
            generalize w5.drewN q = w6 at *
            have HLn := Lib.hid (len_is HI6.out.q)
            have HTt := Lib.hid (total_is HI6.out.q)
            rw [ivals_length, HN3.out] at HLn
            go_wp2_with fail
            refine HLn.out.mono ?_
            rintro e w' ⟨rfl, rfl⟩
            go_wp2_with fail
            refine HTt.out.mono ?_
            rintro e w' ⟨rfl, rfl⟩
            go_wp2
            go_roundw
            case rel => exact ⟨k + 1, tot, og2, ([] : List Int), _, 0, _, by omega, by omega, by go_num, rfl, rfl, HN3, by omega, HI6⟩
            case measure => simp [intOf]; omega
          · obtain ⟨i, rfl⟩ := Int.eq_ofNat_of_zero_le (show 0 ≤ at' by omega)
            have hi0 : ¬ (i : Int) < 0 := by omega
            have HA := Lib.hid (at_out HI3.out.q (i := (i : Int)) (.inr (by rw [HN3.out]; omega)))
            refine HA.out.mono ?_
            rintro e w4 ⟨rfl, hg4⟩
            have h4 := HI3.out.kept hg4
            have HTD := Lib.hid (told_all h4.q (most := 1000) (by rw [HN3.out]; omega) (by decide))
            have HI4 := Lib.hid h4
            clear h4 hg4 HI3 HA
            go_wp2_with fail
            refine HTD.out.mono ?_
            rintro e w5 ⟨v5, rfl, hr5, hg5⟩
            have h5 := HI4.out.kept hg5
            obtain ⟨A5, c5, rfl⟩ := hr5.slice
            have HSm := Lib.hid (same_is A5 Ag c5 (cg) (([] : List Int)) (([] : List Int)) w5 hr5.irow h5.row.irow (by rw [HN3.out]; omega) (by rw [HN3.out]; omega))
            rw [HN3.out, show decide ((([] : List Int)) = (([] : List Int))) = true from decide_eq_true rfl] at HSm
            rw [HN3.out]
            have HI5 := Lib.hid h5
            clear hr5 hg5 h5 HTD HI4
            go_wp2_with fail
            refine HSm.out.mono ?_
            rintro e w6 ⟨rfl, q, rfl⟩
            have HI6 := Lib.hid (HI5.out.kept (grown_drewN w5 q none))
            clear HI5 HSm
            generalize w5.drewN q = w6 at *
            have HLn := Lib.hid (len_is HI6.out.q)
            have HTt := Lib.hid (total_is HI6.out.q)
            rw [ivals_length, HN3.out] at HLn
            go_wp2_with fail
            refine HLn.out.mono ?_
            rintro e w' ⟨rfl, rfl⟩
            go_wp2_with fail
            refine HTt.out.mono ?_
            rintro e w' ⟨rfl, rfl⟩
            go_wp2
            go_roundw
            case rel => exact ⟨k + 1, tot, og2, ([] : List Int), _, 0, _, by omega, by omega, by go_num, rfl, rfl, HN3, by omega, HI6⟩
            case measure => simp [intOf]; omega
        | cons hd t =>
          have hn0 : (0 : Int) < (n : Int) := by have := HN.out; simp only [List.length_cons] at this; omega
          unfold popI at HP
          dsimp only at HP
          go_wp2_with fail
          refine HP.out.mono ?_
          rintro e w2 ⟨rfl, og2, h2⟩
          obtain ⟨g3, o3, rfl, hnn, hnc, hone, hmore⟩ := h2.row.tail (by simp)
          obtain ⟨b1, o1, eA, hc0⟩ := h2.row.irow.at (k := 0) (x := hd) rfl
          obtain ⟨rfl, rfl⟩ : b1 = g3 ∧ o1 = o3 := by injection eA with eA; injection eA with e1 e2; exact ⟨e1.symm, e2.symm⟩
          rw [Nat.add_zero] at hc0
          have q1 : (1 : Int) ≤ (n : Int) := by omega
          have q2 : (n : Int) ≤ (cg : Int) := by omega
          have q3 : (1 : Int) ≤ (cg : Int) := by omega
          by_cases hcg : cg = 1
          · obtain rfl : cg = 1 := hcg
            obtain rfl : n = 1 := by omega
            have HI3 : Hid (OI w w2 w.heap.size og2 m tot t t (.slice (some ⟨b1, o1, none⟩) 0 0)) := Lib.hid ⟨h2.q, hone rfl, h2.apart, h2.grown⟩
            have HN3 : Hid (t.length = 0) := Lib.hid (by have := HN.out; simpa using this)
            clear h2 hone hmore hcell HI HP eA hnn
            go_wp2_with fail
            by_cases hat : at' < 0
            · have HA := Lib.hid (at_out HI3.out.q (i := at') (.inl hat))
              refine HA.out.mono ?_
              rintro e w4 ⟨rfl, hg4⟩
              have h4 := HI3.out.kept hg4
              have HTD := Lib.hid (told_all h4.q (most := 1000) (by rw [HN3.out]; omega) (by decide))
              have HI4 := Lib.hid h4
              clear h4 hg4 HI3 HA
              go_wp2_with fail
              refine HTD.out.mono ?_
              rintro e w5 ⟨v5, rfl, hr5, hg5⟩
              have h5 := HI4.out.kept hg5
              obtain ⟨A5, c5, rfl⟩ := hr5.slice
              have HSm := Lib.hid (same_is A5 (some ⟨b1, o1, none⟩) c5 (0) (t) (t) w5 hr5.irow h5.row.irow (by rw [HN3.out]; omega) (by rw [HN3.out]; omega))
              rw [HN3.out, show decide ((t) = (t)) = true from decide_eq_true rfl] at HSm
              rw [HN3.out]
              have HI5 := Lib.hid h5
              clear hr5 hg5 h5 HTD HI4
              go_wp2_with fail
              refine HSm.out.mono ?_
              rintro e w6 ⟨rfl, q, rfl⟩
              have HI6 := Lib.hid (HI5.out.kept (grown_drewN w5 q none))
              clear HI5 HSm
              generalize w5.drewN q = w6 at *
              have HLn := Lib.hid (len_is HI6.out.q)
              have HTt := Lib.hid (total_is HI6.out.q)
              rw [ivals_length, HN3.out] at HLn
              go_wp2_with fail
              refine HLn.out.mono ?_
              rintro e w' ⟨rfl, rfl⟩
              go_wp2_with fail
              refine HTt.out.mono ?_
              rintro e w' ⟨rfl, rfl⟩
              go_wp2
              go_roundw
              case rel => exact ⟨k + 1, tot, og2, t, _, 0, _, by omega, by omega, by go_num, rfl, rfl, HN3, by omega, HI6⟩
              case measure => simp [intOf]; omega
            · obtain ⟨i, rfl⟩ := Int.eq_ofNat_of_zero_le (show 0 ≤ at' by omega)
              have hi0 : ¬ (i : Int) < 0 := by omega
              have HA := Lib.hid (at_out HI3.out.q (i := (i : Int)) (.inr (by rw [HN3.out]; omega)))
              refine HA.out.mono ?_
              rintro e w4 ⟨rfl, hg4⟩
              have h4 := HI3.out.kept hg4
              have HTD := Lib.hid (told_all h4.q (most := 1000) (by rw [HN3.out]; omega) (by decide))
              have HI4 := Lib.hid h4
              clear h4 hg4 HI3 HA
              go_wp2_with fail
              refine HTD.out.mono ?_
              rintro e w5 ⟨v5, rfl, hr5, hg5⟩
              have h5 := HI4.out.kept hg5
              obtain ⟨A5, c5, rfl⟩ := hr5.slice
              have HSm := Lib.hid (same_is A5 (some ⟨b1, o1, none⟩) c5 (0) (t) (t) w5 hr5.irow h5.row.irow (by rw [HN3.out]; omega) (by rw [HN3.out]; omega))
              rw [HN3.out, show decide ((t) = (t)) = true from decide_eq_true rfl] at HSm
              rw [HN3.out]
              have HI5 := Lib.hid h5
              clear hr5 hg5 h5 HTD HI4
              go_wp2_with fail
              refine HSm.out.mono ?_
              rintro e w6 ⟨rfl, q, rfl⟩
              have HI6 := Lib.hid (HI5.out.kept (grown_drewN w5 q none))
              clear HI5 HSm
              generalize w5.drewN q = w6 at *
              have HLn := Lib.hid (len_is HI6.out.q)
              have HTt := Lib.hid (total_is HI6.out.q)
              rw [ivals_length, HN3.out] at HLn
              go_wp2_with fail
              refine HLn.out.mono ?_
              rintro e w' ⟨rfl, rfl⟩
              go_wp2_with fail
              refine HTt.out.mono ?_
              rintro e w' ⟨rfl, rfl⟩
              go_wp2
              go_roundw
              case rel => exact ⟨k + 1, tot, og2, t, _, 0, _, by omega, by omega, by go_num, rfl, rfl, HN3, by omega, HI6⟩
              case measure => simp [intOf]; omega
          · have hcg2 : ¬ (cg : Int) = 1 := by omega
            obtain ⟨n3, Hn3⟩ : ∃ n3, Hid (n - 1 = n3) := ⟨_, Lib.hid rfl⟩
            have HI3 : Hid (OI w w2 w.heap.size og2 m tot t t (.slice (some ⟨b1, o1 + 1, none⟩) n3 (cg - 1))) := Lib.hid ⟨h2.q, by have := hmore hcg; rw [Hn3.out] at this; exact this, h2.apart, h2.grown⟩
            have HN3 : Hid (t.length = n3) := Lib.hid (by have := HN.out; simp only [List.length_cons] at this; have := Hn3.out; omega)
            have hn3 : n3 ≤ n := by rw [← Hn3.out]; omega
            clear h2 hone hmore hcell HI HP eA hnn
            go_wp2_with fail
            clear hc0
            try rw [Hn3.out]
            by_cases hat : at' < 0
            · have HA := Lib.hid (at_out HI3.out.q (i := at') (.inl hat))
              refine HA.out.mono ?_
              rintro e w4 ⟨rfl, hg4⟩
              have h4 := HI3.out.kept hg4
              have HTD := Lib.hid (told_all h4.q (most := 1000) (by rw [HN3.out]; omega) (by decide))
              have HI4 := Lib.hid h4
              clear h4 hg4 HI3 HA
              go_wp2_with fail
              refine HTD.out.mono ?_
              rintro e w5 ⟨v5, rfl, hr5, hg5⟩
              have h5 := HI4.out.kept hg5
              obtain ⟨A5, c5, rfl⟩ := hr5.slice
              have HSm := Lib.hid (same_is A5 (some ⟨b1, o1 + 1, none⟩) c5 (cg - 1) (t) (t) w5 hr5.irow h5.row.irow (by rw [HN3.out]; omega) (by rw [HN3.out]; omega))
              rw [HN3.out, show decide ((t) = (t)) = true from decide_eq_true rfl] at HSm
              rw [HN3.out]
              have HI5 := Lib.hid h5
              clear hr5 hg5 h5 HTD HI4
              go_wp2_with fail
              refine HSm.out.mono ?_
              rintro e w6 ⟨rfl, q, rfl⟩
              have HI6 := Lib.hid (HI5.out.kept (grown_drewN w5 q none))
              clear HI5 HSm
              generalize w5.drewN q = w6 at *
              have HLn := Lib.hid (len_is HI6.out.q)
              have HTt := Lib.hid (total_is HI6.out.q)
              rw [ivals_length, HN3.out] at HLn
              go_wp2_with fail
              refine HLn.out.mono ?_
              rintro e w' ⟨rfl, rfl⟩
              go_wp2_with fail
              refine HTt.out.mono ?_
              rintro e w' ⟨rfl, rfl⟩
              go_wp2
              go_roundw
              case rel => exact ⟨k + 1, tot, og2, t, _, n3, _, by omega, by omega, by go_num, rfl, rfl, HN3, by omega, HI6⟩
              case measure => simp [intOf]; omega
            · obtain ⟨i, rfl⟩ := Int.eq_ofNat_of_zero_le (show 0 ≤ at' by omega)
              by_cases hin : i < n3
              · obtain ⟨x, Hx⟩ : ∃ x, Hid ((t)[i]? = some x) := ⟨_, Lib.hid (List.getElem?_eq_getElem (by rw [HN3.out]; exact hin))⟩
                have HA := Lib.hid (at_in HI3.out.q Hx.out)
                refine HA.out.mono ?_
                rintro e w4 ⟨rfl, hg4⟩
                have h4 := HI3.out.kept hg4
                have HTD := Lib.hid (told_all h4.q (most := 1000) (by rw [HN3.out]; omega) (by decide))
                have HI4 := Lib.hid h4
                clear h4 hg4 HI3 HA
                go_wp2_with fail
                refine HTD.out.mono ?_
                rintro e w5 ⟨v5, rfl, hr5, hg5⟩
                have h5 := HI4.out.kept hg5
                obtain ⟨A5, c5, rfl⟩ := hr5.slice
                have HSm := Lib.hid (same_is A5 (some ⟨b1, o1 + 1, none⟩) c5 (cg - 1) (t) (t) w5 hr5.irow h5.row.irow (by rw [HN3.out]; omega) (by rw [HN3.out]; omega))
                rw [HN3.out, show decide ((t) = (t)) = true from decide_eq_true rfl] at HSm
                rw [HN3.out]
                have HI5 := Lib.hid h5
                have hcell3 := h5.row.irow.at Hx.out
                obtain ⟨b3, o3, eA, hcell3⟩ := hcell3
                obtain ⟨rfl, rfl⟩ : b3 = b1 ∧ o3 = o1 + 1 := by injection eA with eA; injection eA with e1 e2; exact ⟨e1.symm, e2.symm⟩
                clear hr5 hg5 h5 HTD HI4
                go_wp2_with fail
                refine HSm.out.mono ?_
                rintro e w6 ⟨rfl, q, rfl⟩
                have HI6 := Lib.hid (HI5.out.kept (grown_drewN w5 q none))
                clear HI5 HSm
                clear hcell3
                generalize w5.drewN q = w6 at *
                have HLn := Lib.hid (len_is HI6.out.q)
                have HTt := Lib.hid (total_is HI6.out.q)
                rw [ivals_length, HN3.out] at HLn
                go_wp2_with fail
                refine HLn.out.mono ?_
                rintro e w' ⟨rfl, rfl⟩
                go_wp2_with fail
                refine HTt.out.mono ?_
                rintro e w' ⟨rfl, rfl⟩
                go_wp2
                go_roundw
                case rel => exact ⟨k + 1, tot, og2, t, _, n3, _, by omega, by omega, by go_num, rfl, rfl, HN3, by omega, HI6⟩
                case measure => simp [intOf]; omega
              · have HA := Lib.hid (at_out HI3.out.q (i := (i : Int)) (.inr (by rw [HN3.out]; omega)))
                refine HA.out.mono ?_
                rintro e w4 ⟨rfl, hg4⟩
                have h4 := HI3.out.kept hg4
                have HTD := Lib.hid (told_all h4.q (most := 1000) (by rw [HN3.out]; omega) (by decide))
                have HI4 := Lib.hid h4
                clear h4 hg4 HI3 HA
                go_wp2_with fail
                refine HTD.out.mono ?_
                rintro e w5 ⟨v5, rfl, hr5, hg5⟩
                have h5 := HI4.out.kept hg5
                obtain ⟨A5, c5, rfl⟩ := hr5.slice
                have HSm := Lib.hid (same_is A5 (some ⟨b1, o1 + 1, none⟩) c5 (cg - 1) (t) (t) w5 hr5.irow h5.row.irow (by rw [HN3.out]; omega) (by rw [HN3.out]; omega))
                rw [HN3.out, show decide ((t) = (t)) = true from decide_eq_true rfl] at HSm
                rw [HN3.out]
                have HI5 := Lib.hid h5
                clear hr5 hg5 h5 HTD HI4
                go_wp2_with fail
                refine HSm.out.mono ?_
                rintro e w6 ⟨rfl, q, rfl⟩
                have HI6 := Lib.hid (HI5.out.kept (grown_drewN w5 q none))
                clear HI5 HSm
                generalize w5.drewN q = w6 at *
                have HLn := Lib.hid (len_is HI6.out.q)
                have HTt := Lib.hid (total_is HI6.out.q)
                rw [ivals_length, HN3.out] at HLn
                go_wp2_with fail
                refine HLn.out.mono ?_
                rintro e w' ⟨rfl, rfl⟩
                go_wp2_with fail
                refine HTt.out.mono ?_
                rintro e w' ⟨rfl, rfl⟩
                go_wp2
                go_roundw
                case rel => exact ⟨k + 1, tot, og2, t, _, n3, _, by omega, by omega, by go_num, rfl, rfl, HN3, by omega, HI6⟩
                case measure => simp [intOf]; omega
      · by_cases hfull : n = m
        · obtain ⟨hd, t, rfl⟩ : ∃ hd t, st = hd :: t := by
            cases st with
            | nil => have := HN.out; simp only [List.length_nil] at this; omega
            | cons hd t => exact ⟨hd, t, rfl⟩
          have HP := Lib.hid (HI.out.push a (by omega))
          unfold pushI at HP
          rw [HN.out, if_pos hfull] at HP
          dsimp only [List.head?_cons, Option.getD_some, List.tail_cons] at HP
          obtain ⟨tt, Htt⟩ : ∃ tt, Hid (tot + 1 = tt) := ⟨_, Lib.hid rfl⟩
          obtain ⟨n1, Hn1⟩ : ∃ n1, Hid (n + 1 = n1) := ⟨_, Lib.hid rfl⟩
          have htt : (tot : Int) + 1 = (tt : Int) := by rw [← Htt.out]; omega
          have htt2 : tt ≤ k + 1 := by rw [← Htt.out]; omega
          have hgo : (m : Int) < (n1 : Int) := by rw [← Hn1.out]; omega
          have hn1 : n1 ≤ k + 1 := by rw [← Hn1.out]; omega
          rw [Htt.out] at HP
          have Hm1 : Hid (1 ≤ n) := Lib.hid (by omega)
          clear hfull
          go_wp2_with fail
          refine HP.out.mono ?_
          rintro e w2 ⟨rfl, og2, h2⟩
          obtain ⟨A3, c3, w3, hrun, h3⟩ := h2.app HN.out (by omega) a 22
          rw [Hn1.out] at hrun h3
          have HR := Lib.hid hrun
          obtain ⟨g3, o3, rfl, hnn, hnc, hone, hmore⟩ := h3.row.tail (by simp)
          obtain ⟨b1, o1, eA, hc0⟩ := h3.row.irow.at (k := 0) (x := hd) rfl
          obtain ⟨rfl, rfl⟩ : b1 = g3 ∧ o1 = o3 := by injection eA with eA; injection eA with e1 e2; exact ⟨e1.symm, e2.symm⟩
          rw [Nat.add_zero] at hc0
          have q0 : 2 ≤ n1 := by have := Hm1.out; rw [← Hn1.out]; omega
          have q1 : (1 : Int) ≤ (n1 : Int) := by omega
          have q2 : (n1 : Int) ≤ (c3 : Int) := by omega
          have q3 : (1 : Int) ≤ (c3 : Int) := by omega
          have hcg2 : ¬ (c3 : Int) = 1 := by omega
          obtain ⟨n3, Hn3⟩ : ∃ n3, Hid (n1 - 1 = n3) := ⟨_, Lib.hid rfl⟩
          have HI3 : Hid (OI w w3 w.heap.size og2 m tt (t ++ [a]) (t ++ [a]) (.slice (some ⟨b1, o1 + 1, none⟩) n3 (c3 - 1))) := Lib.hid ⟨h3.q, by have := hmore (by omega); rw [Hn3.out] at this; exact this, h3.apart, h3.grown⟩
          have HN3 : Hid ((t ++ [a]).length = n3) := Lib.hid (by have h8 := HN.out; simp only [List.length_cons] at h8; rw [List.length_append, List.length_singleton, ← Hn3.out, ← Hn1.out]; omega)
          have hn3 : n3 ≤ k := by rw [← Hn3.out, ← Hn1.out]; omega
          clear hrun h2 h3 hone hmore hcell HI HP eA hnn
          go_wp2_with (at_builtin; refine append_run rfl (.tmp 70) (.tmp 72) 22 rfl rfl rfl HR.out ?_)
          clear hc0
          try rw [Hn3.out]
          by_cases hat : at' < 0
          · have HA := Lib.hid (at_out HI3.out.q (i := at') (.inl hat))
            refine HA.out.mono ?_
            rintro e w4 ⟨rfl, hg4⟩
            have h4 := HI3.out.kept hg4
            have HTD := Lib.hid (told_all h4.q (most := 1000) (by rw [HN3.out]; omega) (by decide))
            have HI4 := Lib.hid h4
            clear h4 hg4 HI3 HA
            go_wp2_with fail
            refine HTD.out.mono ?_
            rintro e w5 ⟨v5, rfl, hr5, hg5⟩
            have h5 := HI4.out.kept hg5
            obtain ⟨A5, c5, rfl⟩ := hr5.slice
            have HSm := Lib.hid (same_is A5 (some ⟨b1, o1 + 1, none⟩) c5 (c3 - 1) (t ++ [a]) (t ++ [a]) w5 hr5.irow h5.row.irow (by rw [HN3.out]; omega) (by rw [HN3.out]; omega))
            rw [HN3.out, show decide ((t ++ [a]) = (t ++ [a])) = true from decide_eq_true rfl] at HSm
            rw [HN3.out]
            have HI5 := Lib.hid h5
            clear hr5 hg5 h5 HTD HI4
            go_wp2_with fail
            refine HSm.out.mono ?_
            rintro e w6 ⟨rfl, q, rfl⟩
            have HI6 := Lib.hid (HI5.out.kept (grown_drewN w5 q none))
            clear HI5 HSm
            generalize w5.drewN q = w6 at *
            have HLn := Lib.hid (len_is HI6.out.q)
            have HTt := Lib.hid (total_is HI6.out.q)
            rw [ivals_length, HN3.out] at HLn
            go_wp2_with fail
            refine HLn.out.mono ?_
            rintro e w' ⟨rfl, rfl⟩
            go_wp2_with fail
            refine HTt.out.mono ?_
            rintro e w' ⟨rfl, rfl⟩
            go_wp2
            go_roundw
            case rel => exact ⟨k + 1, tt, og2, t ++ [a], _, n3, _, by omega, by omega, by go_num, rfl, rfl, HN3, by omega, HI6⟩
            case measure => simp [intOf]; omega
          · obtain ⟨i, rfl⟩ := Int.eq_ofNat_of_zero_le (show 0 ≤ at' by omega)
            by_cases hin : i < n3
            · obtain ⟨x, Hx⟩ : ∃ x, Hid ((t ++ [a])[i]? = some x) := ⟨_, Lib.hid (List.getElem?_eq_getElem (by rw [HN3.out]; exact hin))⟩
              have HA := Lib.hid (at_in HI3.out.q Hx.out)
              refine HA.out.mono ?_
              rintro e w4 ⟨rfl, hg4⟩
              have h4 := HI3.out.kept hg4
              have HTD := Lib.hid (told_all h4.q (most := 1000) (by rw [HN3.out]; omega) (by decide))
              have HI4 := Lib.hid h4
              clear h4 hg4 HI3 HA
              go_wp2_with fail
              refine HTD.out.mono ?_
              rintro e w5 ⟨v5, rfl, hr5, hg5⟩
              have h5 := HI4.out.kept hg5
              obtain ⟨A5, c5, rfl⟩ := hr5.slice
              have HSm := Lib.hid (same_is A5 (some ⟨b1, o1 + 1, none⟩) c5 (c3 - 1) (t ++ [a]) (t ++ [a]) w5 hr5.irow h5.row.irow (by rw [HN3.out]; omega) (by rw [HN3.out]; omega))
              rw [HN3.out, show decide ((t ++ [a]) = (t ++ [a])) = true from decide_eq_true rfl] at HSm
              rw [HN3.out]
              have HI5 := Lib.hid h5
              have hcell3 := h5.row.irow.at Hx.out
              obtain ⟨b3, o3, eA, hcell3⟩ := hcell3
              obtain ⟨rfl, rfl⟩ : b3 = b1 ∧ o3 = o1 + 1 := by injection eA with eA; injection eA with e1 e2; exact ⟨e1.symm, e2.symm⟩
              clear hr5 hg5 h5 HTD HI4
              go_wp2_with fail
              refine HSm.out.mono ?_
              rintro e w6 ⟨rfl, q, rfl⟩
              have HI6 := Lib.hid (HI5.out.kept (grown_drewN w5 q none))
              clear HI5 HSm
              clear hcell3
              generalize w5.drewN q = w6 at *
              have HLn := Lib.hid (len_is HI6.out.q)
              have HTt := Lib.hid (total_is HI6.out.q)
              rw [ivals_length, HN3.out] at HLn
              go_wp2_with fail
              refine HLn.out.mono ?_
              rintro e w' ⟨rfl, rfl⟩
              go_wp2_with fail
              refine HTt.out.mono ?_
              rintro e w' ⟨rfl, rfl⟩
              go_wp2
              go_roundw
              case rel => exact ⟨k + 1, tt, og2, t ++ [a], _, n3, _, by omega, by omega, by go_num, rfl, rfl, HN3, by omega, HI6⟩
              case measure => simp [intOf]; omega
            · have HA := Lib.hid (at_out HI3.out.q (i := (i : Int)) (.inr (by rw [HN3.out]; omega)))
              refine HA.out.mono ?_
              rintro e w4 ⟨rfl, hg4⟩
              have h4 := HI3.out.kept hg4
              have HTD := Lib.hid (told_all h4.q (most := 1000) (by rw [HN3.out]; omega) (by decide))
              have HI4 := Lib.hid h4
              clear h4 hg4 HI3 HA
              go_wp2_with fail
              refine HTD.out.mono ?_
              rintro e w5 ⟨v5, rfl, hr5, hg5⟩
              have h5 := HI4.out.kept hg5
              obtain ⟨A5, c5, rfl⟩ := hr5.slice
              have HSm := Lib.hid (same_is A5 (some ⟨b1, o1 + 1, none⟩) c5 (c3 - 1) (t ++ [a]) (t ++ [a]) w5 hr5.irow h5.row.irow (by rw [HN3.out]; omega) (by rw [HN3.out]; omega))
              rw [HN3.out, show decide ((t ++ [a]) = (t ++ [a])) = true from decide_eq_true rfl] at HSm
              rw [HN3.out]
              have HI5 := Lib.hid h5
              clear hr5 hg5 h5 HTD HI4
              go_wp2_with fail
              refine HSm.out.mono ?_
              rintro e w6 ⟨rfl, q, rfl⟩
              have HI6 := Lib.hid (HI5.out.kept (grown_drewN w5 q none))
              clear HI5 HSm
              generalize w5.drewN q = w6 at *
              have HLn := Lib.hid (len_is HI6.out.q)
              have HTt := Lib.hid (total_is HI6.out.q)
              rw [ivals_length, HN3.out] at HLn
              go_wp2_with fail
              refine HLn.out.mono ?_
              rintro e w' ⟨rfl, rfl⟩
              go_wp2_with fail
              refine HTt.out.mono ?_
              rintro e w' ⟨rfl, rfl⟩
              go_wp2
              go_roundw
              case rel => exact ⟨k + 1, tt, og2, t ++ [a], _, n3, _, by omega, by omega, by go_num, rfl, rfl, HN3, by omega, HI6⟩
              case measure => simp [intOf]; omega
        · have HP := Lib.hid (HI.out.push a (by omega))
          unfold pushI at HP
          rw [HN.out, if_neg hfull] at HP
          dsimp only at HP
          obtain ⟨tt, Htt⟩ : ∃ tt, Hid (tot + 1 = tt) := ⟨_, Lib.hid rfl⟩
          obtain ⟨n3, Hn3⟩ : ∃ n3, Hid (n + 1 = n3) := ⟨_, Lib.hid rfl⟩
          have htt : (tot : Int) + 1 = (tt : Int) := by rw [← Htt.out]; omega
          have htt2 : tt ≤ k + 1 := by rw [← Htt.out]; omega
          have hn3 : n3 ≤ k + 1 := by rw [← Hn3.out]; omega
          have hgo : ¬ (m : Int) < (n3 : Int) := by rw [← Hn3.out]; omega
          rw [Htt.out] at HP
          go_wp2_with fail
          refine HP.out.mono ?_
          rintro e w2 ⟨rfl, og2, h2⟩
          obtain ⟨A3, c3, w3, hrun, h3⟩ := h2.app HN.out (by omega) a 22
          rw [Hn3.out] at hrun h3
          have HR := Lib.hid hrun
          have HI3 := Lib.hid h3
          have HN3 : Hid ((st ++ [a]).length = n3) := Lib.hid (by rw [List.length_append, HN.out, ← Hn3.out]; rfl)
          clear hrun h2 h3 hcell HI HP
          go_wp2_with (at_builtin; refine append_run rfl (.tmp 70) (.tmp 72) 22 rfl rfl rfl HR.out ?_)
          by_cases hat : at' < 0
          · have HA := Lib.hid (at_out HI3.out.q (i := at') (.inl hat))
            refine HA.out.mono ?_
            rintro e w4 ⟨rfl, hg4⟩
            have h4 := HI3.out.kept hg4
            have HTD := Lib.hid (told_all h4.q (most := 1000) (by rw [HN3.out]; omega) (by decide))
            have HI4 := Lib.hid h4
            clear h4 hg4 HI3 HA
            go_wp2_with fail
            refine HTD.out.mono ?_
            rintro e w5 ⟨v5, rfl, hr5, hg5⟩
            have h5 := HI4.out.kept hg5
            obtain ⟨A5, c5, rfl⟩ := hr5.slice
            have HSm := Lib.hid (same_is A5 A3 c5 (c3) (st ++ [a]) (st ++ [a]) w5 hr5.irow h5.row.irow (by rw [HN3.out]; omega) (by rw [HN3.out]; omega))
            rw [HN3.out, show decide ((st ++ [a]) = (st ++ [a])) = true from decide_eq_true rfl] at HSm
            rw [HN3.out]
            have HI5 := Lib.hid h5
            clear hr5 hg5 h5 HTD HI4
            go_wp2_with fail
            refine HSm.out.mono ?_
            rintro e w6 ⟨rfl, q, rfl⟩
            have HI6 := Lib.hid (HI5.out.kept (grown_drewN w5 q none))
            clear HI5 HSm
            generalize w5.drewN q = w6 at *
            have HLn := Lib.hid (len_is HI6.out.q)
            have HTt := Lib.hid (total_is HI6.out.q)
            rw [ivals_length, HN3.out] at HLn
            go_wp2_with fail
            refine HLn.out.mono ?_
            rintro e w' ⟨rfl, rfl⟩
            go_wp2_with fail
            refine HTt.out.mono ?_
            rintro e w' ⟨rfl, rfl⟩
            go_wp2
            go_roundw
            case rel => exact ⟨k + 1, tt, og2, st ++ [a], _, n3, _, by omega, by omega, by go_num, rfl, rfl, HN3, by omega, HI6⟩
            case measure => simp [intOf]; omega
          · obtain ⟨i, rfl⟩ := Int.eq_ofNat_of_zero_le (show 0 ≤ at' by omega)
            by_cases hin : i < n3
            · obtain ⟨x, Hx⟩ : ∃ x, Hid ((st ++ [a])[i]? = some x) := ⟨_, Lib.hid (List.getElem?_eq_getElem (by rw [HN3.out]; exact hin))⟩
              have HA := Lib.hid (at_in HI3.out.q Hx.out)
              refine HA.out.mono ?_
              rintro e w4 ⟨rfl, hg4⟩
              have h4 := HI3.out.kept hg4
              have HTD := Lib.hid (told_all h4.q (most := 1000) (by rw [HN3.out]; omega) (by decide))
              have HI4 := Lib.hid h4
              clear h4 hg4 HI3 HA
              go_wp2_with fail
              refine HTD.out.mono ?_
              rintro e w5 ⟨v5, rfl, hr5, hg5⟩
              have h5 := HI4.out.kept hg5
              obtain ⟨A5, c5, rfl⟩ := hr5.slice
              have HSm := Lib.hid (same_is A5 A3 c5 (c3) (st ++ [a]) (st ++ [a]) w5 hr5.irow h5.row.irow (by rw [HN3.out]; omega) (by rw [HN3.out]; omega))
              rw [HN3.out, show decide ((st ++ [a]) = (st ++ [a])) = true from decide_eq_true rfl] at HSm
              rw [HN3.out]
              have HI5 := Lib.hid h5
              have hcell3 := h5.row.irow.at Hx.out
              obtain ⟨b3, o3, eA, hcell3⟩ := hcell3
              subst eA
              clear hr5 hg5 h5 HTD HI4
              go_wp2_with fail
              refine HSm.out.mono ?_
              rintro e w6 ⟨rfl, q, rfl⟩
              have HI6 := Lib.hid (HI5.out.kept (grown_drewN w5 q none))
              clear HI5 HSm
              clear hcell3
              generalize w5.drewN q = w6 at *
              have HLn := Lib.hid (len_is HI6.out.q)
              have HTt := Lib.hid (total_is HI6.out.q)
              rw [ivals_length, HN3.out] at HLn
              go_wp2_with fail
              refine HLn.out.mono ?_
              rintro e w' ⟨rfl, rfl⟩
              go_wp2_with fail
              refine HTt.out.mono ?_
              rintro e w' ⟨rfl, rfl⟩
              go_wp2
              go_roundw
              case rel => exact ⟨k + 1, tt, og2, st ++ [a], _, n3, _, by omega, by omega, by go_num, rfl, rfl, HN3, by omega, HI6⟩
              case measure => simp [intOf]; omega
            · have HA := Lib.hid (at_out HI3.out.q (i := (i : Int)) (.inr (by rw [HN3.out]; omega)))
              refine HA.out.mono ?_
              rintro e w4 ⟨rfl, hg4⟩
              have h4 := HI3.out.kept hg4
              have HTD := Lib.hid (told_all h4.q (most := 1000) (by rw [HN3.out]; omega) (by decide))
              have HI4 := Lib.hid h4
              clear h4 hg4 HI3 HA
              go_wp2_with fail
              refine HTD.out.mono ?_
              rintro e w5 ⟨v5, rfl, hr5, hg5⟩
              have h5 := HI4.out.kept hg5
              obtain ⟨A5, c5, rfl⟩ := hr5.slice
              have HSm := Lib.hid (same_is A5 A3 c5 (c3) (st ++ [a]) (st ++ [a]) w5 hr5.irow h5.row.irow (by rw [HN3.out]; omega) (by rw [HN3.out]; omega))
              rw [HN3.out, show decide ((st ++ [a]) = (st ++ [a])) = true from decide_eq_true rfl] at HSm
              rw [HN3.out]
              have HI5 := Lib.hid h5
              clear hr5 hg5 h5 HTD HI4
              go_wp2_with fail
              refine HSm.out.mono ?_
              rintro e w6 ⟨rfl, q, rfl⟩
              have HI6 := Lib.hid (HI5.out.kept (grown_drewN w5 q none))
              clear HI5 HSm
              generalize w5.drewN q = w6 at *
              have HLn := Lib.hid (len_is HI6.out.q)
              have HTt := Lib.hid (total_is HI6.out.q)
              rw [ivals_length, HN3.out] at HLn
              go_wp2_with fail
              refine HLn.out.mono ?_
              rintro e w' ⟨rfl, rfl⟩
              go_wp2_with fail
              refine HTt.out.mono ?_
              rintro e w' ⟨rfl, rfl⟩
              go_wp2
              go_roundw
              case rel => exact ⟨k + 1, tt, og2, st ++ [a], _, n3, _, by omega, by omega, by go_num, rfl, rfl, HN3, by omega, HI6⟩
              case measure => simp [intOf]; omega
    · obtain rfl : k = len := by omega
      go_wp2_with fail
      refine (alive_any wr).mono ?_
      rintro e w2 ⟨rfl, hg⟩
      have HG2 := Lib.hid (grown_trans HI.out.grown hg)
      clear hg
      go_wp2_with fail
      go_ret
      exact ⟨rfl, HG2.out⟩
end Go.Proofs.Ytcphbendmnmpiaa
