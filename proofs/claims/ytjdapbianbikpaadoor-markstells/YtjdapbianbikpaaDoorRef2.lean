/-
  A list without a number; a rising list with a number more: what the document's answers make.
-/
import Derived.Test.YtjdapbianbikpaaDoorRef
import Derived.Test.YtjdapbianbikpaaDoorTold
namespace Go.Proofs.YtjdapbianbikpaaDoor
open Go.ChangeShapes Go.WideShapes Go.ChangeAt Go.RowKit
set_option linter.unusedVariables false

def zvals (zs : List Int) : List Value := zs.map (Value.int .i64)
theorem zvals_snoc (zs : List Int) (z : Int) : zvals (zs ++ [z]) = zvals zs ++ [.int .i64 z] := by simp [zvals]
/-- a slice that the call made: what it reads as -/
def ListPost (w : World) (zs : List Int) (e : Ending) (w' : World) : Prop :=
  ∃ v, e = .returned v ∧ w'.ownsRow w.heap.size 3 1 v zs.length (zvals zs) ∧ w.grownBy w' none

theorem own_grow {w wr w1 : World} {o : Obj} {v : Value} {n : Nat} {xs : List Value} (hg : w.grownBy wr none) (hr : wr.ownsRow w.heap.size 3 1 v n xs) (h : (wr.alloc o).grownBy w1 v.ownBlock) : w.grownBy w1 none := by
  have hz := hg.size
  refine ⟨h.os.trans hg.os, h.tape.trans hg.tape, h.output.trans hg.output, ?_, fun k hk _ => ?_⟩
  · have := h.size; simp at this; omega
  · refine (h.block k (by simp; omega) (fun e => ?_)).trans ((Below.heap_alloc _ _ _ (by omega)).trans (hg.block k hk (by simp)))
    have := (hr.lt k e.symm).1; omega

set_option maxHeartbeats 1000000 in
theorem without_at (S : Nat → Prop) (A : Option Addr) (ca : Nat) (zs : List Int) (i : Int) (w : World) (ha : RowAt .i64 S w A zs) (hz : zs.length ≤ 1000000) :
    Calls Tryd.prog 12 #[.slice A zs.length ca, .int .i64 i] w (ListPost w (zs.filter fun z => decide (z ≠ i))) := by
  have Ha := Lib.hid ha
  clear ha
  obtain ⟨n, Hn⟩ : ∃ n, Hid (zs.length = n) := ⟨_, Lib.hid rfl⟩
  rw [Hn.out] at hz ⊢
  obtain ⟨i0, hi, hz0, hz1, hz2⟩ := info_parts info3
  have HI := Lib.hid hi
  have HZ0 := Lib.hid hz0
  have HZ1 := Lib.hid hz1
  have HZ2 := Lib.hid hz2
  clear hi hz0 hz1 hz2
  go_enter Tryd.func12, Tryd.ntmps12
  go_wp2
  go_loopw [5, 6] (fun v k wr => ∃ k' : Nat, k' ≤ n ∧ k = .int .i64 (k' : Int) ∧ Hid (wr.ownsRow w.heap.size 3 1 v ((zs.take k').filter fun z => decide (z ≠ i)).length (zvals ((zs.take k').filter fun z => decide (z ≠ i)))) ∧ Hid (w.grownBy wr none)) (fun _ k _ => n - (intOf k).toNat)
  case atStart => exact ⟨0, by omega, by go_num, Lib.hid (World.ownsRow_nil _ _ _ _), Lib.hid (World.grownBy.refl _ _)⟩
  case round =>
    obtain ⟨k, hk, rfl, HO, HG⟩ := hrel
    by_cases hlt : k < n
    · obtain ⟨b1, o1, rfl, _, _, hc1⟩ := Ha.out.some (by rw [Hn.out]; omega)
      have hcell := HG.out.cell (hc1 k (by rw [Hn.out]; exact hlt)) (by simp)
      have hkI : (k : Int) < (n : Int) := by omega
      have HF := Lib.hid (filter_more (fun z => decide (z ≠ i)) zs k (by rw [Hn.out]; exact hlt))
      have hl : ((zs.take k).filter fun z => decide (z ≠ i)).length ≤ k := Nat.le_trans (List.length_filter_le _ _) (List.length_take_le _ _)
      generalize zs[k]?.getD 0 = z at *
      generalize hs : (zs.take k).filter (fun z => decide (z ≠ i)) = s at *
      clear hc1 hs
      by_cases hzi : z = i
      · have hd : (z != i) = false := by simp [hzi]
        have HF2 : Hid ((zs.take (k + 1)).filter (fun z => decide (z ≠ i)) = s) := Lib.hid (by rw [HF.out, if_neg (by simp [hzi]), List.append_nil])
        go_wp2
        go_roundw
        case rel => exact ⟨k + 1, by omega, by go_num, by rw [HF2.out]; exact HO, HG⟩
        case measure => simp [intOf]; omega
      · have hd : (z != i) = true := by simp [hzi]
        have HF2 : Hid ((zs.take (k + 1)).filter (fun z => decide (z ≠ i)) = s ++ [z]) := Lib.hid (by rw [HF.out, if_pos (by simp [hzi])])
        have hzw := HG.out.size
        go_wp2_with (at_builtin; refine wpList_append_own _ rfl (.tmp 19) (.tmp 24) 22 rfl w.heap.size 3 i0 (.int .i64 0) 1 8 Tryd.underlying22 HI.out HZ0.out HZ1.out HZ2.out rfl (by decide) u5 s.length (zvals s) rfl (HO.out.alloc _) ⟨wr.heap.size, 0, none⟩ 1 1 [.int .i64 z] rfl rfl (cell_one_new _ _ _) (by simp [Value.oneCell']) (by unfold maxLen; omega) (by omega) (by simp; omega) ?_; intro v1 w1 hown1 hgrow1 _; have HG1 := Lib.hid (own_grow HG.out HO.out hgrow1); have HO1 := Lib.hid hown1; clear hown1 hgrow1)
        go_roundw
        case rel => exact ⟨k + 1, by omega, by go_num, by rw [HF2.out, List.length_append, zvals_snoc]; exact HO1, HG1⟩
        case measure => simp [intOf]; omega
    · have e : zs.take k = zs := List.take_of_length_le (by rw [Hn.out]; omega)
      rw [e] at HO
      clear e
      go_wp2
      go_ret
      exact ⟨_, rfl, HO.out, HG.out⟩
/-- a list with a number more, put in at place k -/
def withL (zs : List Int) (i : Int) (k : Nat) : List Int := zs.take k ++ [i] ++ (zs.drop k).filter fun z => decide (z ≠ i)
def midL (zs : List Int) (i : Int) (k j : Nat) : List Int := zs.take k ++ [i] ++ ((zs.take j).drop k).filter fun z => decide (z ≠ i)
theorem midL_start (zs : List Int) (i : Int) (k : Nat) : midL zs i k k = zs.take k ++ [i] := by
  unfold midL; rw [List.drop_eq_nil_of_le (List.length_take_le _ _)]; simp
theorem midL_more (zs : List Int) (i : Int) (k j : Nat) (hj : j < zs.length) (hk : k ≤ j) : midL zs i k (j + 1) = midL zs i k j ++ if zs[j]?.getD 0 = i then [] else [zs[j]?.getD 0] := by
  unfold midL
  rw [take_more zs j hj, List.drop_append_of_le_length (by rw [List.length_take]; omega), List.filter_append]
  by_cases h : zs[j]?.getD 0 = i
  · rw [if_pos h, h]; simp
  · rw [if_neg h]; simp [h]
theorem midL_end (zs : List Int) (i : Int) (k n : Nat) (h : zs.length ≤ n) : midL zs i k n = withL zs i k := by
  unfold midL withL; rw [List.take_of_length_le h]
theorem midL_length (zs : List Int) (i : Int) (k j : Nat) (hk : k ≤ j) : (midL zs i k j).length ≤ j + 1 := by
  unfold midL
  rw [List.length_append, List.length_append]
  have h1 := List.length_filter_le (fun z => decide (z ≠ i)) ((zs.take j).drop k)
  have h2 : ((zs.take j).drop k).length ≤ j - k := by rw [List.length_drop]; have := List.length_take_le j zs; omega
  have h3 := List.length_take_le k zs
  simp only [List.length_cons, List.length_nil]
  omega
def WithPost (w : World) (zs : List Int) (i : Int) (e : Ending) (w' : World) : Prop :=
  ∃ k, k ≤ zs.length ∧ (∀ j, j < k → zs[j]?.getD 0 < i) ∧ (k < zs.length → i ≤ zs[k]?.getD 0) ∧ ListPost w (withL zs i k) e w'
set_option maxHeartbeats 2000000 in
theorem with_at (S : Nat → Prop) (A : Option Addr) (ca : Nat) (zs : List Int) (i : Int) (w : World) (ha : RowAt .i64 S w A zs) (hz : zs.length ≤ 1000000) :
    Calls Tryd.prog 14 #[.slice A zs.length ca, .int .i64 i] w (WithPost w zs i) := by
  have Ha := Lib.hid ha
  clear ha
  obtain ⟨n, Hn⟩ : ∃ n, Hid (zs.length = n) := ⟨_, Lib.hid rfl⟩
  rw [Hn.out] at hz ⊢
  obtain ⟨i0, hi, hz0, hz1, hz2⟩ := info_parts info3
  have HI := Lib.hid hi
  have HZ0 := Lib.hid hz0
  have HZ1 := Lib.hid hz1
  have HZ2 := Lib.hid hz2
  clear hi hz0 hz1 hz2
  go_enter Tryd.func14, Tryd.ntmps14
  go_wp2
  go_loopw [5, 6] (fun v k wr => ∃ k' : Nat, k' ≤ n ∧ k = .int .i64 (k' : Int) ∧ Hid (wr.ownsRow w.heap.size 3 1 v (zs.take k').length (zvals (zs.take k'))) ∧ Hid (w.grownBy wr none) ∧ Hid (∀ j, j < k' → zs[j]?.getD 0 < i)) (fun _ k _ => n - (intOf k).toNat)
  case atStart => exact ⟨0, by omega, by go_num, Lib.hid (World.ownsRow_nil _ _ _ _), Lib.hid (World.grownBy.refl _ _), Lib.hid (fun j hj => by omega)⟩
  case round =>
    obtain ⟨k, hk, rfl, HO, HG, HL⟩ := hrel
    have hzw := HG.out.size
    have hl1 : (zs.take k).length = k := by rw [List.length_take, Hn.out]; omega
    by_cases hgo : k < n ∧ zs[k]?.getD 0 < i
    · obtain ⟨hlt, hzi⟩ := hgo
      obtain ⟨b1, o1, rfl, _, _, hc1⟩ := Ha.out.some (by rw [Hn.out]; omega)
      have hcell := HG.out.cell (hc1 k (by rw [Hn.out]; exact hlt)) (by simp)
      have hkI : (k : Int) < (n : Int) := by omega
      have HF := Lib.hid (take_more zs k (by rw [Hn.out]; exact hlt))
      have HL2 : Hid (∀ j, j < k + 1 → zs[j]?.getD 0 < i) := Lib.hid (fun j hj => by
        rcases Nat.lt_or_eq_of_le (Nat.le_of_lt_succ hj) with h | h
        · exact HL.out j h
        · rw [h]; exact hzi)
      generalize zs[k]?.getD 0 = z at *
      generalize hs : zs.take k = s at *
      have hsl : s.length ≤ 1000000 := by omega
      have Hl1 := Lib.hid hl1
      have hd : decide (z < i) = true := by simp [hzi]
      have hd2 : decide ((k : Int) < (n : Int)) = true := by simp; omega
      clear hc1 hs hl1
      go_wp2_with (at_builtin; refine wpList_append_own _ rfl (.tmp 19) (.tmp 24) 22 rfl w.heap.size 3 i0 (.int .i64 0) 1 8 Tryd.underlying22 HI.out HZ0.out HZ1.out HZ2.out rfl (by decide) u5 s.length (zvals s) rfl (HO.out.alloc _) ⟨wr.heap.size, 0, none⟩ 1 1 [.int .i64 z] rfl rfl (cell_one_new _ _ _) (by simp [Value.oneCell']) (by unfold maxLen; omega) (by omega) (by simp; omega) ?_; intro v1 w1 hown1 hgrow1 _; have HG1 := Lib.hid (own_grow HG.out HO.out hgrow1); have HO1 := Lib.hid hown1; clear hown1 hgrow1)
      go_roundw
      case rel => exact ⟨k + 1, by omega, by go_num, by rw [HF.out, List.length_append, zvals_snoc]; exact HO1, HG1, HL2⟩
      case measure => simp [intOf]; omega
    · have HE : Hid (k < n → i ≤ zs[k]?.getD 0) := Lib.hid (fun h => by
        rcases Int.lt_or_le (zs[k]?.getD 0) i with h2 | h2
        · exact (hgo ⟨h, h2⟩).elim
        · exact h2)
      have hsl : (zs.take k).length ≤ 1000000 := by omega
      have HM0 : Hid (midL zs i k k = zs.take k ++ [i]) := Lib.hid (midL_start zs i k)
      generalize hs : zs.take k = s at *
      have Hl1 := Lib.hid hl1
      clear hs hl1 hgo
      by_cases hlt : k < n
      · obtain ⟨b1, o1, rfl, _, _, hc1⟩ := Ha.out.some (by rw [Hn.out]; omega)
        have hcell := HG.out.cell (hc1 k (by rw [Hn.out]; exact hlt)) (by simp)
        have hd : decide (zs[k]?.getD 0 < i) = false := by have := HE.out hlt; simp; omega
        have hd2 : decide ((k : Int) < (n : Int)) = true := by simp; omega
        have hkI : (k : Int) < (n : Int) := by omega
        clear hc1
        go_wp2_with (at_builtin; refine wpList_append_own _ rfl (.tmp 28) (.tmp 30) 22 rfl w.heap.size 3 i0 (.int .i64 0) 1 8 Tryd.underlying22 HI.out HZ0.out HZ1.out HZ2.out rfl (by decide) u5 s.length (zvals s) rfl (HO.out.alloc _) ⟨wr.heap.size, 0, none⟩ 1 1 [.int .i64 i] rfl rfl (cell_one_new _ _ _) (by simp [Value.oneCell']) (by unfold maxLen; omega) (by omega) (by simp; omega) ?_; intro v1 w1 hown1 hgrow1 _; have HG1 := Lib.hid (own_grow HG.out HO.out hgrow1); have HO1 : Hid (w1.ownsRow w.heap.size 3 1 v1 (midL zs i k k).length (zvals (midL zs i k k))) := Lib.hid (by rw [HM0.out, List.length_append, zvals_snoc]; exact hown1); clear hown1 hgrow1)
        go_loopw [5, 6] (fun v j wr => ∃ j' : Nat, k ≤ j' ∧ j' ≤ n ∧ j = .int .i64 (j' : Int) ∧ Hid (wr.ownsRow w.heap.size 3 1 v (midL zs i k j').length (zvals (midL zs i k j'))) ∧ Hid (w.grownBy wr none)) (fun _ j _ => n - (intOf j).toNat)
        case atStart => exact ⟨k, Nat.le_refl _, hk, rfl, HO1, HG1⟩
        case round =>
          obtain ⟨j, hkj, hj, rfl, HO3, HG3⟩ := hrel
          clear HO1 HG1 HO HG
          have hzw3 := HG3.out.size
          have hml := midL_length zs i k j hkj
          by_cases hjn : j < n
          · obtain ⟨b2, o2, e2, _, _, hc2⟩ := Ha.out.some (by rw [Hn.out]; omega)
            injection e2 with e2
            injection e2 with e2 e3
            subst e2; subst e3
            have hcell2 := HG3.out.cell (hc2 j (by rw [Hn.out]; exact hjn)) (by simp)
            have hjI : (j : Int) < (n : Int) := by omega
            have HM := Lib.hid (midL_more zs i k j (by rw [Hn.out]; exact hjn) hkj)
            generalize zs[j]?.getD 0 = y at *
            generalize hs3 : midL zs i k j = s3 at *
            have hs3l : s3.length ≤ 1000001 := by omega
            clear hc2 hs3 hml
            by_cases hyi : y = i
            · have hdy : (y != i) = false := by simp [hyi]
              have HM2 : Hid (midL zs i k (j + 1) = s3) := Lib.hid (by rw [HM.out, if_pos hyi, List.append_nil])
              go_wp2
              go_roundw
              case rel => exact ⟨j + 1, by omega, by omega, by go_num, by rw [HM2.out]; exact HO3, HG3⟩
              case measure => simp [intOf]; omega
            · have hdy : (y != i) = true := by simp [hyi]
              have HM2 : Hid (midL zs i k (j + 1) = s3 ++ [y]) := Lib.hid (by rw [HM.out, if_neg hyi])
              go_wp2_with (at_builtin; refine wpList_append_own _ rfl (.tmp 42) (.tmp 47) 22 rfl w.heap.size 3 i0 (.int .i64 0) 1 8 Tryd.underlying22 HI.out HZ0.out HZ1.out HZ2.out rfl (by decide) u5 s3.length (zvals s3) rfl (HO3.out.alloc _) ⟨wr.heap.size, 0, none⟩ 1 1 [.int .i64 y] rfl rfl (cell_one_new _ _ _) (by simp [Value.oneCell']) (by unfold maxLen; omega) (by omega) (by simp; omega) ?_; intro v4 w4 hown4 hgrow4 _; have HG4 := Lib.hid (own_grow HG3.out HO3.out hgrow4); have HO4 := Lib.hid hown4; clear hown4 hgrow4)
              go_roundw
              case rel => exact ⟨j + 1, by omega, by omega, by go_num, by rw [HM2.out, List.length_append, zvals_snoc]; exact HO4, HG4⟩
              case measure => simp [intOf]; omega
          · have HM := Lib.hid (midL_end zs i k j (by rw [Hn.out]; omega))
            go_wp2
            go_ret
            exact ⟨k, by rw [Hn.out]; exact hk, HL.out, fun h => HE.out (by rw [← Hn.out]; exact h), _, rfl, by rw [← HM.out]; exact HO3.out, HG3.out⟩
      · have hd2 : decide ((k : Int) < (n : Int)) = false := by simp; omega
        have hd3 : decide (k < n) = false := by simp; omega
        go_wp2_with (at_builtin; refine wpList_append_own _ rfl (.tmp 28) (.tmp 30) 22 rfl w.heap.size 3 i0 (.int .i64 0) 1 8 Tryd.underlying22 HI.out HZ0.out HZ1.out HZ2.out rfl (by decide) u5 s.length (zvals s) rfl (HO.out.alloc _) ⟨wr.heap.size, 0, none⟩ 1 1 [.int .i64 i] rfl rfl (cell_one_new _ _ _) (by simp [Value.oneCell']) (by unfold maxLen; omega) (by omega) (by simp; omega) ?_; intro v1 w1 hown1 hgrow1 _; have HG1 := Lib.hid (own_grow HG.out HO.out hgrow1); have HO1 : Hid (w1.ownsRow w.heap.size 3 1 v1 (midL zs i k k).length (zvals (midL zs i k k))) := Lib.hid (by rw [HM0.out, List.length_append, zvals_snoc]; exact hown1); clear hown1 hgrow1)
        go_loopw [5, 6] (fun v j wr => ∃ j' : Nat, k ≤ j' ∧ j' ≤ n ∧ j = .int .i64 (j' : Int) ∧ Hid (wr.ownsRow w.heap.size 3 1 v (midL zs i k j').length (zvals (midL zs i k j'))) ∧ Hid (w.grownBy wr none)) (fun _ j _ => n - (intOf j).toNat)
        case atStart => exact ⟨k, Nat.le_refl _, hk, rfl, HO1, HG1⟩
        case round =>
          obtain ⟨j, hkj, hj, rfl, HO3, HG3⟩ := hrel
          clear HO1 HG1 HO HG
          have hzw3 := HG3.out.size
          have hml := midL_length zs i k j hkj
          by_cases hjn : j < n
          · omega
          · have HM := Lib.hid (midL_end zs i k j (by rw [Hn.out]; omega))
            go_wp2
            go_ret
            exact ⟨k, by rw [Hn.out]; exact hk, HL.out, fun h => HE.out (by rw [← Hn.out]; exact h), _, rfl, by rw [← HM.out]; exact HO3.out, HG3.out⟩
end Go.Proofs.YtjdapbianbikpaaDoor
