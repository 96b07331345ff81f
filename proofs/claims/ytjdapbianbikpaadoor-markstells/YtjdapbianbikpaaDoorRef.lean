/-
  What the document's answers on lists return: a contract a function.
-/
import Derived.Test.YtjdapbianbikpaaDoorRows2
import Derived.Laws.AppendOwn
import Derived.Maps.AppendAt
import Derived.OwnWalk
namespace Go.Proofs.YtjdapbianbikpaaDoor
open Go.ChangeShapes Go.WideShapes Go.ChangeAt Go.RowKit
set_option linter.unusedVariables false

theorem drewN_zero (w : World) : w = w.drewN 0 := rfl
theorem RowAt.drewN {k : IntKind} {S : Nat → Prop} {w : World} {A : Option Addr} {zs : List Int} (h : RowAt k S w A zs) (q : Nat) : RowAt k S (w.drewN q) A zs :=
  h.kept (grown_drewN w q none) (by simp)

theorem take_eq_of {zs ys : List Int} {k : Nat} (h : zs.take k = ys.take k) (hz : k < zs.length) (hy : k < ys.length) (he : zs[k]?.getD 0 = ys[k]?.getD 0) : zs.take (k + 1) = ys.take (k + 1) := by
  rw [take_more zs k hz, take_more ys k hy, h, he]
theorem ne_of_at {zs ys : List Int} {k : Nat} (hz : k < zs.length) (hy : k < ys.length) (he : zs[k]?.getD 0 ≠ ys[k]?.getD 0) : zs ≠ ys := by
  rintro rfl; exact he rfl

set_option maxHeartbeats 400000 in
theorem ints_at (S T : Nat → Prop) (A B : Option Addr) (ca cb : Nat) (zs ys : List Int) (w : World) (ha : RowAt .i64 S w A zs) (hb : RowAt .i64 T w B ys) (hz : zs.length ≤ 1000000) (hy : ys.length ≤ 1000000) :
    Calls Tryd.prog 21 #[.slice A zs.length ca, .slice B ys.length cb] w fun e w' => e = .returned (.bool (decide (zs = ys))) ∧ ∃ q, w' = w.drewN q := by
  have Ha := Lib.hid ha
  have Hb := Lib.hid hb
  clear ha hb
  by_cases hlen : zs.length = ys.length
  · obtain ⟨n, Hn⟩ : ∃ n, Hid (zs.length = n) := ⟨_, Lib.hid rfl⟩
    have Hn2 : Hid (ys.length = n) := Lib.hid (by rw [← hlen, Hn.out])
    rw [Hn.out, Hn2.out]
    have hn : n ≤ 1000000 := by rw [← Hn.out]; exact hz
    clear hz hy hlen
    go_enter Tryd.func21, Tryd.ntmps21
    go_wp2
    go_loopw [5] (fun k wr => ∃ k' q : Nat, k' ≤ n ∧ k = .int .i64 (k' : Int) ∧ wr = w.drewN q ∧ Hid (zs.take k' = ys.take k')) (fun k _ => n - (intOf k).toNat)
    case atStart => exact ⟨0, 0, by omega, by go_num, rfl, Lib.hid rfl⟩
    case round =>
      obtain ⟨k, q, hk, rfl, rfl, HE⟩ := hrel
      by_cases hlt : k < n
      · obtain ⟨b1, o1, rfl, _, _, hc1⟩ := Ha.out.some (by rw [Hn.out]; omega)
        obtain ⟨b2, o2, rfl, _, _, hc2⟩ := Hb.out.some (by rw [Hn2.out]; omega)
        have hcell1 := hc1 k (by rw [Hn.out]; exact hlt)
        have hcell2 := hc2 k (by rw [Hn2.out]; exact hlt)
        have hkI : (k : Int) < (n : Int) := by omega
        by_cases hzy : zs[k]?.getD 0 = ys[k]?.getD 0
        · have HT : Hid (zs.take (k + 1) = ys.take (k + 1)) := Lib.hid (take_eq_of HE.out (by rw [Hn.out]; exact hlt) (by rw [Hn2.out]; exact hlt) hzy)
          rw [hzy] at hcell1
          generalize ys[k]?.getD 0 = z at *
          clear hc1 hc2 hzy
          go_wp2
          go_quiet (fail)
          go_wp2
          go_roundw
          case rel => exact ⟨k + 1, _, by omega, by go_num, rfl, HT⟩
          case measure => simp [intOf]; omega
        · have HF : Hid (decide (zs = ys) = false) := Lib.hid (decide_eq_false (ne_of_at (by rw [Hn.out]; exact hlt) (by rw [Hn2.out]; exact hlt) hzy))
          generalize zs[k]?.getD 0 = z at *
          generalize ys[k]?.getD 0 = y at *
          have hne : (z != y) = true := by simp [hzy]
          clear hc1 hc2
          go_wp2
          go_quiet (fail)
          go_wp2
          go_ret
          rw [HF.out]
          exact ⟨rfl, q + nq, by rw [World.drewN_drewN]⟩
      · have HF : Hid (decide (zs = ys) = true) := Lib.hid (decide_eq_true (by
          have := HE.out
          rwa [List.take_of_length_le (by rw [Hn.out]; omega), List.take_of_length_le (by rw [Hn2.out]; omega)] at this))
        go_wp2
        go_ret
        rw [HF.out]
        exact ⟨rfl, _, rfl⟩
  · have HF : Hid (decide (zs = ys) = false) := Lib.hid (decide_eq_false (fun e => hlen (by rw [e])))
    have hne : ((zs.length : Int) != (ys.length : Int)) = true := by simp; omega
    have hne2 : (zs.length != ys.length) = true := by simp [hlen]
    go_enter Tryd.func21, Tryd.ntmps21
    go_wp2
    go_ret
    rw [HF.out]
    exact ⟨rfl, 0, rfl⟩

theorem filter_more (f : Int → Bool) (zs : List Int) (k : Nat) (h : k < zs.length) : (zs.take (k + 1)).filter f = (zs.take k).filter f ++ if f (zs[k]?.getD 0) then [zs[k]?.getD 0] else [] := by
  rw [take_more zs k h, List.filter_append]
  cases hf : f (zs[k]?.getD 0) <;> simp [hf]
set_option maxHeartbeats 400000 in
theorem rrank_at (S : Nat → Prop) (A : Option Addr) (ca : Nat) (zs : List Int) (i : Int) (w : World) (ha : RowAt .i64 S w A zs) (hz : zs.length ≤ 1000000) :
    Calls Tryd.prog 27 #[.slice A zs.length ca, .int .i64 i] w fun e w' => e = .returned (.int .i64 (((zs.filter fun z => decide (z < i)).length : Nat) : Int)) ∧ w = w' := by
  have Ha := Lib.hid ha
  clear ha
  obtain ⟨n, Hn⟩ : ∃ n, Hid (zs.length = n) := ⟨_, Lib.hid rfl⟩
  rw [Hn.out] at hz ⊢
  go_enter Tryd.func27, Tryd.ntmps27
  go_wp2
  go_loop [5, 6] (fun s k => ∃ k' : Nat, k' ≤ n ∧ k = .int .i64 (k' : Int) ∧ s = .int .i64 ((((zs.take k').filter fun z => decide (z < i)).length : Nat) : Int)) (fun _ k => n - (intOf k).toNat)
  case atStart => exact ⟨0, by omega, by go_num, rfl⟩
  case round =>
    obtain ⟨k, hk, rfl, rfl⟩ := hrel
    by_cases hlt : k < n
    · obtain ⟨b1, o1, rfl, _, _, hc1⟩ := Ha.out.some (by rw [Hn.out]; omega)
      have hcell := hc1 k (by rw [Hn.out]; exact hlt)
      have hkI : (k : Int) < (n : Int) := by omega
      have HF := Lib.hid (filter_more (fun z => decide (z < i)) zs k (by rw [Hn.out]; exact hlt))
      have hl : ((zs.take k).filter fun z => decide (z < i)).length ≤ k := Nat.le_trans (List.length_filter_le _ _) (List.length_take_le _ _)
      generalize zs[k]?.getD 0 = z at *
      generalize hs : ((zs.take k).filter fun z => decide (z < i)).length = s at *
      have Hs := Lib.hid hs
      clear hc1 hs
      by_cases hzi : z < i
      · have hd : decide (z < i) = true := by simp [hzi]
        go_wp2
        go_round
        case rel => exact ⟨k + 1, by omega, by go_num, by rw [HF.out, if_pos (by simp [hzi]), List.length_append, Hs.out]; go_num⟩
        case measure => simp [intOf]; omega
      · have hd : decide (z < i) = false := by simp [hzi]
        go_wp2
        go_round
        case rel => exact ⟨k + 1, by omega, by go_num, by rw [HF.out, if_neg (by simp [hzi]), List.append_nil, Hs.out]⟩
        case measure => simp [intOf]; omega
    · have e : zs.take k = zs := List.take_of_length_le (by rw [Hn.out]; omega)
      rw [e]
      clear e
      go_wp2
      go_ret
      exact ⟨rfl, rfl⟩
theorem contains_more (zs : List Int) (i : Int) (k : Nat) (h : k < zs.length) : (zs.take (k + 1)).contains i = ((zs.take k).contains i || decide (zs[k]?.getD 0 = i)) := by
  rw [take_more zs k h, Bool.eq_iff_iff]
  simp only [List.contains_iff_mem, Bool.or_eq_true, decide_eq_true_eq, List.mem_append, List.mem_singleton]
  exact or_congr Iff.rfl eq_comm
/-- is a number in a list? -/
def hasB (zs : List Int) (i : Int) : Bool := zs.contains i
set_option maxHeartbeats 400000 in
theorem rhas_at (S : Nat → Prop) (A : Option Addr) (ca : Nat) (zs : List Int) (i : Int) (w : World) (ha : RowAt .i64 S w A zs) (hz : zs.length ≤ 1000000) :
    Calls Tryd.prog 28 #[.slice A zs.length ca, .int .i64 i] w fun e w' => e = .returned (.bool (hasB zs i)) ∧ w = w' := by
  have Ha := Lib.hid ha
  clear ha
  obtain ⟨n, Hn⟩ : ∃ n, Hid (zs.length = n) := ⟨_, Lib.hid rfl⟩
  rw [Hn.out] at hz ⊢
  go_enter Tryd.func28, Tryd.ntmps28
  go_wp2
  go_loop [5] (fun k => ∃ k' : Nat, k' ≤ n ∧ k = .int .i64 (k' : Int) ∧ Hid ((zs.take k').contains i = false)) (fun k => n - (intOf k).toNat)
  case atStart => exact ⟨0, by omega, by go_num, Lib.hid rfl⟩
  case round =>
    obtain ⟨k, hk, rfl, HC⟩ := hrel
    by_cases hlt : k < n
    · obtain ⟨b1, o1, rfl, _, _, hc1⟩ := Ha.out.some (by rw [Hn.out]; omega)
      have hcell := hc1 k (by rw [Hn.out]; exact hlt)
      have hkI : (k : Int) < (n : Int) := by omega
      have hcm := contains_more zs i k (by rw [Hn.out]; exact hlt)
      rw [HC.out, Bool.false_or] at hcm
      by_cases hzi : zs[k]?.getD 0 = i
      · have HT : Hid (hasB zs i = true) := Lib.hid (by
          unfold hasB
          rw [List.contains_iff_mem]
          have : (zs.take (k + 1)).contains i = true := by rw [hcm]; simp [hzi]
          exact List.mem_of_mem_take (List.contains_iff_mem.1 this))
        rw [hzi] at hcell
        clear hc1 hcm hzi
        go_wp2
        go_ret
        rw [HT.out]
        exact ⟨rfl, rfl⟩
      · have HN : Hid ((zs.take (k + 1)).contains i = false) := Lib.hid (by rw [hcm]; simp [hzi])
        have hne : (zs[k]?.getD 0 == i) = false := beq_eq_false_iff_ne.2 hzi
        generalize zs[k]?.getD 0 = z at *
        clear hc1 hcm
        go_wp2
        go_round
        case rel => exact ⟨k + 1, by omega, by go_num, HN⟩
        case measure => simp [intOf]; omega
    · have HN : Hid (hasB zs i = false) := Lib.hid (by unfold hasB; have := HC.out; rwa [List.take_of_length_le (by rw [Hn.out]; omega)] at this)
      go_wp2
      go_ret
      rw [HN.out]
      exact ⟨rfl, rfl⟩
end Go.Proofs.YtjdapbianbikpaaDoor
