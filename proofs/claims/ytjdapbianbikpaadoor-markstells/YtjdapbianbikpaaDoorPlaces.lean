/-
  The places of a word's bits, one by one.
-/
import Derived.Test.YtjdapbianbikpaaDoorLoop
import Derived.Test.YtjdapbianbikpaaDoorRows2
namespace Go.Proofs.YtjdapbianbikpaaDoor
open Go.RowKit Go.Shelf
set_option linter.unusedVariables false
attribute [local go_sem] Oper.semAt_some

theorem round_depth {m m' : Nat} {P : Program} {l : Nat} {f : FuncId} {tmps : Array Value} {assign body : Code} {w : World} {R : Ending → World → Prop}
    (h : RoundIn WF m P l f tmps assign body w R) : RoundIn WF m' P l f tmps assign body w R := ⟨h.1, fun c cs _ => h.2 c cs (fun d hd => by simp [Fence.wide] at hd)⟩

theorem places_any (x : Int) (w : World) : Calls Tryd.prog 33 #[.int .u64 x] w fun e w' => e = .returned (.func (.func 34) #[] #[.pointer (some ⟨w.heap.size, 0, none⟩)]) ∧ w' = w.alloc (.cells #[.int .u64 x] 51) := by
  go_enter Tryd.func33, Tryd.ntmps33
  go_wp2
  go_ret
  exact ⟨rfl, rfl⟩

theorem els_strip {x k : Nat} (hx : x < 18446744073709551616) (hk : k < cn x.testBit 64) : (els x.testBit 64)[k]? = some (low (strip x k)) := by
  obtain ⟨_, hl, hb, hc⟩ := strip_low (show x < 2 ^ 64 from hx) hk
  have := els_get hl hb
  rwa [hc] at this
theorem take_els {x k : Nat} (hx : x < 18446744073709551616) (hk : k < cn x.testBit 64) : (els x.testBit 64).take (k + 1) = (els x.testBit 64).take k ++ [low (strip x k)] := by
  have h := els_strip hx hk
  obtain ⟨hlt, he⟩ := List.getElem?_eq_some_iff.1 h
  rw [List.take_succ_eq_append_getElem hlt, he]
theorem strip_all {x : Nat} (hx : x < 18446744073709551616) : strip x (cn x.testBit 64) = 0 := by
  refine Nat.eq_of_testBit_eq fun j => ?_
  rw [strip_bit (show x < 2 ^ 64 from hx) (Nat.le_refl _), Nat.zero_testBit]
  by_cases hj : j < 64
  · cases hb : x.testBit j with
    | false => rfl
    | true => have := cn_lt hb hj; simp; omega
  · rw [Nat.testBit_lt_two_pow (Nat.lt_of_lt_of_le (show x < 2 ^ 64 from hx) (Nat.pow_le_pow_right (by decide) (by omega)))]; rfl
theorem Tab.stay {S : Nat → Prop} {w w' : World} (h : Tab w) (hs : Stay S w w') (h0 : S 0) : Tab w' :=
  fun i hi => (World.cell?_of_block (a := ⟨0, i, none⟩) (hs.block 0 (World.block_lt_of_cell? w _ (h i hi)) h0)).trans (h i hi)

/-- places as numbers below 64 -/
def toF (l : List Nat) : List (Fin 64) := l.map (Fin.ofNat 64)
theorem toF_snoc (l : List Nat) (i : Nat) : toF (l ++ [i]) = toF l ++ [Fin.ofNat 64 i] := by simp [toF]
theorem toF_val {l : List Nat} (h : ∀ i ∈ l, i < 64) : (toF l).map (fun i : Fin 64 => (i : Nat)) = l := by
  unfold toF
  rw [List.map_map]
  conv => rhs; rw [← List.map_id l]
  refine List.map_congr_left fun i hi => ?_
  simp [Fin.ofNat, Nat.mod_eq_of_lt (h i hi)]
theorem ofNat_val {i : Nat} (h : i < 64) : ((Fin.ofNat 64 i : Fin 64) : Nat) = i := by simp [Fin.ofNat, Nat.mod_eq_of_lt h]

set_option maxRecDepth 100000 in
set_option maxHeartbeats 1000000 in
theorem places_seq (lo Bn x : Nat) (w : World) (hlo : 0 < lo) (hx : x < 18446744073709551616) (hc : w.cell? ⟨Bn, 0, none⟩ = some (.int .u64 (x : Int))) (ht : Tab w) :
    Seq Tryd.prog lo 34 #[.pointer (some ⟨Bn, 0, none⟩)] (fun i : Fin 64 => #[.int .i64 ((i : Nat) : Int)]) (fun ys => ys = toF (els x.testBit 64)) (fun pre => pre <+: toF (els x.testBit 64)) 64 w := by
  intro n l X J Jx W F0 hgw hloW hX fJ fJx oJ oJx hY h0 hF0
  have hcW := hgw.cell hc (by simp)
  have htW := ht.kept hgw (by simp)
  have HY := Lib.hid hY
  have HT := Lib.hid htW
  have HJ0 := Lib.hid h0
  have HO := Lib.hid oJ
  have HX := Lib.hid hX
  clear hX
  clear hY htW h0 ht hc oJ oJx fJ fJx
  have hF : ∀ k, WF.fn k := fun _ => trivial
  have hDp : WF.depth.isSome = false := rfl
  refine callsIn_of_wp Tryd.func34 rfl trivial ?_ rfl
  simp only [Tryd.ntmps34, List.size_toArray, List.length_cons, List.length_nil, Nat.reduceAdd, Nat.reduceSub, Array.replicate_succ, Array.replicate_zero, List.push_toArray, List.append_toArray, List.nil_append, List.cons_append]
  gi_wp2
  gi_loopw [3] (fun v wr => ∃ (k : Nat) (Ft : Nat → Prop), k ≤ cn x.testBit 64 ∧ v = .int .u64 ((strip x k : Nat) : Int) ∧ Hid (J (toF ((els x.testBit 64).take k)) Ft wr) ∧ Hid (Tab wr)) (fun v _ => (intOf v).toNat)
  case atStart => exact ⟨0, F0, Nat.zero_le _, rfl, HJ0, HT⟩
  case round =>
    obtain ⟨k, Ft, hk, rfl, HJ, HT2⟩ := hrel
    have hlt := strip_lt (show x < 2 ^ 64 from hx) k
    by_cases hkc : k < cn x.testBit 64
    · have h0 := (strip_low hx hkc).1
      have hll := (strip_low hx hkc).2.1
      have HW : Wd ((strip x k : Nat) : Int) := ⟨by omega, by omega⟩
      have HE := Lib.hid (and_one (strip x k) (by omega) (by omega))
      have HN := Lib.hid (take_els hx hkc)
      have HS : Hid (strip x (k + 1) = (strip x k &&& (strip x k - 1))) := Lib.hid rfl
      have hd : ((strip x k : Nat) : Int) != 0 := by rw [bne_iff_ne]; omega
      obtain ⟨fn, tmps, assign, body, hy, hR⟩ := HY.out 0 _ (Fin.ofNat 64 (low (strip x k))) Ft wr HJ.out (by unfold toF; rw [List.length_map, List.length_take]; have := cn_le x.testBit 64; omega)
      have HR := Lib.hid hR
      rw [ofNat_val hll] at hy
      clear hR
      generalize strip x k = y at *
      gi_wp2_with (gi_at_call 31; refine (callsIn_wide.2 (tz_any _ _ HW (by omega) HT2.out)).mono ?_; rintro e w' ⟨rfl, rfl⟩; rw [Int.toNat_natCast])
      refine (round_depth HR.out).mono ?_
      have hn0 : ¬ Ft 0 := fun h => by have := (HO.out _ _ _ _ HJ.out h).1; omega
      rintro e W3 (⟨rfl, Ft', hJ3, hst⟩ | ⟨rfl, Ft', hx3, hst⟩)
      · have HT3 : Hid (Tab W3) := Lib.hid (HT2.out.stay hst.stay ⟨hn0, fun h => by have := (HX.out _ h).1; omega⟩)
        have HJ3 : Hid (J (toF ((els x.testBit 64).take (k + 1))) Ft' W3) := Lib.hid (by rw [HN.out, toF_snoc]; exact hJ3)
        clear hst hJ3 hn0 hy
        gi_wp2
        go_roundw
        case rel => exact ⟨k + 1, Ft', by omega, by rw [HS.out, ← HE.out], HJ3, HT3⟩
        case measure => simp only [intOf]; rw [HE.out]; have := @Nat.and_le_right y (y - 1); omega
      · have HX : Hid (Jx (toF ((els x.testBit 64).take (k + 1))) Ft' W3) := Lib.hid (by rw [HN.out, toF_snoc]; exact hx3)
        clear hst hx3 hn0 hy
        gi_wp2
        refine bodyPost_ret (results_none rfl _ _ _) rfl ?_
        exact ⟨⟨_, rfl⟩, .inr ⟨_, Ft', by unfold toF; rw [List.map_take]; exact List.take_prefix _ _, HX.out⟩⟩
    · have hz : strip x k = 0 := by rw [show k = cn x.testBit 64 by omega]; exact strip_all hx
      rw [hz]
      have HE : Hid (J (toF (els x.testBit 64)) Ft wr) := Lib.hid (by have := HJ.out; rwa [List.take_of_length_le (by rw [els_length]; omega)] at this)
      clear hz HJ
      gi_wp2
      go_end0
      exact ⟨⟨_, rfl⟩, .inl ⟨_, Ft, rfl, HE.out⟩⟩
end Go.Proofs.YtjdapbianbikpaaDoor
