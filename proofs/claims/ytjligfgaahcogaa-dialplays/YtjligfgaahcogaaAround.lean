/-
  around: the nodes of the ring from a hand on, one by one, in a ring that is not changed meanwhile.
-/
import Derived.Test.YtjligfgaahcogaaIs
namespace Go.Proofs.Ytjligfgaahcogaa
open Go.RowKit Go.Shelf
set_option linter.unusedVariables false
attribute [local go_sem] Oper.semAt_some

theorem round_depth {m m' : Nat} {P : Program} {l : Nat} {f : FuncId} {tmps : Array Value} {assign body : Code} {w : World} {R : Ending → World → Prop}
    (h : RoundIn WF m P l f tmps assign body w R) : RoundIn WF m' P l f tmps assign body w R := ⟨h.1, fun c cs _ => h.2 c cs (fun d hd => by simp [Fence.wide] at hd)⟩
theorem take_snoc {xs : List Nat} {k x : Nat} (h : xs[k]? = some x) : xs.take (k + 1) = xs.take k ++ [x] := by
  rw [List.take_add_one, h]; rfl

theorem around_any (p : Option Addr) (h : Int) (w : World) : Calls Try.prog 36 #[.pointer p, .int .i64 h] w fun e w' => e = .returned (.func (.func 43) #[] #[.pointer (some ⟨w.heap.size, 0, none⟩), .pointer (some ⟨w.heap.size + 1, 0, none⟩)]) ∧ w' = (w.alloc (.cells #[.pointer p] 23)).alloc (.cells #[.int .i64 h] 3) := by
  go_enter Try.func36, Try.ntmps36
  go_wp2
  go_ret
  exact ⟨rfl, rfl⟩
/-- at no node: nothing is gone through -/
theorem around_none (Prot : Nat → Prop) (lo Bd Bh : Nat) (p : Option Addr) (hand : Int) (w : World) (hcd : w.cell? ⟨Bd, 0, none⟩ = some (.pointer p)) (hch : w.cell? ⟨Bh, 0, none⟩ = some (.int .i64 hand))
    (hat : ∀ W, w.grownBy W none → Calls Try.prog 20 #[.pointer p, .int .i64 hand] W fun e w' => e = .returned (tupO none) ∧ W = w') :
    Seq Try.prog Prot lo 43 #[.pointer (some ⟨Bd, 0, none⟩), .pointer (some ⟨Bh, 0, none⟩)] (fun i : Nat => #[.int .i32 (i : Int)]) (fun ys => ys = []) (fun pre => pre <+: []) 65536 w := by
  intro n l X J Jx W F0 hgw hloW hX fJ fJx oJ oJx hpr hY h0 hF0
  have hcdW := hgw.cell hcd (by simp)
  have hchW := hgw.cell hch (by simp)
  have HJ0 := Lib.hid h0
  have HA := Lib.hid (hat W hgw)
  clear hX hY h0 oJ oJx fJ fJx hpr hcd hch hF0 hat
  have hF : ∀ k, WF.fn k := fun _ => trivial
  have hDp : WF.depth.isSome = false := rfl
  refine callsIn_of_wp Try.func43 rfl trivial ?_ rfl
  simp only [Try.ntmps43, List.size_toArray, List.length_cons, List.length_nil, Nat.reduceAdd, Nat.reduceSub, Array.replicate_succ, Array.replicate_zero, List.push_toArray, List.append_toArray, List.nil_append, List.cons_append]
  gi_wp2_with (gi_at_call 20; refine (callsIn_wide.2 HA.out).mono ?_; unfold tupO; rintro e w' ⟨rfl, rfl⟩)
  refine bodyPost_ret (results_none rfl _ _ _) rfl ?_
  exact ⟨⟨_, rfl⟩, .inl ⟨_, F0, rfl, HJ0.out⟩⟩

/-- the blocks that around reads behind a yield -/
def AProt (Bd b gL gH : Nat) (k : Nat) : Prop := k = Bd ∨ k = b ∨ k = gL ∨ k = gH
theorem isD_step {w w' : World} {X Ft Ft' : Nat → Prop} {lo b gL gH Bd : Nat} {D : Dl} {v : Value} (hv : IsD w lo b gL gH D) (hB : w.heap[Bd]? = some (.cells #[v] 23 (0, 0))) (hs : Step X Ft Ft' w w') (hF : ∀ k, AProt Bd b gL gH k → ¬ Ft k) (hX : ∀ k, AProt Bd b gL gH k → ¬ X k) :
    IsD w' lo b gL gH D ∧ w'.heap[Bd]? = some (.cells #[v] 23 (0, 0)) :=
  ⟨hv.stay fun k hk h => hs.stay.block k hk ⟨hF k (.inr h), hX k (.inr h)⟩, (hs.stay.block Bd (Array.getElem?_eq_some_iff.1 hB).1 ⟨hF _ (.inl rfl), hX _ (.inl rfl)⟩).trans hB⟩
theorem mod_next {a n : Nat} : (a % n + 1) % n = (a + 1) % n := by rw [Nat.mod_add_mod]
/-- what around reads of the next node -/
theorem next_cell {w : World} {lo b gL gH : Nat} {D : Dl} (h : IsD w lo b gL gH D) {j y : Nat} (hj : D.l[j]? = some y) : w.cell? ⟨b, 0, none⟩ = some (.slice (some ⟨gL, 0, none⟩) D.N D.N) ∧ y < D.N ∧ w.cell? ⟨gL, y * 3 + 1, none⟩ = some (.int .i32 (nxt D.l j : Int)) := by
  obtain ⟨lk, hd, hm, ho, hr⟩ := h
  have hy := ho.lt y (List.mem_of_getElem? hj)
  have hc := hm.links.cell (i := y) (t := 1) hy (by decide)
  simp only [Lk.cells, List.getElem?_cons_succ, List.getElem?_cons_zero] at hc
  have e : (lk y).n = nxt D.l j := ring_next hr.ring hj
  rw [e] at hc
  exact ⟨hm.links0, hy, hc⟩

set_option maxRecDepth 100000 in
set_option maxHeartbeats 2000000 in
theorem around_seq (lo lo' Bd Bh b gL gH i k0 : Nat) (D : Dl) (w : World) (hI : IsD w lo' b gL gH D) (hk0 : D.hs[i]? = some k0) (hl0 : D.l ≠ []) (hBd : w.heap[Bd]? = some (.cells #[.pointer (some ⟨b, 0, none⟩)] 23 (0, 0))) (hch : w.cell? ⟨Bh, 0, none⟩ = some (.int .i64 (i : Int))) :
    Seq Try.prog (AProt Bd b gL gH) lo 43 #[.pointer (some ⟨Bd, 0, none⟩), .pointer (some ⟨Bh, 0, none⟩)] (fun i : Nat => #[.int .i32 (i : Int)]) (fun ys => ys = rot D.l k0) (fun pre => pre <+: rot D.l k0) 65536 w := by
  intro n l X J Jx W F0 hgw hloW hX fJ fJx oJ oJx hpr hY h0 hF0
  have hIW := hI.kept hgw
  have hBW := (hgw.block Bd (Array.getElem?_eq_some_iff.1 hBd).1 (by simp)).trans hBd
  have hchW := hgw.cell hch (by simp)
  have hcdW := cell_of_head hBW 0
  simp only [List.getElem?_toArray, List.getElem?_cons_zero] at hcdW
  have hat := at_is hIW i
  rw [Dl.around_at hk0] at hat
  have hfew := hIW.few
  have hk0l : k0 < D.l.length := by
    rcases hI.ok.hh k0 (List.mem_of_getElem? hk0) with h | h
    · exact h
    · exact absurd h.1 hl0
  obtain ⟨y0, hy0⟩ : ∃ y0, D.l[k0]? = some y0 := ⟨_, List.getElem?_eq_getElem hk0l⟩
  rw [rot_head hy0, List.getElem?_cons_zero] at hat
  have hcnt : W.cell? ⟨b, 2, none⟩ = some (.int .i64 (D.l.length : Int)) := by
    obtain ⟨lk, hd, hm, ho, hr⟩ := hIW
    exact hm.count2
  have HY := Lib.hid hY
  have HF := Lib.hid fJ
  have HJ0 := Lib.hid h0
  have HP := Lib.hid hpr
  have HX := Lib.hid hX
  have HI0 := Lib.hid hIW
  have HB0 := Lib.hid hBW
  have HA := Lib.hid hat
  have HRG := Lib.hid (fun j (hj : j < D.l.length) => rot_get hk0l j hj)
  have HRL := Lib.hid (rot_length D.l k0)
  obtain ⟨len, Hlen⟩ : ∃ len, Hid (D.l.length = len) := ⟨_, Lib.hid rfl⟩
  rw [Hlen.out] at hcnt hfew HRG HRL hk0l
  have HY0 : Hid (D.l[(k0 + 0) % len]? = some y0) := Lib.hid (by rw [Nat.add_zero, Nat.mod_eq_of_lt hk0l]; exact hy0)
  obtain ⟨xs, Hxs⟩ : ∃ xs, Hid (rot D.l k0 = xs) := ⟨_, Lib.hid rfl⟩
  rw [Hxs.out] at HRG HRL ⊢
  have HK0 := Lib.hid hk0l
  clear hX hY h0 oJ oJx fJ fJx hpr hI hBd hIW hBW hF0 hat hch hk0 hl0 hy0 hk0l
  have hF : ∀ k, WF.fn k := fun _ => trivial
  have hDp : WF.depth.isSome = false := rfl
  refine callsIn_of_wp Try.func43 rfl trivial ?_ rfl
  simp only [Try.ntmps43, List.size_toArray, List.length_cons, List.length_nil, Nat.reduceAdd, Nat.reduceSub, Array.replicate_succ, Array.replicate_zero, List.push_toArray, List.append_toArray, List.nil_append, List.cons_append]
  gi_wp2_with (gi_at_call 20; refine (callsIn_wide.2 HA.out).mono ?_; unfold tupO; rintro e w' ⟨rfl, rfl⟩)
  gi_loopw [4, 18] (fun a v wr => ∃ (k y : Nat) (Ft : Nat → Prop), k ≤ len ∧ v = .int .i64 (k : Int) ∧ a = .int .i32 (y : Int) ∧ Hid (D.l[(k0 + k) % len]? = some y) ∧ Hid (J (xs.take k) Ft wr) ∧ Hid (IsD wr lo' b gL gH D) ∧ Hid (wr.heap[Bd]? = some (.cells #[.pointer (some ⟨b, 0, none⟩)] 23 (0, 0)))) (fun _ v _ => len - (intOf v).toNat)
  case atStart => exact ⟨0, y0, F0, Nat.zero_le _, rfl, rfl, HY0, HJ0, HI0, HB0⟩
  case round =>
    obtain ⟨k, y, Ft, hk, rfl, rfl, HYk, HJ, HI, HB⟩ := hrel
    clear HJ0 HI0 HB0 hcdW hchW hcnt HY0 HA
    by_cases hlt : k < len
    · have Hx : Hid (xs[k]? = some y) := Lib.hid (by rw [HRG.out k hlt]; exact HYk.out)
      have HSP : Hid (xs.take k ++ [y] <+: xs) := Lib.hid (by rw [← take_snoc Hx.out]; exact List.take_prefix _ _)
      obtain ⟨fn, tmps, assign, body, hy, hR⟩ := HY.out 0 (xs.take k) y Ft wr HJ.out (by rw [List.length_take]; omega) (by rw [Hxs.out]; exact HSP.out)
      have HR := Lib.hid hR
      clear hR
      gi_wp2
      refine (round_depth HR.out).mono ?_
      have hvb : ∀ (Ft' : Nat → Prop) (W3 : World), Step X Ft Ft' wr W3 → IsD W3 lo' b gL gH D ∧ W3.heap[Bd]? = some (.cells #[.pointer (some ⟨b, 0, none⟩)] 23 (0, 0)) := fun Ft' W3 hst =>
        isD_step HI.out HB.out hst (fun j hj => HP.out _ _ _ HJ.out j hj) (fun j hj hX => (HX.out j hX).2.2 hj)
      have HVB := Lib.hid hvb
      clear hvb
      rintro e W3 (⟨rfl, Ft', hJ3, hstp⟩ | ⟨rfl, Ft', hx3, hstp⟩)
      · have HVB3 := HVB.out Ft' W3 hstp
        have HI3 := Lib.hid HVB3.1
        have HB3 := Lib.hid HVB3.2
        have HJ3 : Hid (J (xs.take (k + 1)) Ft' W3) := Lib.hid (by rw [take_snoc Hx.out]; exact hJ3)
        have hcd3 := cell_of_head HB3.out 0
        simp only [List.getElem?_toArray, List.getElem?_cons_zero] at hcd3
        obtain ⟨hc0, hyN, hcn⟩ := next_cell HI3.out HYk.out
        obtain ⟨z, Hz⟩ : ∃ z, Hid (nxt D.l ((k0 + k) % len) = z) := ⟨_, Lib.hid rfl⟩
        rw [Hz.out] at hcn
        have HZ : Hid (D.l[(k0 + (k + 1)) % len]? = some z) := Lib.hid (by
          have hjl := (List.getElem?_eq_some_iff.1 HYk.out).1
          have := nxt_mod hjl
          rw [Hz.out, Hlen.out, mod_next] at this
          exact this)
        clear hstp hJ3 hy HVB3
        gi_wp2
        go_roundw
        case rel => exact ⟨k + 1, z, Ft', by omega, by go_num, rfl, HZ, HJ3, HI3, HB3⟩
        case measure => simp [intOf]; omega
      · have HX3 : Hid (Jx (xs.take (k + 1)) Ft' W3) := Lib.hid (by rw [take_snoc Hx.out]; exact hx3)
        clear hstp hx3 hy
        gi_wp2
        refine bodyPost_ret (results_none rfl _ _ _) rfl ?_
        exact ⟨⟨_, rfl⟩, .inr ⟨_, Ft', List.take_prefix _ _, HX3.out⟩⟩
    · obtain rfl : k = len := by omega
      have HE : Hid (J xs Ft wr) := Lib.hid (by have := HJ.out; rwa [List.take_of_length_le (by rw [HRL.out]; exact Nat.le_refl _)] at this)
      clear HJ
      gi_wp2
      go_end0
      exact ⟨⟨_, rfl⟩, .inl ⟨_, Ft, rfl, HE.out⟩⟩
end Go.Proofs.Ytjligfgaahcogaa
