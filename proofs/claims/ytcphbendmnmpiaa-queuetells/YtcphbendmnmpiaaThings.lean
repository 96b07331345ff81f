/-
  things: the things of a queue, one by one, as they were when the going through began.
-/
import Derived.Test.YtcphbendmnmpiaaAlive
import Derived.Test.YtcphbendmnmpiaaLoop
namespace Go.Proofs.Ytcphbendmnmpiaa
open Go.RowKit Go.Shelf
set_option linter.unusedVariables false
attribute [local go_sem] Oper.semAt_some

theorem round_depth {m m' : Nat} {P : Program} {l : Nat} {f : FuncId} {tmps : Array Value} {assign body : Code} {w : World} {R : Ending → World → Prop}
    (h : RoundIn WF m P l f tmps assign body w R) : RoundIn WF m' P l f tmps assign body w R := ⟨h.1, fun c cs _ => h.2 c cs (fun d hd => by simp [Fence.wide] at hd)⟩
theorem take_snoc {α : Type} {xs : List α} {k : Nat} {x : α} (h : xs[k]? = some x) : xs.take (k + 1) = xs.take k ++ [x] := by
  rw [List.take_add_one, h]; rfl
/-- numbers as they lie in a row -/
def ivals (xs : List Int) : List Value := xs.map fun x : Int => Value.int .i64 x
theorem ivals_length (xs : List Int) : (ivals xs).length = xs.length := by simp [ivals]
theorem ivals_snoc (xs : List Int) (x : Int) : ivals (xs ++ [x]) = ivals xs ++ [.int .i64 x] := by simp [ivals]
theorem ivals_get {xs : List Int} {k : Nat} {x : Int} (h : xs[k]? = some x) : (ivals xs)[k]? = some (.int .i64 x) := by
  unfold ivals; rw [List.getElem?_map, h]; rfl
theorem things_any (p : Option Addr) (w : World) : Calls Try.prog 24 #[.pointer p] w fun e w' => e = .returned (.func (.func 29) #[] #[.pointer (some ⟨w.heap.size, 0, none⟩)]) ∧ w' = w.alloc (.cells #[.pointer p] 23) := by
  go_enter Try.func24, Try.ntmps24
  go_wp2
  go_ret
  exact ⟨rfl, rfl⟩
/-- how a queue, or none, tells its things -/
def Tells (w : World) (p : Option Addr) (xs : List Int) : Prop :=
  ∀ W, w.grownBy W none → (Calls Try.prog 15 #[.pointer p] W fun e w' => e = .returned (.int .i64 (xs.length : Int)) ∧ W = w') ∧
    ∀ q, W.heap[q]? = some (.cells (List.replicate xs.length z0).toArray 2 (0, 0)) → w.heap.size ≤ q → Calls Try.prog 28 #[.pointer p, .slice (some ⟨q, 0, none⟩) xs.length xs.length] W (CopyPost W q (ivals xs))
theorem Tells.grow {w W : World} {p : Option Addr} {xs : List Int} (h : Tells w p xs) (hg : w.grownBy W none) : Tells W p xs :=
  fun W' hW => ⟨(h W' (grown_trans hg hW)).1, fun q hq hz => (h W' (grown_trans hg hW)).2 q hq (Nat.le_trans hg.size hz)⟩
theorem tells_nil (w : World) : Tells w none [] := fun W hW => ⟨len_nil W, fun q hq hz => (copy_nil 0 0 _ W).mono fun e w' ⟨he, h⟩ => by subst h; exact ⟨he, ⟨rfl, rfl, rfl, Nat.le_refl _, fun _ _ _ => rfl⟩, hq⟩⟩
theorem tells_is {w : World} {lo b : Nat} {og : Option Nat} {xs : List Int} {most tot : Nat} (h : IsQ w lo b og (ivals xs) most tot) : Tells w (some ⟨b, 0, none⟩) xs := fun W hW => by
  have hk := h.kept hW
  have e := ivals_length xs
  refine ⟨by have := len_is hk; rw [e] at this; exact this, fun q hq hz => ?_⟩
  have := copy_is hk hq (by rw [List.length_replicate, e]) (fun hk => by have := (h.own_lo hk).2; omega)
  rw [e] at this
  exact this

set_option maxRecDepth 100000 in
set_option maxHeartbeats 2000000 in
theorem things_seq (lo Bn : Nat) (p : Option Addr) (xs : List Int) (w : World) (hlen : xs.length ≤ 65536) (hc : w.cell? ⟨Bn, 0, none⟩ = some (.pointer p)) (ht : Tells w p xs) :
    Seq Try.prog (fun _ => False) lo 29 #[.pointer (some ⟨Bn, 0, none⟩)] (fun x : Int => #[.int .i64 x]) (fun ys => ys = xs) (fun pre => pre <+: xs) 65536 w := by
  intro n l X J Jx W F0 hgw hloW hX fJ fJx oJ oJx hpr hY h0 hF0
  have hcW := hgw.cell hc (by simp)
  have hBn : Bn < W.heap.size := World.block_lt_of_cell? W _ hcW
  have HT := Lib.hid (ht.grow hgw)
  have HY := Lib.hid hY
  have HF := Lib.hid fJ
  have HJ0 := Lib.hid h0
  have HF0 := Lib.hid hF0
  have HX := Lib.hid hX
  obtain ⟨len, Hlen⟩ : ∃ len, Hid (xs.length = len) := ⟨_, Lib.hid rfl⟩
  rw [Hlen.out] at hlen
  have HL := Lib.hid (HT.out W ⟨rfl, rfl, rfl, Nat.le_refl _, fun _ _ _ => rfl⟩).1
  rw [Hlen.out] at HL
  have hmk := fun w => run_make_row' (P := Try.prog) 22 2 (.int .i64 0) 8 Try.underlying22 info2 rfl .i64 .i64 len (by omega) (by omega) w
  rw [made_eq] at hmk
  clear hX hY h0 oJ oJx fJ fJx hpr hF0 hc ht
  have hF : ∀ k, WF.fn k := fun _ => trivial
  have hDp : WF.depth.isSome = false := rfl
  refine callsIn_of_wp Try.func29 rfl trivial ?_ rfl
  simp only [Try.ntmps29, List.size_toArray, List.length_cons, List.length_nil, Nat.reduceAdd, Nat.reduceSub, Array.replicate_succ, Array.replicate_zero, List.push_toArray, List.append_toArray, List.nil_append, List.cons_append]
  gi_wp2_with (gi_at_call 15; refine (callsIn_wide.2 HL.out).mono ?_; rintro e w' ⟨rfl, rfl⟩)
  have HB3 : Hid ((W.alloc (.cells (Array.replicate len (.int .i64 0)) 2)).heap[W.heap.size]? = some (.cells (List.replicate len (.int .i64 0)).toArray 2 (0, 0))) := Lib.hid (by rw [List.toArray_replicate]; exact heap_alloc_new W _)
  have HG3 := Lib.hid (World.grownBy_alloc W (.cells (Array.replicate len (.int .i64 0)) 2) none)
  have hcp := (HT.out _ HG3.out).2 W.heap.size
  rw [Hlen.out] at hcp
  have HC := Lib.hid (hcp HB3.out (Nat.le_refl _))
  clear hcp hcW HB3 HT HL hmk
  refine (callsIn_wide.2 HC.out).mono ?_
  rintro e w4 ⟨⟨v, rfl⟩, hg4, hb4⟩
  have hG4 : W.grownBy w4 none := ⟨hg4.os.trans HG3.out.os, hg4.tape.trans HG3.out.tape, hg4.output.trans HG3.out.output, Nat.le_trans HG3.out.size hg4.size, fun k hk _ => (hg4.block k (Nat.lt_of_lt_of_le hk HG3.out.size) (fun e => by injection e with e; omega)).trans (HG3.out.block k hk (by simp))⟩
  have HJ4 : Hid (J [] F0 w4) := Lib.hid (HF.out _ _ _ _ HJ0.out (Stay.of_grown hG4 (by simp)))
  have HB4 := Lib.hid hb4
  have HN4 : Hid (¬ F0 W.heap.size) := Lib.hid fun h => by have := HF0.out _ h; omega
  have HXn : Hid (¬ X W.heap.size) := Lib.hid fun h => by have := (HX.out _ h).2.1; omega
  clear HC hg4 hb4 hG4 HG3 HF0 HX HJ0
  generalize W.heap.size = q at *
  gi_wp2
  gi_loopw [14] (fun i wr => ∃ (k : Nat) (Ft : Nat → Prop), k ≤ len ∧ i = .int .i64 (k : Int) ∧ Hid (J (xs.take k) Ft wr) ∧ Hid (wr.heap[q]? = some (.cells (ivals xs).toArray 2 (0, 0))) ∧ Hid (¬ Ft q)) (fun i _ => len - (intOf i).toNat)
  case atStart => exact ⟨0, F0, Nat.zero_le _, by go_num, HJ4, HB4, HN4⟩
  case round =>
    obtain ⟨k, Ft, hk, rfl, HJ, HB, HN⟩ := hrel
    clear HJ4 HB4 HN4
    by_cases hlt : k < len
    · obtain ⟨x, Hx⟩ : ∃ x, Hid (xs[k]? = some x) := ⟨_, Lib.hid (List.getElem?_eq_getElem (by rw [Hlen.out]; exact hlt))⟩
      have hcell : wr.cell? ⟨q, k, none⟩ = some (.int .i64 x) := by rw [cell_of_head HB.out, List.getElem?_toArray]; exact ivals_get Hx.out
      obtain ⟨fn, tmps, assign, body, hy, hRd⟩ := HY.out 0 (xs.take k) x Ft wr HJ.out (by rw [List.length_take]; omega) (by rw [← take_snoc Hx.out]; exact List.take_prefix _ _)
      have HRd := Lib.hid hRd
      clear hRd
      gi_wp2
      refine (round_depth HRd.out).mono ?_
      rintro e W4 (⟨rfl, Ft', hJ3, hst⟩ | ⟨rfl, Ft', hx3, hst⟩)
      · have HJ3 : Hid (J (xs.take (k + 1)) Ft' W4) := Lib.hid (by rw [take_snoc Hx.out]; exact hJ3)
        have hql := (Array.getElem?_eq_some_iff.1 HB.out).1
        have HB3 : Hid (W4.heap[q]? = some (.cells (ivals xs).toArray 2 (0, 0))) := Lib.hid ((hst.stay.block q hql ⟨HN.out, HXn.out⟩).trans HB.out)
        have HN3 : Hid (¬ Ft' q) := Lib.hid fun h => by
          rcases hst.foot q h with h | h
          · exact HN.out h
          · omega
        clear hst hJ3 hy hcell hql
        gi_wp2
        go_roundw
        case rel => exact ⟨k + 1, Ft', by omega, by go_num, HJ3, HB3, HN3⟩
        case measure => simp [intOf]; omega
      · have HX4 : Hid (Jx (xs.take (k + 1)) Ft' W4) := Lib.hid (by rw [take_snoc Hx.out]; exact hx3)
        clear hst hx3 hy hcell
        gi_wp2
        refine bodyPost_ret (results_none rfl _ _ _) rfl ?_
        exact ⟨⟨_, rfl⟩, .inr ⟨_, Ft', List.take_prefix _ _, HX4.out⟩⟩
    · obtain rfl : k = len := by omega
      have HE : Hid (J xs Ft wr) := Lib.hid (by have := HJ.out; rwa [List.take_of_length_le (by rw [Hlen.out]; exact Nat.le_refl _)] at this)
      clear HJ
      gi_wp2
      go_end0
      exact ⟨⟨_, rfl⟩, .inl ⟨_, Ft, rfl, HE.out⟩⟩
end Go.Proofs.Ytcphbendmnmpiaa
