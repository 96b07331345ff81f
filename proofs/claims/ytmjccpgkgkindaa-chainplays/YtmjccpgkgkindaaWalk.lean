/-
  walk: the nodes of a list, one by one, as they were when the going through began.
-/
import Derived.Test.YtmjccpgkgkindaaIs
namespace Go.Proofs.Ytmjccpgkgkindaa
open Go.RowKit Go.Shelf
set_option linter.unusedVariables false
attribute [local go_sem] Oper.semAt_some

theorem info21 : (Try.prog.info? 21).map (fun i => (i.zero, i.size, i.bytes)) = some (some (.int .i32 0), 1, 4) := by kernel_rfl
/-- nodes as they lie in a slice -/
def nvals (xs : List Nat) : List Value := xs.map fun n : Nat => Value.int .i32 (n : Int)
theorem nvals_snoc (xs : List Nat) (x : Nat) : nvals (xs ++ [x]) = nvals xs ++ [.int .i32 (x : Int)] := by simp [nvals]
theorem nvals_length (xs : List Nat) : (nvals xs).length = xs.length := by simp [nvals]
theorem take_snoc {xs : List Nat} {k x : Nat} (h : xs[k]? = some x) : xs.take (k + 1) = xs.take k ++ [x] := by
  rw [List.take_add_one, h]; rfl
theorem cell_new1 (w : World) (t : TypeId) (y : Value) : ∀ j u, [y][j]? = some u → (w.alloc (.cells #[y] t)).cell? ((⟨w.heap.size, 0, none⟩ : Addr).add j) = some u := by
  intro j u hj
  rcases j with _ | j
  · injection hj with hj; subst hj
    rw [Go.WideShapes.add_plain]
    exact cell_of_head (heap_alloc_new w _) 0
  · simp at hj
theorem round_depth {m m' : Nat} {P : Program} {l : Nat} {f : FuncId} {tmps : Array Value} {assign body : Code} {w : World} {R : Ending → World → Prop}
    (h : RoundIn WF m P l f tmps assign body w R) : RoundIn WF m' P l f tmps assign body w R := ⟨h.1, fun c cs _ => h.2 c cs (fun d hd => by simp [Fence.wide] at hd)⟩

def slen : Value → Nat
  | .slice _ n _ => n
  | _ => 0
theorem grown_row {a b c : World} {row : Option Nat} (h1 : a.grownBy b none) (h2 : b.grownBy c row) (hr : ∀ r, row = some r → a.heap.size ≤ r) : a.grownBy c none :=
  ⟨h2.os.trans h1.os, h2.tape.trans h1.tape, h2.output.trans h1.output, Nat.le_trans h1.size h2.size,
    fun k hk hn => (h2.block k (Nat.lt_of_lt_of_le hk h1.size) (fun e => by have := hr k e.symm; omega)).trans (h1.block k hk hn)⟩
theorem tupO_eq (o : Option Nat) : tupO o = .tuple #[.int .i32 ((o.getD 0 : Nat) : Int), .bool o.isSome] := by cases o <;> rfl

set_option maxRecDepth 100000 in
set_option maxHeartbeats 2000000 in
theorem walk_seq (lo BB BL BS : Nat) (p : Option Addr) (list : Int) (xs : List Nat) (w : World) (hlen : xs.length ≤ 65536)
    (h1 : w.cell? ⟨BB, 0, none⟩ = some (.func (.func 25) #[.pointer p] #[])) (h2 : w.cell? ⟨BL, 0, none⟩ = some (.int .i64 list)) (h3 : w.cell? ⟨BS, 0, none⟩ = some (.func (.func 27) #[.pointer p] #[]))
    (hb : ∀ W, w.grownBy W none → Calls Try.prog 25 #[.pointer p, .int .i64 list] W fun e w' => e = .returned (tupO xs[0]?) ∧ ∃ q, w' = W.drewN q)
    (hs : ∀ (k x : Nat) W, xs[k]? = some x → w.grownBy W none → Calls Try.prog 27 #[.pointer p, .int .i32 (x : Int)] W fun e w' => e = .returned (tupO xs[k + 1]?) ∧ W = w') :
    Seq Try.prog (fun _ => False) lo 48 #[.pointer (some ⟨BB, 0, none⟩), .pointer (some ⟨BL, 0, none⟩), .pointer (some ⟨BS, 0, none⟩)] (fun i : Nat => #[.int .i32 (i : Int)]) (fun ys => ys = xs) (fun pre => pre <+: xs) 65536 w := by
  intro n l X J Jx W F0 hgw hloW hX fJ fJx oJ oJx hpr hY h0 hF0
  have c1 := hgw.cell h1 (by simp)
  have c2 := hgw.cell h2 (by simp)
  have c3 := hgw.cell h3 (by simp)
  have HY := Lib.hid hY
  have HJ0 := Lib.hid h0
  have HF := Lib.hid fJ
  have HO := Lib.hid oJ
  have HX := Lib.hid hX
  have HF0 := Lib.hid hF0
  have HGW := Lib.hid hgw
  have HB := Lib.hid (hb W hgw)
  have HS := Lib.hid hs
  have HC1 := Lib.hid c1
  have HC3 := Lib.hid c3
  clear hX hY h0 oJ oJx fJ fJx hb hs hgw hF0 hpr h1 h2 h3
  have hF : ∀ k, WF.fn k := fun _ => trivial
  have hDp : WF.depth.isSome = false := rfl
  obtain ⟨i0, hi, hz0, hz1, hz2⟩ := info_parts info21
  have HI := Lib.hid hi
  have HZ0 := Lib.hid hz0
  have HZ1 := Lib.hid hz1
  have HZ2 := Lib.hid hz2
  clear hi hz0 hz1 hz2
  rw [tupO_eq] at HB
  refine callsIn_of_wp Try.func48 rfl trivial ?_ rfl
  simp only [Try.ntmps48, List.size_toArray, List.length_cons, List.length_nil, Nat.reduceAdd, Nat.reduceSub, Array.replicate_succ, Array.replicate_zero, List.push_toArray, List.append_toArray, List.nil_append, List.cons_append]
  gi_wp2_with (gi_at_call 25; refine (callsIn_wide.2 HB.out).mono ?_; rintro e w' ⟨rfl, q, rfl⟩)
  gi_loopw [5, 6, 7] (fun v a o wr => ∃ k : Nat, k ≤ xs.length ∧ a = .int .i32 ((xs[k]?.getD 0 : Nat) : Int) ∧ o = .bool xs[k]?.isSome ∧ Hid (wr.ownsRow W.heap.size 21 1 v k (nvals (xs.take k))) ∧ Hid (W.grownBy wr none)) (fun v _ _ _ => xs.length - slen v)
  case atStart => exact ⟨0, Nat.zero_le _, rfl, rfl, Lib.hid (World.ownsRow_nil _ _ _ _), Lib.hid (grown_drewN W q none)⟩
  case round =>
    obtain ⟨k, hk, rfl, rfl, HR, HG⟩ := hrel
    obtain ⟨A, cap, rfl⟩ := owns_slice HR.out
    clear HB
    by_cases hlt : k < xs.length
    · obtain ⟨x, Hx⟩ : ∃ x, Hid (xs[k]? = some x) := ⟨_, Lib.hid (List.getElem?_eq_getElem hlt)⟩
      rw [Hx.out]
      obtain ⟨g', cap', w1, hrun, ho, hgr, hft⟩ := run_append_foot (P := Try.prog) (wr.alloc (.cells #[.int .i32 (x : Int)] 21)) W.heap.size 43 43 21 i0 (.int .i32 0) 1 4 Try.underlying43 HI.out HZ0.out HZ1.out HZ2.out rfl (by decide) (.slice A k cap) k (nvals (xs.take k)) (HR.out.alloc _) ⟨wr.heap.size, 0, none⟩ 1 [.int .i32 (x : Int)] rfl (cell_new1 wr 21 _) (by simp [Value.oneCell']) (by unfold maxLen; omega) (by omega) (by have := HG.out.size; simp; omega)
      have HR1 : Hid (w1.ownsRow W.heap.size 21 1 (.slice (some ⟨g', 0, none⟩) (k + 1) cap') (k + 1) (nvals (xs.take (k + 1)))) := Lib.hid (by rw [take_snoc Hx.out, nvals_snoc]; exact ho)
      have HG1 : Hid (W.grownBy w1 none) := Lib.hid (grown_row (grown_trans HG.out (World.grownBy_alloc _ _ none)) hgr fun r hr => (HR.out.lt r hr).1)
      have HRUN := Lib.hid hrun
      have c3' := HG1.out.cell HC3.out (by simp)
      obtain ⟨y, Hy⟩ : ∃ y, Hid (xs[k + 1]?.getD 0 = y) := ⟨_, Lib.hid rfl⟩
      have hst := HS.out k x w1 Hx.out (grown_trans HGW.out HG1.out)
      rw [tupO_eq, Hy.out] at hst
      have HST := Lib.hid hst
      clear hrun ho hgr hft hst
      simp only [Option.getD_some, Option.isSome_some]
      gi_wp2_with (first | (gi_at_builtin; refine append_in rfl (.tmp 23) (.tmp 25) 43 rfl rfl rfl HRUN.out ?_) | (gi_at_call 27; refine (callsIn_wide.2 HST.out).mono ?_; rintro e w' ⟨rfl, rfl⟩))
      go_roundw
      case rel => exact ⟨k + 1, by omega, by rw [Hy.out], rfl, HR1, HG1⟩
      case measure => simp only [slen]; omega
    · obtain rfl : k = xs.length := by omega
      rw [List.getElem?_eq_none (Nat.le_refl _)]
      rw [List.take_length] at HR
      clear HS HC1 HC3 HGW c1 c2 c3
      simp only [Option.getD_none, Option.isSome_none, show ((0 : Nat) : Int) = 0 from rfl]
      gi_wp2
      have HJ1 : Hid (J [] F0 wr) := Lib.hid (HF.out _ _ _ _ HJ0.out (Stay.of_grown HG.out (by simp)))
      obtain ⟨len, Hlen⟩ : ∃ len, Hid (xs.length = len) := ⟨_, Lib.hid rfl⟩
      rw [Hlen.out] at HR hlen ⊢
      clear HF HJ0 hk hlt HG
      have HRW := HR
      gi_loopw [29] (fun i w2 => ∃ (k : Nat) (Ft : Nat → Prop), k ≤ len ∧ i = .int .i64 (k : Int) ∧ Hid (J (xs.take k) Ft w2) ∧ Hid (w2.ownsRow W.heap.size 21 1 (.slice A len cap) len (nvals xs)) ∧ Hid (∀ g, (Value.slice A len cap).ownBlock = some g → ¬ Ft g)) (fun i _ => len - (intOf i).toNat)
      case atStart => exact ⟨0, F0, Nat.zero_le _, by go_num, HJ1, HR, Lib.hid fun g hg hf => by have := HF0.out g hf; have := (HR.out.lt g hg).1; omega⟩
      case round =>
        obtain ⟨k, Ft, hk, rfl, HJ, HR2, HN⟩ := hrel
        clear HR HJ1 HRW
        by_cases hlt : k < len
        · obtain ⟨x, Hx⟩ : ∃ x, Hid (xs[k]? = some x) := ⟨_, Lib.hid (List.getElem?_eq_getElem (by rw [Hlen.out]; exact hlt))⟩
          obtain ⟨g, cap', hA⟩ := owns_some HR2.out (by omega)
          injection hA with hA _ hcap
          subst hA
          clear hcap
          have hcell : wr.cell? ⟨g, k, none⟩ = some (.int .i32 (x : Int)) := by
            rw [HR2.out.cellAt k (by omega)]
            unfold nvals
            rw [List.getElem?_map, Hx.out]; rfl
          obtain ⟨fn, tmps, assign, body, hy, hRd⟩ := HY.out 0 (xs.take k) x Ft wr HJ.out (by rw [List.length_take]; omega) (by rw [← take_snoc Hx.out]; exact List.take_prefix _ _)
          have HRd := Lib.hid hRd
          clear hRd
          gi_wp2
          refine (round_depth HRd.out).mono ?_
          rintro e W3 (⟨rfl, Ft', hJ3, hst⟩ | ⟨rfl, Ft', hx3, hst⟩)
          · have HJ3 : Hid (J (xs.take (k + 1)) Ft' W3) := Lib.hid (by rw [take_snoc Hx.out]; exact hJ3)
            have hglt := HR2.out.lt g rfl
            have HR3 : Hid (W3.ownsRow W.heap.size 21 1 (.slice (some ⟨g, 0, none⟩) len cap) len (nvals xs)) := Lib.hid (owns_stay HR2.out fun k' hk' => by
              injection hk' with hk'
              have hk' : g = k' := hk'
              subst hk'
              exact hst.stay.block g hglt.2 ⟨HN.out g rfl, fun hx => by have := (HX.out g hx).2.1; omega⟩)
            have HN3 : Hid (∀ g', (Value.slice (some ⟨g, 0, none⟩) len cap).ownBlock = some g' → ¬ Ft' g') := Lib.hid (fun g' hg' hf => by
              rcases hst.foot g' hf with h | h
              · exact HN.out g' hg' h
              · have := (HR2.out.lt g' hg').2; omega)
            clear hst hJ3 hy hglt hcell
            gi_wp2
            go_roundw
            case rel => exact ⟨k + 1, Ft', by omega, by go_num, HJ3, HR3, HN3⟩
            case measure => simp [intOf]; omega
          · have HX3 : Hid (Jx (xs.take (k + 1)) Ft' W3) := Lib.hid (by rw [take_snoc Hx.out]; exact hx3)
            clear hst hx3 hy hcell
            gi_wp2
            refine bodyPost_ret (results_none rfl _ _ _) rfl ?_
            exact ⟨⟨_, rfl⟩, .inr ⟨_, Ft', List.take_prefix _ _, HX3.out⟩⟩
        · obtain rfl : k = len := by omega
          have HE : Hid (J xs Ft wr) := Lib.hid (by have := HJ.out; rwa [List.take_of_length_le (by rw [Hlen.out]; exact Nat.le_refl _)] at this)
          clear HJ
          gi_wp2
          go_end0
          exact ⟨⟨_, rfl⟩, .inl ⟨_, Ft, rfl, HE.out⟩⟩
end Go.Proofs.Ytmjccpgkgkindaa
