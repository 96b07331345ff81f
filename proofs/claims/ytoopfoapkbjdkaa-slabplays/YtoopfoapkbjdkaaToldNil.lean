/-
  The law's going through a slab without nodes.
-/
import Derived.Test.YtoopfoapkbjdkaaTold
namespace Go.Proofs.Ytoopfoapkbjdkaa
open Go.RowKit Go.Shelf
set_option linter.unusedVariables false
attribute [local go_sem] Oper.semAt_some

theorem results_bool {fn : Func} {p : Tmp} (h : fn.results = #[.cell p 4]) (tmps : Array Value) (w : World) (g : Nat) (b : Bool)
    (hp : tmps.getD p undef = .pointer (some ⟨g, 0, none⟩)) (hc : w.cell? ⟨g, 0, none⟩ = some (.bool b)) : (results fn tmps).run Try.prog w = .ok (.bool b) w := by
  have hp' : tmps[p]?.getD undef = .pointer (some ⟨g, 0, none⟩) := by simpa using hp
  have hu := Try.underlying4
  simp only [results, h]
  simp [hp', asAddr]
  go_simp
set_option maxRecDepth 100000 in
set_option maxHeartbeats 4000000 in
theorem all_none (w : World) (p : Option Addr) (m : Nat) (S : SI) (vL vF : Value) (hm : m ≤ 100000) (h6 : S.L.length ≤ 65536) (htb : ∀ s ∈ S.L, s.turn < 4294967296) (hr : RefAt w 0 S vL vF) (hnone : S.L.length = 0)
    (hcopy : ∀ W, w.grownBy W none → Calls Try.prog 49 #[.pointer p] W fun e w' => ∃ p2, e = .returned (.pointer p2) ∧ W.grownBy w' none ∧ Vw S.L p2 W.heap.size w'.heap.size w') :
    Calls Try.prog 12 #[.pointer p, refVal S vL vF, .int .i64 (m : Int)] w fun e w' => e = .returned (.bool true) ∧ w.grownBy w' none := by
  refine (callsIn_wide (n := 3)).1 ?_
  have hF : ∀ k, WF.fn k := fun _ => trivial
  have hDp : WF.depth.isSome = false := rfl
  have HNone := Lib.hid hnone
  clear hnone
  have HC := Lib.hid hcopy
  have HR := Lib.hid hr
  have HTB := Lib.hid htb
  have hlt : ∀ k, vL.ownBlock = some k ∨ vF.ownBlock = some k → k < w.heap.size := fun k hk => hk.elim (fun h => (hr.rowL.lt k h).2) (fun h => (hr.rowF.lt k h).2)
  have HLT := Lib.hid hlt
  obtain ⟨AL, capL, rfl⟩ := hr.slice
  clear hcopy hr hlt htb
  unfold refVal
  refine callsIn_of_wp_marks Try.func12 rfl trivial ?_ rfl
  simp only [Try.ntmps12, List.size_toArray, List.length_cons, List.length_nil, Nat.reduceAdd, Nat.reduceSub, Array.replicate_succ, Array.replicate_zero, List.push_toArray, List.append_toArray, List.nil_append, List.cons_append]
  have hfn := fun w' => run_eql_func_nil (P := Try.prog) w' (.func 48) #[] #[.pointer (some ⟨w.heap.size + 1 + 1 + 1, 0, none⟩)] Try.underlying83
  gi_wp2_with (gi_at_call 35; refine (callsIn_wide.2 (all_any _ _)).mono ?_; rintro e w' ⟨rfl, rfl⟩)
  obtain ⟨hgB, hz, b0, b1, b2, b3, b4, b5⟩ := alloc6 w (.cells #[.int .i64 (S.most : Int), .int .i64 (S.c : Int), .slice AL S.L.length capL, vF] 32) (.cells #[.int .i64 (m : Int)] 3) (.cells #[.bool false] 4) (.cells #[.pointer p] 23) (.cells #[.int .i64 0] 3) (.cells #[.int .i64 0] 3)
  generalize (((((w.alloc (.cells #[.int .i64 (S.most : Int), .int .i64 (S.c : Int), .slice AL S.L.length capL, vF] 32)).alloc (.cells #[.int .i64 (m : Int)] 3)).alloc (.cells #[.bool false] 4)).alloc (.cells #[.pointer p] 23)).alloc (.cells #[.int .i64 0] 3)).alloc (.cells #[.int .i64 0] 3) = wB at hgB hz b0 b1 b2 b3 b4 b5 ⊢
  have HT0 : Hid (TI w m S (.slice AL S.L.length capL) vF [] 0 (fun k => k = w.heap.size + 4 ∨ k = w.heap.size + 5 ∨ k = w.heap.size + 2) wB) := Lib.hid ⟨rfl, Nat.zero_le _, Nat.zero_le _, rfl, b0, b1, b2, b4, b5, HR.out.kept hgB, HLT.out, hgB⟩
  have HSq := Lib.hid (all_seq w.heap.size (w.heap.size + 3) S.L p wB (cell_of_head b3 0) fun W hW => HC.out W (grown_trans hgB hW))
  clear b0 b1 b2 b3 b4 b5 HC HR
  refine range_box (P := Try.prog) (α := Fin S.L.length) (gf := 48) (lb := #[.pointer (some ⟨w.heap.size + 3, 0, none⟩)]) rfl (enters_of Try.func48 (by kernel_rfl) rfl) (Prot := fun _ => False) (fun _ h => h.elim)
    HSq.out (World.grownBy.refl _ _) (by omega) (fun _ => rfl) (fun _ => False) (fun _ h => h.elim)
    (fun ys Ft W => ∃ a, TI w m S (.slice AL S.L.length capL) vF ys a Ft W)
    (fun c ys Ft W => (∃ pre a, TI w m S (.slice AL S.L.length capL) vF pre a Ft W ∧ ((c = .exit 0 ∧ (∃ x, ys = pre ++ [x]) ∧ pre.length = m) ∨ (c = .ret ∧ ¬ ys.map Fin.val <+: standing S.L S.L.length))))
    ?_ ?_ ?_ ?_ (fun _ _ _ _ _ h => h.elim) (fun k => k = w.heap.size + 4 ∨ k = w.heap.size + 5 ∨ k = w.heap.size + 2) ⟨0, HT0.out⟩ (fun k hk => by omega)
    (fun x => .cells #[.int .i32 ((x : Nat) : Int), .int .u32 ((ftn S.L x : Nat) : Int)] 35) (fun x B => { tmps := #[.pointer p, .agg #[.int .i64 (S.most : Int), .int .i64 (S.c : Int), .slice AL S.L.length capL, vF], .int .i64 (m : Int), undef, .pointer (some ⟨w.heap.size, 0, none⟩), .pointer (some ⟨w.heap.size + 1, 0, none⟩), .pointer (some ⟨w.heap.size + 1 + 1, 0, none⟩), Value.func (.func 48) #[] #[.pointer (some ⟨w.heap.size + 1 + 1 + 1, 0, none⟩)], .pointer (some ⟨w.heap.size + 1 + 1 + 1 + 1, 0, none⟩), .pointer (some ⟨w.heap.size + 1 + 1 + 1 + 1 + 1, 0, none⟩), .pointer (some ⟨B, 0, none⟩), .int .i64 (fhs S.L x), .pointer p, Value.func (.func 48) #[] #[.pointer (some ⟨w.heap.size + 1 + 1 + 1, 0, none⟩)], Value.func (.func 48) #[] #[.pointer (some ⟨w.heap.size + 1 + 1 + 1, 0, none⟩)], .bool false, Value.func (.func 48) #[] #[.pointer (some ⟨w.heap.size + 1 + 1 + 1, 0, none⟩)], .agg #[.int .i32 ((x : Nat) : Int), .int .u32 ((ftn S.L x : Nat) : Int)], .int .i64 (fhs S.L x), undef, undef, undef, undef, undef, undef, undef, undef, undef, undef, undef, undef, undef, undef, undef, undef, undef, undef, undef, undef, undef, undef, undef, undef, undef, undef, undef, undef, undef, undef, undef, undef, undef, undef, undef, undef, undef, undef, undef, undef, undef, undef, undef, undef, undef, undef, undef, undef, undef, undef, undef, undef, undef, undef, undef, undef, undef, undef, undef, undef, undef, undef, undef], defers := [] }) ?assign ?body ?done ?stop
  case assign =>
    intro l2 m2 x W2 K hK
    unfold nodeEnc
    gi_wp2
    exact hK
  · rintro ys Ft W W' ⟨a, h⟩ hs; exact ⟨a, h.firm (by omega) hs⟩
  · rintro c ys Ft W W' ⟨pre, a, h, r⟩ hs; exact ⟨pre, a, h.firm (by omega) hs, r⟩
  · rintro ys Ft W k ⟨a, h⟩ hk; exact h.own hk
  · rintro c ys Ft W k ⟨pre, a, h, r⟩ hk; exact h.own hk
  case body =>
    rintro l2 m2 pre x
    have := x.isLt
    have := HNone.out
    omega
  case done =>
    rintro ys Ft W hS ⟨a, hT⟩ hD
    have hyl : ys.length = S.len := by rw [← standing_all S, ← hS, List.length_map]
    have hf := hT.few
    obtain ⟨hcr2, hcm, hcn, _, _, _⟩ := hT.cells
    have hcr0 := cell_of_head hT.rbox 0
    have hcr1 := cell_of_head hT.rbox 1
    have hcr3 := cell_of_head hT.rbox 3
    simp only [List.getElem?_toArray, List.getElem?_cons_zero, List.getElem?_cons_succ] at hcr0 hcr1 hcr3
    have hob := hT.obox.cell
    have hof := hT.obox.frozen
    have HT := Lib.hid hT
    have HD := Lib.hid hD
    clear hT hD
    have hmin2 : (if S.len < m then (S.len : Int) else (m : Int)) = (S.len : Int) := by split <;> omega
    have hbb : ((S.len : Int) == (S.len : Int)) = true := by simp
    have HL : Hid (Calls Try.prog 33 #[.agg #[.int .i64 (S.most : Int), .int .i64 (S.c : Int), .slice AL S.L.length capL, vF]] W.drew fun e w' => e = .returned (.int .i64 (S.len : Int)) ∧ w' = W.drew.alloc (.cells #[.int .i64 (S.most : Int), .int .i64 (S.c : Int), .slice AL S.L.length capL, vF] 32)) := Lib.hid (rlen_at (HT.out.ref.kept (grown_drewN W 1 none)) h6)
    have hWz : w.heap.size + 5 < W.heap.size := HT.out.abox.lt
    have n1 := World.new_ne W _ hcn
    have n2 := World.new_ne W _ hcm
    have n3 := World.new_ne W _ hcr0
    have n4 := World.new_ne W _ hob
    have hl2 : w.heap.size + 2 < W.heap.size := by omega
    have hl2' : w.heap.size + 1 + 1 < W.heap.size := by omega
    have hobA : ∀ o : Obj, (W.alloc o).cell? ⟨w.heap.size + 2, 0, none⟩ = some (.bool false) := fun o => (World.grownBy_alloc W o none).cell hob (by simp)
    have hofA : ∀ o : Obj, (W.alloc o).frozen? ⟨w.heap.size + 2, 0, none⟩ = false := fun o => (HT.out.obox.alloc o).frozen
    have hKK : ∀ (v : Value) (o : Obj), ((W.setCell ⟨w.heap.size + 1 + 1, 0, none⟩ v).alloc o).drew.cell? ⟨w.heap.size + 4, 0, none⟩ = some (.int .i64 (ys.length : Int)) ∧ ((W.setCell ⟨w.heap.size + 1 + 1, 0, none⟩ v).alloc o).drew.cell? ⟨w.heap.size + 1, 0, none⟩ = some (.int .i64 (m : Int)) ∧ ((W.setCell ⟨w.heap.size + 1 + 1, 0, none⟩ v).alloc o).drew.cell? ⟨w.heap.size, 0, none⟩ = some (.int .i64 (S.most : Int)) ∧ ((W.setCell ⟨w.heap.size + 1 + 1, 0, none⟩ v).alloc o).drew.cell? ⟨w.heap.size, 1, none⟩ = some (.int .i64 (S.c : Int)) ∧ ((W.setCell ⟨w.heap.size + 1 + 1, 0, none⟩ v).alloc o).drew.cell? ⟨w.heap.size, 2, none⟩ = some (.slice AL S.L.length capL) ∧ ((W.setCell ⟨w.heap.size + 1 + 1, 0, none⟩ v).alloc o).drew.cell? ⟨w.heap.size, 3, none⟩ = some vF := by
      intro v o
      have hgg : ∀ k, k ≠ w.heap.size + 1 + 1 → k < W.heap.size → ((W.setCell ⟨w.heap.size + 1 + 1, 0, none⟩ v).alloc o).drew.heap[k]? = W.heap[k]? := fun k hk hl => ((World.grownBy_alloc _ o none).block k (by simpa using hl) (by simp)).trans (heap_setCell_other _ _ k _ hk)
      have hcc : ∀ k i u, k ≠ w.heap.size + 1 + 1 → k < W.heap.size → W.cell? ⟨k, i, none⟩ = some u → ((W.setCell ⟨w.heap.size + 1 + 1, 0, none⟩ v).alloc o).drew.cell? ⟨k, i, none⟩ = some u := fun k i u hk hl hu => (World.cell?_of_block (a := ⟨k, i, none⟩) (hgg k hk hl)).trans hu
      exact ⟨hcc _ _ _ (by omega) (by omega) hcn, hcc _ _ _ (by omega) (by omega) hcm, hcc _ _ _ (by omega) (by omega) hcr0, hcc _ _ _ (by omega) (by omega) hcr1, hcc _ _ _ (by omega) (by omega) hcr2, hcc _ _ _ (by omega) (by omega) hcr3⟩
    have HKK := Lib.hid hKK
    clear hKK
    gi_wp2
    refine wpIn_wide.2 ?_
    go_region_held3 (fun w' => w'.cell? ⟨w.heap.size + 4, 0, none⟩ = some (.int .i64 (ys.length : Int)) ∧ w'.cell? ⟨w.heap.size + 1, 0, none⟩ = some (.int .i64 (m : Int)) ∧ w'.cell? ⟨w.heap.size, 0, none⟩ = some (.int .i64 (S.most : Int)) ∧ w'.cell? ⟨w.heap.size, 1, none⟩ = some (.int .i64 (S.c : Int)) ∧ w'.cell? ⟨w.heap.size, 2, none⟩ = some (.slice AL S.L.length capL) ∧ w'.cell? ⟨w.heap.size, 3, none⟩ = some vF) (first | exact ⟨hcn, hcm, hcr0, hcr1, hcr2, hcr3⟩ | exact HKK.out _ _ | go_keep)
      (first | (go_at_call 33; refine HL.out.mono ?_; rintro e w' ⟨rfl, rfl⟩))
    have hW5 : w.grownBy ((W.setCell ⟨w.heap.size + 1 + 1, 0, none⟩ (.bool true)).alloc (.cells #[.int .i64 (S.most : Int), .int .i64 (S.c : Int), .slice AL S.L.length capL, vF] 32)).drew none :=
      grown_trans (grown_trans (grown_new HT.out.grown (grown_setCell W _ 0 _) (by omega)) (World.grownBy_alloc _ _ none)) (grown_drewN _ 1 none)
    have hb5 : Boxed ((W.setCell ⟨w.heap.size + 1 + 1, 0, none⟩ (.bool true)).alloc (.cells #[.int .i64 (S.most : Int), .int .i64 (S.c : Int), .slice AL S.L.length capL, vF] 32)).drew (w.heap.size + 2) 4 (.bool true) := (HT.out.obox.set (.bool true)).alloc _
    have hD5 : ((W.setCell ⟨w.heap.size + 1 + 1, 0, none⟩ (.bool true)).alloc (.cells #[.int .i64 (S.most : Int), .int .i64 (S.c : Int), .slice AL S.L.length capL, vF] 32)).drew.heap[w.heap.size + 6]? = some (.deferred (some [])) := by
      have hd := HD.out
      rw [hz] at hd
      have hl6 := (Array.getElem?_eq_some_iff.1 hd).1
      exact ((World.grownBy_alloc _ _ none).block _ (by simpa using hl6) (by simp)).trans ((heap_setCell_other _ _ _ _ (by simp only; omega)).trans hd)
    have HW5 := Lib.hid hW5
    have HB5 := Lib.hid hb5
    have HD5 := Lib.hid hD5
    clear hW5 hb5 hD5 HKK HL hob hof hobA hofA hcn hcm hcr0 hcr1 hcr2 hcr3
    generalize ((W.setCell ⟨w.heap.size + 1 + 1, 0, none⟩ (.bool true)).alloc (.cells #[.int .i64 (S.most : Int), .int .i64 (S.c : Int), .slice AL S.L.length capL, vF] 32)).drew = w5 at HW5 HB5 HD5 ⊢
    gi_wp2
    refine ⟨by simp, .inl ⟨_, _, rfl, run_takeDeferred HD5.out, ?_⟩⟩
    have hbx : Boxed (w5.putObj (w.heap.size + 6) (.deferred none)) (w.heap.size + 2) 4 (.bool true) := (World.putObj_heap_other (by omega)).trans HB5.out
    refine ⟨_, results_bool rfl _ _ _ true rfl hbx.cell, rfl, ?_⟩
    exact grown_new HW5.out (grownBy_putObj' _ _ _) (by omega)
  case stop =>
    rintro c ys Ft W hpre ⟨pre, a, hT, hcase⟩ hD
    have h0 : standing S.L S.L.length = [] := List.eq_nil_of_length_eq_zero (by have := standing_len S.L S.L.length; have := HNone.out; omega)
    rcases hcase with ⟨rfl, ⟨x, rfl⟩, _⟩ | ⟨rfl, hn⟩
    · have := x.isLt
      have := HNone.out
      omega
    · exact absurd hpre hn
end Go.Proofs.Ytoopfoapkbjdkaa
