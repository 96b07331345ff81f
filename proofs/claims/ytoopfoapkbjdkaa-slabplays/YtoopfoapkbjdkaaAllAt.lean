/-
  The law's going through a slab: it tells just the document's nodes, as far as one goes on.
-/
import Derived.Test.YtoopfoapkbjdkaaToldNil
namespace Go.Proofs.Ytoopfoapkbjdkaa
open Go.RowKit Go.Shelf
set_option linter.unusedVariables false
attribute [local go_sem] Oper.semAt_some

set_option maxRecDepth 100000 in
set_option maxHeartbeats 40000000 in
theorem all_at (w : World) (p : Option Addr) (m : Nat) (S : SI) (vL vF : Value) (hm : m ≤ 100000) (h6 : S.L.length ≤ 65536) (htb : ∀ s ∈ S.L, s.turn < 4294967296) (hr : RefAt w 0 S vL vF)
    (hcopy : ∀ W, w.grownBy W none → Calls Try.prog 49 #[.pointer p] W fun e w' => ∃ p2, e = .returned (.pointer p2) ∧ W.grownBy w' none ∧ Vw S.L p2 W.heap.size w'.heap.size w') :
    Calls Try.prog 12 #[.pointer p, refVal S vL vF, .int .i64 (m : Int)] w fun e w' => e = .returned (.bool true) ∧ w.grownBy w' none := by
  refine (callsIn_wide (n := 3)).1 ?_
  have hF : ∀ k, WF.fn k := fun _ => trivial
  have hDp : WF.depth.isSome = false := rfl
  have HC := Lib.hid hcopy
  have HR := Lib.hid hr
  have HTB := Lib.hid htb
  have hlt : ∀ k, vL.ownBlock = some k ∨ vF.ownBlock = some k → k < w.heap.size := fun k hk => hk.elim (fun h => (hr.rowL.lt k h).2) (fun h => (hr.rowF.lt k h).2)
  have HLT := Lib.hid hlt
  obtain ⟨AL, capL, rfl⟩ := hr.slice
  clear hcopy hr hlt htb
  unfold refVal
  refine callsIn_of_wp_marks Try.func12 rfl trivial ?_ rfl
  simp only [Try.ntmps12, List.size_toArray, List.length_cons, List.length_nil, Nat.reduceAdd, Nat.reduceSub, Array.replicate_succ, Array.replicate_zero, List.push_toArray, List.append_toArray, List.nil_append, List.cons_append]
  have hfn := fun w' => run_eql_func_nil (P := Try.prog) w' (.func 48) #[] #[.pointer (some ⟨w.heap.size + 1 + 1 + 1, 0, none⟩)] Try.underlying83
  gi_wp2_with (gi_at_call 35; refine (callsIn_wide.2 (all_any _ _)).mono ?_; rintro e w' ⟨rfl, rfl⟩)
  obtain ⟨hgB, hz, b0, b1, b2, b3, b4, b5⟩ := alloc6 w (.cells #[.int .i64 (S.most : Int), .int .i64 (S.c : Int), .slice AL S.L.length capL, vF] 32) (.cells #[.int .i64 (m : Int)] 3) (.cells #[.bool false] 4) (.cells #[.pointer p] 23) (.cells #[.int .i64 0] 3) (.cells #[.int .i64 0] 3)
  generalize (((((w.alloc (.cells #[.int .i64 (S.most : Int), .int .i64 (S.c : Int), .slice AL S.L.length capL, vF] 32)).alloc (.cells #[.int .i64 (m : Int)] 3)).alloc (.cells #[.bool false] 4)).alloc (.cells #[.pointer p] 23)).alloc (.cells #[.int .i64 0] 3)).alloc (.cells #[.int .i64 0] 3) = wB at hgB hz b0 b1 b2 b3 b4 b5 ⊢
  have HT0 : Hid (TI w m S (.slice AL S.L.length capL) vF [] 0 (fun k => k = w.heap.size + 4 ∨ k = w.heap.size + 5 ∨ k = w.heap.size + 2) wB) := Lib.hid ⟨rfl, Nat.zero_le _, Nat.zero_le _, rfl, b0, b1, b2, b4, b5, HR.out.kept hgB, HLT.out, hgB⟩
  have HSq := Lib.hid (all_seq w.heap.size (w.heap.size + 3) S.L p wB (cell_of_head b3 0) fun W hW => HC.out W (grown_trans hgB hW))
  clear b0 b1 b2 b3 b4 b5 HC HR
  refine range_box (P := Try.prog) (α := Fin S.L.length) (gf := 48) (lb := #[.pointer (some ⟨w.heap.size + 3, 0, none⟩)]) rfl (enters_of Try.func48 (by kernel_rfl) rfl) (Prot := fun _ => False) (fun _ h => h.elim)
    HSq.out (World.grownBy.refl _ _) (by omega) (fun _ => rfl) (fun _ => False) (fun _ h => h.elim)
    (fun ys Ft W => ∃ a, TI w m S (.slice AL S.L.length capL) vF ys a Ft W)
    (fun c ys Ft W => (∃ pre a, TI w m S (.slice AL S.L.length capL) vF pre a Ft W ∧ (c = .exit 0 ∧ (∃ x, ys = pre ++ [x]) ∧ pre.length = m)))
    ?_ ?_ ?_ ?_ (fun _ _ _ _ _ h => h.elim) (fun k => k = w.heap.size + 4 ∨ k = w.heap.size + 5 ∨ k = w.heap.size + 2) ⟨0, HT0.out⟩ (fun k hk => by omega)
    (fun x => .cells #[.int .i32 ((x : Nat) : Int), .int .u32 ((ftn S.L x : Nat) : Int)] 35) (fun x B => { tmps := #[.pointer p, .agg #[.int .i64 (S.most : Int), .int .i64 (S.c : Int), .slice AL S.L.length capL, vF], .int .i64 (m : Int), undef, .pointer (some ⟨w.heap.size, 0, none⟩), .pointer (some ⟨w.heap.size + 1, 0, none⟩), .pointer (some ⟨w.heap.size + 1 + 1, 0, none⟩), Value.func (.func 48) #[] #[.pointer (some ⟨w.heap.size + 1 + 1 + 1, 0, none⟩)], .pointer (some ⟨w.heap.size + 1 + 1 + 1 + 1, 0, none⟩), .pointer (some ⟨w.heap.size + 1 + 1 + 1 + 1 + 1, 0, none⟩), .pointer (some ⟨B, 0, none⟩), .int .i64 (fhs S.L x), .pointer p, Value.func (.func 48) #[] #[.pointer (some ⟨w.heap.size + 1 + 1 + 1, 0, none⟩)], Value.func (.func 48) #[] #[.pointer (some ⟨w.heap.size + 1 + 1 + 1, 0, none⟩)], .bool false, Value.func (.func 48) #[] #[.pointer (some ⟨w.heap.size + 1 + 1 + 1, 0, none⟩)], .agg #[.int .i32 ((x : Nat) : Int), .int .u32 ((ftn S.L x : Nat) : Int)], .int .i64 (fhs S.L x), undef, undef, undef, undef, undef, undef, undef, undef, undef, undef, undef, undef, undef, undef, undef, undef, undef, undef, undef, undef, undef, undef, undef, undef, undef, undef, undef, undef, undef, undef, undef, undef, undef, undef, undef, undef, undef, undef, undef, undef, undef, undef, undef, undef, undef, undef, undef, undef, undef, undef, undef, undef, undef, undef, undef, undef, undef, undef, undef, undef, undef, undef, undef], defers := [] }) ?assign ?body ?done ?stop
  case assign =>
    intro l2 m2 x W2 K hK
    unfold nodeEnc
    gi_wp2
    exact hK
  · rintro ys Ft W W' ⟨a, h⟩ hs; exact ⟨a, h.firm (by omega) hs⟩
  · rintro c ys Ft W W' ⟨pre, a, h, r⟩ hs; exact ⟨pre, a, h.firm (by omega) hs, r⟩
  · rintro ys Ft W k ⟨a, h⟩ hk; exact h.own hk
  · rintro c ys Ft W k ⟨pre, a, h, r⟩ hk; exact h.own hk
  case body =>
    rintro l2 m2 pre x Ft W B0 ⟨a, hT⟩ hlen hsp hB0 hB6 hnB
    have HSP : Hid (pre.map Fin.val ++ [x.val] <+: standing S.L S.L.length) := Lib.hid (by simpa using hsp)
    clear hsp
    obtain ⟨hl, hale, hfew, hft, hrb, hmb, hob, hnb, hab, href, hrlt, hgr⟩ := id hT
    have hcm := hmb.cell
    have hcn := hnb.cell
    have hca := hab.cell
    have hna := hab.frozen
    have hfn2 := hnb.frozen
    have hcr := cell_of_head hrb 2
    have hch0 := cell_of_head hB0 0
    have hch1 := cell_of_head hB0 1
    simp only [List.getElem?_toArray, List.getElem?_cons_zero, List.getElem?_cons_succ] at hcr hch0 hch1
    have HT := Lib.hid hT
    have HB0 := Lib.hid hB0
    clear hl hrb hmb hob hnb hab href hrlt hgr hT hB0
    by_cases hbr : m ≤ pre.length
    · have hd : decide ((m : Int) ≤ (pre.length : Int)) = true := by simp; omega
      have hd' : decide (m ≤ pre.length) = true := by simp; omega
      gi_wp2
      exact ⟨Ft, ⟨pre, a, HT.out, rfl, ⟨x, rfl⟩, by omega⟩, Step.refl _ _ _⟩
    · have hd : decide ((m : Int) ≤ (pre.length : Int)) = false := by simp; omega
      have hd' : decide (m ≤ pre.length) = false := by simp; omega
      gi_wp2
      gi_loopw [] (fun wr => ∃ a' : Nat, Hid (TI w m S (.slice AL S.L.length capL) vF pre a' Ft wr) ∧ Hid (Step (fun _ => False) Ft Ft W wr) ∧ Hid (wr.heap[B0]? = some (.cells #[.int .i32 ((x : Nat) : Int), .int .u32 ((ftn S.L x : Nat) : Int)] 35 (0, 0)))) (fun wr => S.L.length - (intOf ((wr.cell? ⟨w.heap.size + 5, 0, none⟩).getD undef)).toNat)
      case atStart => exact ⟨a, HT, Lib.hid (Step.refl _ _ _), HB0⟩
      case round =>
        obtain ⟨a', HT', HS', HB'⟩ := hrel
        clear HT HB0 hcm hcn hca hna hfn2 hcr hch0 hch1
        obtain ⟨hcr, hcm, hcn, hfn2, hca, hna⟩ := HT'.out.cells
        have hale' := HT'.out.ale
        obtain ⟨len, Hlen⟩ : ∃ len, Hid (S.L.length = len) := ⟨_, Lib.hid rfl⟩
        by_cases hlt : a' < S.L.length
        · obtain ⟨s, hs⟩ : ∃ s, S.L[a']? = some s := ⟨_, List.getElem?_eq_getElem hlt⟩
          obtain ⟨g, cap', hv, hg, c0, c1, c2⟩ := HT'.out.ref.cell hs
          injection hv with e1 e2 e3
          subst e1; subst e3
          have hup : up S.L a' = s.stands := by unfold up; rw [hs]
          have Hs := Lib.hid hs
          cases hst : s.stands with
          | false =>
            rw [hst] at c1 hup
            have Hup := Lib.hid hup
            clear hs hup c0 c2
            gi_wp2
            go_roundw
            case rel => exact ⟨a' + 1, Lib.hid (HT'.out.setA (by rw [standing_same Hup.out]; exact HT'.out.list) (by omega) rfl), Lib.hid (HS'.out.trans (HT'.out.set (.inr rfl) _)), Lib.hid ((heap_setCell_other _ _ _ _ (by simp only; omega)).trans HB'.out)⟩
            case measure =>
              have e1 := (HT'.out.setA (ys' := pre) (a' := a' + 1) (by rw [standing_same Hup.out]; exact HT'.out.list) (by omega) rfl).abox.cell
              have e2 := HT'.out.abox.cell
              simp only [Int.natCast_add, Int.natCast_one] at e1
              simp only [e1, e2, Option.getD_some, intOf]
              omega
          | true =>
            rw [hst] at c1 hup
            have Hup := Lib.hid hup
            have hd1 : decide ((S.L.length : Int) ≤ (a' : Int)) = false := by simp; omega
            have hd1' : decide (S.L.length ≤ a') = false := by simp; omega
            have hgl := hg
            clear hs hup
            have hxa : x.val = a' := (standing_next HT'.out.list (by omega) (.inr Hup.out) HSP.out).2
            · have HTn := Lib.hid (fin_at hxa Hs.out).1
              have HHn := Lib.hid (fin_at hxa Hs.out).2
              have Hxa := Lib.hid hxa
              have htl := HTB.out s (List.mem_of_getElem? Hs.out)
              have hwa : IntKind.i64.wrap (a' : Int) = (a' : Int) := by rw [IntKind.wrap_i64]; omega
              have hwt : IntKind.i64.wrap (s.turn : Int) = (s.turn : Int) := by rw [IntKind.wrap_i64]; omega
              have q1 : ((a' : Int) != (a' : Int)) = false := by simp
              have q2 : ((s.turn : Int) != (s.turn : Int)) = false := by simp
              have q3 : (s.has != s.has) = false := by simp
              clear hxa
              gi_wp2
              refine region_tail_in (fun _ => trivial) rfl (fun _ _ _ _ h => callsIn_wide.2 h) 33 (by kernel_rfl) (by kernel_rfl) (by kernel_rfl) ?_
              intro w4 hw4
              have c04 : w4.cell? ⟨g, a' * 3, none⟩ = some (.int .i64 (s.turn : Int)) := by rw [hw4]; exact c0
              have c24 : w4.cell? ⟨g, a' * 3 + 2, none⟩ = some (.int .i64 s.has) := by rw [hw4]; exact c2
              have HT4 : Hid (TI w m S (.slice (some ⟨g, 0, none⟩) S.L.length capL) vF pre a' Ft w4) := Lib.hid (by rw [hw4]; exact HT'.out.firm (B := wB.heap.size) (by omega) (Stay.of_grown (grown_drewN wr 1 none) (by simp)))
              have HS4 : Hid (Step (fun _ => False) Ft Ft W w4) := Lib.hid (by rw [hw4]; exact HS'.out.trans ⟨Stay.of_grown (grown_drewN wr 1 none) (by simp), fun _ h => .inl h⟩)
              have HB4 : Hid (w4.heap[B0]? = some (.cells #[.int .i32 ((x : Nat) : Int), .int .u32 ((ftn S.L x : Nat) : Int)] 35 (0, 0))) := Lib.hid (by rw [hw4]; exact HB'.out)
              clear hw4 HT' HS' HB' hcr hcm hcn hfn2 hca hna
              obtain ⟨hcr, hcm, hcn, hfn2, hca, hna⟩ := HT4.out.cells
              have hch0 := cell_of_head HB4.out 0
              have hch1 := cell_of_head HB4.out 1
              simp only [List.getElem?_toArray, List.getElem?_cons_zero, List.getElem?_cons_succ] at hch0 hch1
              rw [Hxa.out] at hch0
              rw [HTn.out] at hch1
              rw [HHn.out]
              simp only [List.take_succ_cons, List.take_zero, List.drop_succ_cons, List.drop_zero]
              repeat still_step
              refine wpStill_nil ?_
              have HY5 : Hid ((pre ++ [x]).map Fin.val = standing S.L (a' + 1)) := Lib.hid (by rw [standing_up Hup.out, List.map_append, HT4.out.list, ← Hxa.out]; rfl)
              have Hpl : Hid (pre.length + 1 ≤ m) := Lib.hid (by omega)
              have Ha1 : Hid (a' + 1 ≤ S.L.length) := Lib.hid (by omega)
              have HT5 : Hid (TI w m S (.slice (some ⟨g, 0, none⟩) S.L.length capL) vF (pre ++ [x]) (a' + 1) Ft ((w4.setCell ⟨w.heap.size + 5, 0, none⟩ (.int .i64 ((a' + 1 : Nat) : Int))).setCell ⟨w.heap.size + 4, 0, none⟩ (.int .i64 ((pre ++ [x]).length : Int)))) := Lib.hid (HT4.out.setB HY5.out Ha1.out (by rw [List.length_append]; exact Hpl.out))
              have HS5 : Hid (Step (fun _ => False) Ft Ft W ((w4.setCell ⟨w.heap.size + 5, 0, none⟩ (.int .i64 ((a' + 1 : Nat) : Int))).setCell ⟨w.heap.size + 4, 0, none⟩ (.int .i64 ((pre ++ [x]).length : Int)))) := Lib.hid (HS4.out.trans (HT4.out.stepB _ _))
              rw [List.length_append] at HT5 HS5
              gi_wp2
              exact ⟨Ft, ⟨a' + 1, HT5.out⟩, HS5.out⟩
        · exact absurd (standing_next HT'.out.list (by omega) (.inl (by omega)) HSP.out).1 hlt
  case done =>
    rintro ys Ft W hS ⟨a, hT⟩ hD
    have hyl : ys.length = S.len := by rw [← standing_all S, ← hS, List.length_map]
    have hf := hT.few
    obtain ⟨hcr2, hcm, hcn, _, _, _⟩ := hT.cells
    have hcr0 := cell_of_head hT.rbox 0
    have hcr1 := cell_of_head hT.rbox 1
    have hcr3 := cell_of_head hT.rbox 3
    simp only [List.getElem?_toArray, List.getElem?_cons_zero, List.getElem?_cons_succ] at hcr0 hcr1 hcr3
    have hob := hT.obox.cell
    have hof := hT.obox.frozen
    have HT := Lib.hid hT
    have HD := Lib.hid hD
    clear hT hD
    have hmin2 : (if S.len < m then (S.len : Int) else (m : Int)) = (S.len : Int) := by split <;> omega
    have hbb : ((S.len : Int) == (S.len : Int)) = true := by simp
    have HL : Hid (Calls Try.prog 33 #[.agg #[.int .i64 (S.most : Int), .int .i64 (S.c : Int), .slice AL S.L.length capL, vF]] W.drew fun e w' => e = .returned (.int .i64 (S.len : Int)) ∧ w' = W.drew.alloc (.cells #[.int .i64 (S.most : Int), .int .i64 (S.c : Int), .slice AL S.L.length capL, vF] 32)) := Lib.hid (rlen_at (HT.out.ref.kept (grown_drewN W 1 none)) h6)
    have hWz : w.heap.size + 5 < W.heap.size := HT.out.abox.lt
    have n1 := World.new_ne W _ hcn
    have n2 := World.new_ne W _ hcm
    have n3 := World.new_ne W _ hcr0
    have n4 := World.new_ne W _ hob
    have hl2 : w.heap.size + 2 < W.heap.size := by omega
    have hl2' : w.heap.size + 1 + 1 < W.heap.size := by omega
    have hobA : ∀ o : Obj, (W.alloc o).cell? ⟨w.heap.size + 2, 0, none⟩ = some (.bool false) := fun o => (World.grownBy_alloc W o none).cell hob (by simp)
    have hofA : ∀ o : Obj, (W.alloc o).frozen? ⟨w.heap.size + 2, 0, none⟩ = false := fun o => (HT.out.obox.alloc o).frozen
    have hKK : ∀ (v : Value) (o : Obj), ((W.setCell ⟨w.heap.size + 1 + 1, 0, none⟩ v).alloc o).drew.cell? ⟨w.heap.size + 4, 0, none⟩ = some (.int .i64 (ys.length : Int)) ∧ ((W.setCell ⟨w.heap.size + 1 + 1, 0, none⟩ v).alloc o).drew.cell? ⟨w.heap.size + 1, 0, none⟩ = some (.int .i64 (m : Int)) ∧ ((W.setCell ⟨w.heap.size + 1 + 1, 0, none⟩ v).alloc o).drew.cell? ⟨w.heap.size, 0, none⟩ = some (.int .i64 (S.most : Int)) ∧ ((W.setCell ⟨w.heap.size + 1 + 1, 0, none⟩ v).alloc o).drew.cell? ⟨w.heap.size, 1, none⟩ = some (.int .i64 (S.c : Int)) ∧ ((W.setCell ⟨w.heap.size + 1 + 1, 0, none⟩ v).alloc o).drew.cell? ⟨w.heap.size, 2, none⟩ = some (.slice AL S.L.length capL) ∧ ((W.setCell ⟨w.heap.size + 1 + 1, 0, none⟩ v).alloc o).drew.cell? ⟨w.heap.size, 3, none⟩ = some vF := by
      intro v o
      have hgg : ∀ k, k ≠ w.heap.size + 1 + 1 → k < W.heap.size → ((W.setCell ⟨w.heap.size + 1 + 1, 0, none⟩ v).alloc o).drew.heap[k]? = W.heap[k]? := fun k hk hl => ((World.grownBy_alloc _ o none).block k (by simpa using hl) (by simp)).trans (heap_setCell_other _ _ k _ hk)
      have hcc : ∀ k i u, k ≠ w.heap.size + 1 + 1 → k < W.heap.size → W.cell? ⟨k, i, none⟩ = some u → ((W.setCell ⟨w.heap.size + 1 + 1, 0, none⟩ v).alloc o).drew.cell? ⟨k, i, none⟩ = some u := fun k i u hk hl hu => (World.cell?_of_block (a := ⟨k, i, none⟩) (hgg k hk hl)).trans hu
      exact ⟨hcc _ _ _ (by omega) (by omega) hcn, hcc _ _ _ (by omega) (by omega) hcm, hcc _ _ _ (by omega) (by omega) hcr0, hcc _ _ _ (by omega) (by omega) hcr1, hcc _ _ _ (by omega) (by omega) hcr2, hcc _ _ _ (by omega) (by omega) hcr3⟩
    have HKK := Lib.hid hKK
    clear hKK
    gi_wp2
    refine wpIn_wide.2 ?_
    go_region_held3 (fun w' => w'.cell? ⟨w.heap.size + 4, 0, none⟩ = some (.int .i64 (ys.length : Int)) ∧ w'.cell? ⟨w.heap.size + 1, 0, none⟩ = some (.int .i64 (m : Int)) ∧ w'.cell? ⟨w.heap.size, 0, none⟩ = some (.int .i64 (S.most : Int)) ∧ w'.cell? ⟨w.heap.size, 1, none⟩ = some (.int .i64 (S.c : Int)) ∧ w'.cell? ⟨w.heap.size, 2, none⟩ = some (.slice AL S.L.length capL) ∧ w'.cell? ⟨w.heap.size, 3, none⟩ = some vF) (first | exact ⟨hcn, hcm, hcr0, hcr1, hcr2, hcr3⟩ | exact HKK.out _ _ | go_keep)
      (first | (go_at_call 33; refine HL.out.mono ?_; rintro e w' ⟨rfl, rfl⟩))
    have hW5 : w.grownBy ((W.setCell ⟨w.heap.size + 1 + 1, 0, none⟩ (.bool true)).alloc (.cells #[.int .i64 (S.most : Int), .int .i64 (S.c : Int), .slice AL S.L.length capL, vF] 32)).drew none :=
      grown_trans (grown_trans (grown_new HT.out.grown (grown_setCell W _ 0 _) (by omega)) (World.grownBy_alloc _ _ none)) (grown_drewN _ 1 none)
    have hb5 : Boxed ((W.setCell ⟨w.heap.size + 1 + 1, 0, none⟩ (.bool true)).alloc (.cells #[.int .i64 (S.most : Int), .int .i64 (S.c : Int), .slice AL S.L.length capL, vF] 32)).drew (w.heap.size + 2) 4 (.bool true) := (HT.out.obox.set (.bool true)).alloc _
    have hD5 : ((W.setCell ⟨w.heap.size + 1 + 1, 0, none⟩ (.bool true)).alloc (.cells #[.int .i64 (S.most : Int), .int .i64 (S.c : Int), .slice AL S.L.length capL, vF] 32)).drew.heap[w.heap.size + 6]? = some (.deferred (some [])) := by
      have hd := HD.out
      rw [hz] at hd
      have hl6 := (Array.getElem?_eq_some_iff.1 hd).1
      exact ((World.grownBy_alloc _ _ none).block _ (by simpa using hl6) (by simp)).trans ((heap_setCell_other _ _ _ _ (by simp only; omega)).trans hd)
    have HW5 := Lib.hid hW5
    have HB5 := Lib.hid hb5
    have HD5 := Lib.hid hD5
    clear hW5 hb5 hD5 HKK HL hob hof hobA hofA hcn hcm hcr0 hcr1 hcr2 hcr3
    generalize ((W.setCell ⟨w.heap.size + 1 + 1, 0, none⟩ (.bool true)).alloc (.cells #[.int .i64 (S.most : Int), .int .i64 (S.c : Int), .slice AL S.L.length capL, vF] 32)).drew = w5 at HW5 HB5 HD5 ⊢
    gi_wp2
    refine ⟨by simp, .inl ⟨_, _, rfl, run_takeDeferred HD5.out, ?_⟩⟩
    have hbx : Boxed (w5.putObj (w.heap.size + 6) (.deferred none)) (w.heap.size + 2) 4 (.bool true) := (World.putObj_heap_other (by omega)).trans HB5.out
    refine ⟨_, results_bool rfl _ _ _ true rfl hbx.cell, rfl, ?_⟩
    exact grown_new HW5.out (grownBy_putObj' _ _ _) (by omega)
  case stop =>
    rintro c ys0 Ft W hpre ⟨ys, a, hT, rfl, ⟨x, rfl⟩, hm'⟩ hD
    have hyl : ys.length + 1 ≤ S.len := by
      have := hpre.length_le
      rw [standing_all S, List.length_map, List.length_append] at this
      exact this
    obtain ⟨hcr2, hcm, hcn, _, _, _⟩ := hT.cells
    have hcr0 := cell_of_head hT.rbox 0
    have hcr1 := cell_of_head hT.rbox 1
    have hcr3 := cell_of_head hT.rbox 3
    simp only [List.getElem?_toArray, List.getElem?_cons_zero, List.getElem?_cons_succ] at hcr0 hcr1 hcr3
    have hob := hT.obox.cell
    have hof := hT.obox.frozen
    have HT := Lib.hid hT
    have HD := Lib.hid hD
    clear hT hD
    have hmin2 : (if S.len < m then (S.len : Int) else (m : Int)) = (m : Int) := by split <;> omega
    have hbb : ((m : Int) == (m : Int)) = true := by simp
    have HL : Hid (Calls Try.prog 33 #[.agg #[.int .i64 (S.most : Int), .int .i64 (S.c : Int), .slice AL S.L.length capL, vF]] W.drew fun e w' => e = .returned (.int .i64 (S.len : Int)) ∧ w' = W.drew.alloc (.cells #[.int .i64 (S.most : Int), .int .i64 (S.c : Int), .slice AL S.L.length capL, vF] 32)) := Lib.hid (rlen_at (HT.out.ref.kept (grown_drewN W 1 none)) h6)
    have hWz : w.heap.size + 5 < W.heap.size := HT.out.abox.lt
    have n1 := World.new_ne W _ hcn
    have n2 := World.new_ne W _ hcm
    have n3 := World.new_ne W _ hcr0
    have n4 := World.new_ne W _ hob
    have hl2 : w.heap.size + 2 < W.heap.size := by omega
    have hl2' : w.heap.size + 1 + 1 < W.heap.size := by omega
    have hobA : ∀ o : Obj, (W.alloc o).cell? ⟨w.heap.size + 2, 0, none⟩ = some (.bool false) := fun o => (World.grownBy_alloc W o none).cell hob (by simp)
    have hofA : ∀ o : Obj, (W.alloc o).frozen? ⟨w.heap.size + 2, 0, none⟩ = false := fun o => (HT.out.obox.alloc o).frozen
    have hKK : ∀ (v : Value) (o : Obj), ((W.setCell ⟨w.heap.size + 1 + 1, 0, none⟩ v).alloc o).drew.cell? ⟨w.heap.size + 4, 0, none⟩ = some (.int .i64 (ys.length : Int)) ∧ ((W.setCell ⟨w.heap.size + 1 + 1, 0, none⟩ v).alloc o).drew.cell? ⟨w.heap.size + 1, 0, none⟩ = some (.int .i64 (m : Int)) ∧ ((W.setCell ⟨w.heap.size + 1 + 1, 0, none⟩ v).alloc o).drew.cell? ⟨w.heap.size, 0, none⟩ = some (.int .i64 (S.most : Int)) ∧ ((W.setCell ⟨w.heap.size + 1 + 1, 0, none⟩ v).alloc o).drew.cell? ⟨w.heap.size, 1, none⟩ = some (.int .i64 (S.c : Int)) ∧ ((W.setCell ⟨w.heap.size + 1 + 1, 0, none⟩ v).alloc o).drew.cell? ⟨w.heap.size, 2, none⟩ = some (.slice AL S.L.length capL) ∧ ((W.setCell ⟨w.heap.size + 1 + 1, 0, none⟩ v).alloc o).drew.cell? ⟨w.heap.size, 3, none⟩ = some vF := by
      intro v o
      have hgg : ∀ k, k ≠ w.heap.size + 1 + 1 → k < W.heap.size → ((W.setCell ⟨w.heap.size + 1 + 1, 0, none⟩ v).alloc o).drew.heap[k]? = W.heap[k]? := fun k hk hl => ((World.grownBy_alloc _ o none).block k (by simpa using hl) (by simp)).trans (heap_setCell_other _ _ k _ hk)
      have hcc : ∀ k i u, k ≠ w.heap.size + 1 + 1 → k < W.heap.size → W.cell? ⟨k, i, none⟩ = some u → ((W.setCell ⟨w.heap.size + 1 + 1, 0, none⟩ v).alloc o).drew.cell? ⟨k, i, none⟩ = some u := fun k i u hk hl hu => (World.cell?_of_block (a := ⟨k, i, none⟩) (hgg k hk hl)).trans hu
      exact ⟨hcc _ _ _ (by omega) (by omega) hcn, hcc _ _ _ (by omega) (by omega) hcm, hcc _ _ _ (by omega) (by omega) hcr0, hcc _ _ _ (by omega) (by omega) hcr1, hcc _ _ _ (by omega) (by omega) hcr2, hcc _ _ _ (by omega) (by omega) hcr3⟩
    have HKK := Lib.hid hKK
    clear hKK
    gi_wp2
    refine wpIn_wide.2 ?_
    go_region_held3 (fun w' => w'.cell? ⟨w.heap.size + 4, 0, none⟩ = some (.int .i64 (ys.length : Int)) ∧ w'.cell? ⟨w.heap.size + 1, 0, none⟩ = some (.int .i64 (m : Int)) ∧ w'.cell? ⟨w.heap.size, 0, none⟩ = some (.int .i64 (S.most : Int)) ∧ w'.cell? ⟨w.heap.size, 1, none⟩ = some (.int .i64 (S.c : Int)) ∧ w'.cell? ⟨w.heap.size, 2, none⟩ = some (.slice AL S.L.length capL) ∧ w'.cell? ⟨w.heap.size, 3, none⟩ = some vF) (first | exact ⟨hcn, hcm, hcr0, hcr1, hcr2, hcr3⟩ | exact HKK.out _ _ | go_keep)
      (first | (go_at_call 33; refine HL.out.mono ?_; rintro e w' ⟨rfl, rfl⟩))
    have hW5 : w.grownBy ((W.setCell ⟨w.heap.size + 1 + 1, 0, none⟩ (.bool true)).alloc (.cells #[.int .i64 (S.most : Int), .int .i64 (S.c : Int), .slice AL S.L.length capL, vF] 32)).drew none :=
      grown_trans (grown_trans (grown_new HT.out.grown (grown_setCell W _ 0 _) (by omega)) (World.grownBy_alloc _ _ none)) (grown_drewN _ 1 none)
    have hb5 : Boxed ((W.setCell ⟨w.heap.size + 1 + 1, 0, none⟩ (.bool true)).alloc (.cells #[.int .i64 (S.most : Int), .int .i64 (S.c : Int), .slice AL S.L.length capL, vF] 32)).drew (w.heap.size + 2) 4 (.bool true) := (HT.out.obox.set (.bool true)).alloc _
    have hD5 : ((W.setCell ⟨w.heap.size + 1 + 1, 0, none⟩ (.bool true)).alloc (.cells #[.int .i64 (S.most : Int), .int .i64 (S.c : Int), .slice AL S.L.length capL, vF] 32)).drew.heap[w.heap.size + 6]? = some (.deferred (some [])) := by
      have hd := HD.out
      rw [hz] at hd
      have hl6 := (Array.getElem?_eq_some_iff.1 hd).1
      exact ((World.grownBy_alloc _ _ none).block _ (by simpa using hl6) (by simp)).trans ((heap_setCell_other _ _ _ _ (by simp only; omega)).trans hd)
    have HW5 := Lib.hid hW5
    have HB5 := Lib.hid hb5
    have HD5 := Lib.hid hD5
    clear hW5 hb5 hD5 HKK HL hob hof hobA hofA hcn hcm hcr0 hcr1 hcr2 hcr3
    generalize ((W.setCell ⟨w.heap.size + 1 + 1, 0, none⟩ (.bool true)).alloc (.cells #[.int .i64 (S.most : Int), .int .i64 (S.c : Int), .slice AL S.L.length capL, vF] 32)).drew = w5 at HW5 HB5 HD5 ⊢
    gi_wp2
    refine ⟨by simp, .inl ⟨_, _, rfl, run_takeDeferred HD5.out, ?_⟩⟩
    have hbx : Boxed (w5.putObj (w.heap.size + 6) (.deferred none)) (w.heap.size + 2) 4 (.bool true) := (World.putObj_heap_other (by omega)).trans HB5.out
    refine ⟨_, results_bool rfl _ _ _ true rfl hbx.cell, rfl, ?_⟩
    exact grown_new HW5.out (grownBy_putObj' _ _ _) (by omega)
end Go.Proofs.Ytoopfoapkbjdkaa
