/-
  The walk of the law that a queue is gone through as far as one goes on, as it was at the beginning.
-/
import Derived.Test.YtcphbendmnmpiaaOrderLaw
namespace Go.Proofs.Ytcphbendmnmpiaa
open Go.ChangeShapes Go.WideShapes Go.ChangeAt Go.RowKit Go.Shelf
set_option linter.unusedVariables false
attribute [local go_sem] Oper.semAt_some
set_option maxRecDepth 100000

/-- what holds between two rounds of the going through -/
structure QI (w W : World) (Bq Bs n0 : Nat) (l : List Int) (pre : List (Nat × Int)) (v : Value) (og : Option Nat) (Ft : Nat → Prop) : Prop where
  box : Boxed W Bs 22 v
  row : W.ownsRow n0 2 1 v (pre.map Prod.snd).length (ivals (pre.map Prod.snd))
  ft : Ft = fun k => foot Bs v k ∨ own w.heap.size og k
  q : IsQ W w.heap.size w.heap.size og (ivals (l.drop pre.length)) 200 l.length
  qbox : Boxed W Bq 23 (.pointer (some ⟨w.heap.size, 0, none⟩))
  apart : ∀ k, foot Bs v k → ¬ own w.heap.size og k
  qown : ¬ own w.heap.size og Bq
  grown : w.grownBy W none
  sz : n0 ≤ W.heap.size
section
variable {w W W' : World} {Bq Bs n0 : Nat} {l : List Int} {pre : List (Nat × Int)} {v : Value} {og : Option Nat} {Ft : Nat → Prop}
theorem QI.firm {B : Nat} (h : QI w W Bq Bs n0 l pre v og Ft) (hB : Bq < B) (hw : w.heap.size ≤ B) (hs : Stay (fun k => k < B ∨ Ft k) W W') : QI w W' Bq Bs n0 l pre v og Ft := by
  obtain ⟨hb', hr'⟩ := coll_stay h.box h.row hs fun k hk => .inr (by rw [h.ft]; exact .inl hk)
  refine ⟨hb', hr', h.ft, h.q.stay fun k hk ho => hs.block k hk (.inr (by rw [h.ft]; exact .inr ho)), (hs.block _ h.qbox.lt (.inl hB)).trans h.qbox, h.apart, h.qown, ?_, Nat.le_trans h.sz hs.size⟩
  exact ⟨hs.os.trans h.grown.os, hs.tape.trans h.grown.tape, hs.output.trans h.grown.output, Nat.le_trans h.grown.size hs.size, fun k hk hr => (hs.block k (Nat.lt_of_lt_of_le hk h.grown.size) (.inl (by omega))).trans (h.grown.block k hk hr)⟩
theorem QI.owned (h : QI w W Bq Bs n0 l pre v og Ft) (hBs : w.heap.size ≤ Bs) (hn0 : w.heap.size ≤ n0) {k : Nat} (hk : Ft k) : w.heap.size ≤ k ∧ ∃ o : Obj, W.heap[k]? = some o ∧ o.isCells = true := by
  rw [h.ft] at hk
  rcases hk with hk | hk
  · exact coll_owned h.box h.row hBs hn0 hk
  · obtain ⟨Q, x, _, _, _⟩ := h.q
    refine ⟨(x.own_lo hk).1, ?_⟩
    rcases hk with rfl | hk
    · exact ⟨_, x.head, rfl⟩
    · exact ⟨_, (x.row k hk).2, rfl⟩
/-- the queue behind an append to the other row -/
theorem QI.mid (h : QI w W Bq Bs n0 l pre v og Ft) {v' : Value} {w3 : World} (hst : Step (fun _ => False) (foot Bs v) (foot Bs v') W w3) : IsQ w3 w.heap.size w.heap.size og (ivals (l.drop pre.length)) 200 l.length ∧ Boxed w3 Bq 23 (.pointer (some ⟨w.heap.size, 0, none⟩)) ∨ foot Bs v Bq := by
  by_cases hb : foot Bs v Bq
  · exact .inr hb
  · exact .inl ⟨h.q.stay fun k hk ho => hst.stay.block k hk ⟨fun hf => h.apart k hf ho, fun h => h⟩, (hst.stay.block _ h.qbox.lt ⟨hb, fun h => h⟩).trans h.qbox⟩
/-- one is seen, and goes -/
theorem QI.next (h : QI w W Bq Bs n0 l pre v og Ft) (hBs : w.heap.size ≤ Bs) (hn0 : w.heap.size ≤ n0) (hBq : Bq < n0) (hne : Bq ≠ Bs) {x : Nat × Int} {v' : Value} {w3 w5 : World} {og' : Option Nat} (hst : Step (fun _ => False) (foot Bs v) (foot Bs v') W w3) (hb : Boxed w3 Bs 22 v') (hr : w3.ownsRow n0 2 1 v' (pre.map Prod.snd ++ [x.2]).length (ivals (pre.map Prod.snd ++ [x.2])))
    (hq : IsQ w5 w.heap.size w.heap.size og' (ivals (l.drop (pre.length + 1))) 200 l.length) (s : Stp w.heap.size og og' w3 w5) :
    QI w w5 Bq Bs n0 l (pre ++ [x]) v' og' (fun k => foot Bs v' k ∨ own w.heap.size og' k) ∧ Step (fun _ => False) Ft (fun k => foot Bs v' k ∨ own w.heap.size og' k) W w5 := by
  have hz3 := hst.stay.size
  have hzs := h.sz
  have hap3 : ∀ k, foot Bs v' k → ¬ own w.heap.size og k := fun k hk ho => by
    rcases hst.foot k hk with hf | hf
    · exact h.apart k hf ho
    · have := (h.q.own_lo ho).2; omega
  have hlt3 : ∀ k, foot Bs v' k → k < w3.heap.size := fun k hk => by
    rcases hk with rfl | hk
    · exact hb.lt
    · exact (hr.lt k hk).2
  have hap : ∀ k, foot Bs v' k → ¬ own w.heap.size og' k := fun k hk ho => by
    rcases s.new k ho with hf | hf
    · exact hap3 k hk hf
    · have := hlt3 k hk; omega
  have hnf : ¬ foot Bs v Bq := fun hf => by
    rcases hf with hf | hf
    · exact hne hf
    · have := (h.row.lt _ hf).1; omega
  have hqb3 := (hst.stay.block _ h.qbox.lt ⟨hnf, fun h => h⟩).trans h.qbox
  have hg3 : w.grownBy w3 none := grown_step h.grown hst (fun k hk => (coll_owned h.box h.row hBs hn0 hk).1) (fun _ h => h)
  refine ⟨⟨?_, ?_, rfl, by rw [List.length_append, List.length_singleton]; exact hq, (s.but.block _ (Nat.lt_of_lt_of_le h.qbox.lt hz3) h.qown).trans hqb3, hap, fun ho => (s.new _ ho).elim h.qown (fun h2 => by have := h.qbox.lt; omega), s.grown hg3 fun k hk => (h.q.own_lo hk).1, by have := s.but.size; omega⟩, ⟨?_, fun k hk => ?_⟩⟩
  · exact (s.but.block _ hb.lt (hap3 _ (.inl rfl))).trans hb
  · rw [List.map_append]
    exact owns_stay hr fun k hk => s.but.block k (hr.lt k hk).2 (hap3 k (.inr hk))
  · refine ⟨s.but.os.trans hst.stay.os, s.but.tape.trans hst.stay.tape, s.but.output.trans hst.stay.output, Nat.le_trans hz3 s.but.size, fun k hk hn => ?_⟩
    rw [h.ft] at hn
    exact (s.but.block k (Nat.lt_of_lt_of_le hk hz3) (fun ho => hn.1 (.inr ho))).trans (hst.stay.block k hk ⟨fun hf => hn.1 (.inl hf), fun h => h⟩)
  · rw [h.ft]
    rcases hk with hk | hk
    · rcases hst.foot k hk with hf | hf
      · exact .inl (.inl hf)
      · exact .inr hf
    · rcases s.new k hk with hf | hf
      · exact .inl (.inr hf)
      · exact .inr (by omega)
end
set_option maxHeartbeats 2000000 in
theorem tells_walk (A : Option Addr) (cap mo : Nat) (l : List Int) (w : World) (hl : IRow w A l) (hlen : l.length ≤ 200) (hcap : l.length ≤ cap) (hmo : mo < 256) :
    Calls Try.prog 5 #[.slice A l.length cap, .int .u8 (mo : Int)] w fun e w' => e = .returned (.bool true) ∧ w.grownBy w' none := by
  refine (callsIn_wide (n := 3)).1 ?_
  have hF : ∀ k, WF.fn k := fun _ => trivial
  have hDp : WF.depth.isSome = false := rfl
  have hwm : IntKind.i64.wrap (mo : Int) = (mo : Int) := by rw [IntKind.wrap_i64]; omega
  have c0 := new_at 200 (by decide) (by decide) w
  have C0 := Lib.hid c0
  have HL := Lib.hid hl
  obtain ⟨len, Hlen⟩ : ∃ len, Hid (l.length = len) := ⟨_, Lib.hid rfl⟩
  rw [Hlen.out] at hlen hcap ⊢
  clear c0 hl
  refine callsIn_of_wp_marks Try.func5 rfl trivial ?_ rfl
  simp only [Try.ntmps5, List.size_toArray, List.length_cons, List.length_nil, Nat.reduceAdd, Nat.reduceSub, Array.replicate_succ, Array.replicate_zero, List.push_toArray, List.append_toArray, List.nil_append, List.cons_append]
  gi_wp2_with fail
  refine (callsIn_wide.2 C0.out).mono ?_
  rintro e w1 ⟨rfl, hg, h⟩
  have HG1 := Lib.hid hg
  have HQ1 := Lib.hid h
  have HZ1 : Hid (w.heap.size < w1.heap.size) := Lib.hid (h.own_lo (.inl rfl)).2
  obtain ⟨Bq, HBq⟩ : ∃ Bq, Hid (w1.heap.size = Bq) := ⟨_, Lib.hid rfl⟩
  clear hg h C0
  gi_wp2_with fail
  have hga := World.grownBy_alloc w1 (.cells #[.pointer (some ⟨w.heap.size, 0, none⟩)] 23) none
  have HQ2 := Lib.hid (HQ1.out.kept hga)
  have HG2 := Lib.hid (grown_trans HG1.out hga)
  have HB2 := Lib.hid (Boxed.new w1 23 (.pointer (some ⟨w.heap.size, 0, none⟩)))
  have HO2 : Hid (¬ own w.heap.size none w1.heap.size) := Lib.hid (fun h => by have := (HQ1.out.own_lo h).2; omega)
  rw [HBq.out] at HB2 HO2 HZ1 ⊢
  clear HQ1 HG1 HBq hga
  generalize w1.alloc (.cells #[.pointer (some ⟨w.heap.size, 0, none⟩)] 23) = w2 at *
  gi_loopw [31] (fun k wr => ∃ (k' : Nat) (og : Option Nat), k' ≤ len ∧ k = .int .i64 (k' : Int) ∧ Hid (IsQ wr w.heap.size w.heap.size og (ivals (l.take k')) 200 k') ∧ Hid (w.grownBy wr none) ∧ Hid (Boxed wr Bq 23 (.pointer (some ⟨w.heap.size, 0, none⟩))) ∧ Hid (¬ own w.heap.size og Bq)) (fun k _ => len - (intOf k).toNat)
  case atStart => exact ⟨0, none, by omega, by go_num, HQ2, HG2, HB2, HO2⟩
  case round =>
    obtain ⟨k, og, hk, rfl, HQ3, HG3, HB3, HO3⟩ := hrel
    clear HQ2 HG2 HB2 HO2
    have hcb := HB3.out.cell
    by_cases hlt : k < len
    · obtain ⟨a, Ha⟩ : ∃ a, Hid (l[k]? = some a) := ⟨_, Lib.hid (List.getElem?_eq_getElem (by rw [Hlen.out]; exact hlt))⟩
      obtain ⟨bl, ol, rfl, hcell⟩ := (HL.out.kept HG3.out).at Ha.out
      have hp := push_is HQ3.out HG3.out.size a (by omega)
      have hlk : (l.take k).length = k := by rw [List.length_take, Hlen.out]; omega
      rw [pushed_ivals] at hp
      unfold pushI at hp
      rw [hlk, if_neg (by omega), ← take_snoc Ha.out] at hp
      have HP := Lib.hid hp
      clear hp hlk
      gi_wp2_with fail
      refine (callsIn_wide.2 HP.out).mono ?_
      unfold OpPost
      rintro e w4 ⟨rfl, og4, h4, s4⟩
      have HQ4 := Lib.hid h4
      have HG4 : Hid (w.grownBy w4 none) := Lib.hid (s4.grown HG3.out fun k hk => (HQ3.out.own_lo hk).1)
      have HB4 : Hid (Boxed w4 Bq 23 (.pointer (some ⟨w.heap.size, 0, none⟩))) := Lib.hid ((s4.but.block _ HB3.out.lt HO3.out).trans HB3.out)
      have HO4 : Hid (¬ own w.heap.size og4 Bq) := Lib.hid fun h => (s4.new _ h).elim HO3.out (fun h => by have := HB3.out.lt; omega)
      clear h4 s4 hcell hcb HP
      gi_wp2
      go_roundw
      case rel => exact ⟨k + 1, og4, by omega, by go_num, HQ4, HG4, HB4, HO4⟩
      case measure => simp [intOf]; omega
    · obtain rfl : k = len := by omega
      have HQ5 : Hid (IsQ wr w.heap.size w.heap.size og (ivals l) 200 k) := Lib.hid (by have := HQ3.out; rwa [List.take_of_length_le (by rw [Hlen.out]; exact Nat.le_refl _)] at this)
      clear HQ3
      have HTD := Lib.hid (told_at wr (some ⟨w.heap.size, 0, none⟩) mo l (by omega) (by rw [Hlen.out]; omega) (tells_is HQ5.out))
      gi_wp2_with fail
      refine (callsIn_wide.2 HTD.out).mono ?_
      rintro e w5 ⟨vf, rfl, hr, hg⟩
      obtain ⟨mm, Hmm⟩ : ∃ mm, Hid (min k mo = mm) := ⟨_, Lib.hid rfl⟩
      have htl : (l.take mo).length = mm := by rw [List.length_take, Hlen.out, Nat.min_comm]; exact Hmm.out
      have htk : l.take mo = l.take mm := by
        rw [← Hmm.out, ← Hlen.out]
        by_cases h : l.length ≤ mo
        · rw [Nat.min_eq_left h, List.take_of_length_le h, List.take_of_length_le (Nat.le_refl _)]
        · rw [Nat.min_eq_right (by omega)]
      have hlm : (l.take mm).length = mm := by rw [← htk]; exact htl
      have HF5 : Hid (ORow wr.heap.size w5 vf (l.take mm)) := Lib.hid (by rw [← htk]; exact ORow.of_owns hr)
      have HQ6 := Lib.hid (HQ5.out.kept hg)
      have HG6 := Lib.hid (grown_trans HG3.out hg)
      have HB6 := Lib.hid (HB3.out.kept hg (by simp))
      obtain ⟨A5, cap5, rfl⟩ := owns_slice hr
      rw [htl] at HF5 ⊢
      have HLM := Lib.hid hlm
      clear hr hg HTD HQ5 HG3 HB3 hcb htl htk hlm
      have hcb := HB6.out.cell
      have hmin : (if (mo : Int) < (k : Int) then (mo : Int) else (k : Int)) = (mm : Int) := by rw [← Hmm.out]; split <;> omega
      have hmin2 : (if mo < k then (mo : Int) else (k : Int)) = (mm : Int) := by rw [← Hmm.out]; split <;> omega
      have hkm : mm ≤ k := by rw [← Hmm.out]; omega
      have q1 : (0 : Int) ≤ (mm : Int) := by omega
      have q2 : (mm : Int) ≤ (cap : Int) := by omega
      gi_wp2_with fail
      refine (callsIn_wide.2 (all_any _ _)).mono ?_
      rintro e w' ⟨rfl, rfl⟩
      have hga := World.grownBy_alloc w5 (.cells #[.pointer (some ⟨w.heap.size, 0, none⟩)] 23) none
      have HBa : Hid ((w5.alloc (.cells #[.pointer (some ⟨w.heap.size, 0, none⟩)] 23)).heap[w5.heap.size]? = some (.cells #[.pointer (some ⟨w.heap.size, 0, none⟩)] 23 (0, 0))) := Lib.hid (heap_alloc_new w5 _)
      have HQ7 := Lib.hid (HQ6.out.kept hga)
      have HG7 := Lib.hid (grown_trans HG6.out hga)
      have HB7 := Lib.hid (HB6.out.kept hga (by simp))
      have HF7 := Lib.hid (HF5.out.kept hga)
      obtain ⟨Ba, HBae⟩ : ∃ Ba, Hid (w5.heap.size = Ba) := ⟨_, Lib.hid rfl⟩
      rw [HBae.out] at HBa ⊢
      clear HQ6 HG6 HB6 HF5 hcb hga HBae
      generalize w5.alloc (.cells #[.pointer (some ⟨w.heap.size, 0, none⟩)] 23) = w6 at *
      have hcb := HB7.out.cell
      have hfn := fun w' => run_eql_func_nil (P := Try.prog) w' (.func 23) #[] #[.pointer (some ⟨Ba, 0, none⟩)] Try.underlying41
      have HSm := Lib.hid (fun c => same_is A5 A cap5 c (l.take mm) (l.take mm) w6 HF7.out.irow ((HL.out.kept HG7.out).take mm) (by rw [HLM.out]; omega) (by rw [HLM.out]; omega))
      rw [HLM.out, show decide (l.take mm = l.take mm) = true from decide_eq_true rfl] at HSm
      gi_wp2_with fail
      refine (callsIn_wide.2 (HSm.out _)).mono ?_
      rintro e w7 ⟨rfl, q, rfl⟩
      have hgq := grown_drewN w6 q none
      have HBa7 := Lib.hid ((hgq.block Ba (Array.getElem?_eq_some_iff.1 HBa.out).1 (by simp)).trans HBa.out)
      have HQ8 := Lib.hid (HQ7.out.kept hgq)
      have HG8 := Lib.hid (grown_trans HG7.out hgq)
      have HB8 := Lib.hid (HB7.out.kept hgq (by simp))
      clear HBa HQ7 HG7 HB7 HF7 HSm hgq hcb hfn HLM Hmm hmin hmin2 hkm q1 q2
      generalize w6.drewN q = w7 at *
      gi_wp2_with fail
      have hga := World.grownBy_alloc w7 (.cells #[.slice none 0 0] 22) none
      have hzB : (w7.alloc (.cells #[.slice none 0 0] 22)).heap.size = w7.heap.size + 1 := by simp
      have HBaB := Lib.hid ((hga.block Ba (Array.getElem?_eq_some_iff.1 HBa7.out).1 (by simp)).trans HBa7.out)
      have HQB := Lib.hid (HQ8.out.kept hga)
      have HGB := Lib.hid (grown_trans HG8.out hga)
      have HBB := Lib.hid (HB8.out.kept hga (by simp))
      have HSB := Lib.hid (Boxed.new w7 22 (.slice none 0 0))
      have HLT : Hid (Bq < w7.heap.size ∧ w.heap.size ≤ w7.heap.size ∧ (∀ k, own w.heap.size og k → k < w7.heap.size)) := Lib.hid ⟨HB8.out.lt, HG8.out.size, fun k hk => (HQ8.out.own_lo hk).2⟩
      obtain ⟨Bs, HBs⟩ : ∃ Bs, Hid (w7.heap.size = Bs) := ⟨_, Lib.hid rfl⟩
      rw [HBs.out] at HSB HLT hzB ⊢
      clear HBa7 HQ8 HG8 HB8 hga HBs
      generalize w7.alloc (.cells #[.slice none 0 0] 22) = wB at *
      have HSq := Lib.hid (all_seq w.heap.size Ba (some ⟨w.heap.size, 0, none⟩) l wB (by rw [Hlen.out]; omega) (cell_of_head HBaB.out 0) (tells_is HQB.out))
      have hap0 : ∀ k, foot Bs (.slice none 0 0) k → ¬ own w.heap.size og k := fun k hk ho => by
        have := HLT.out.2.2 k ho
        rcases hk with rfl | hk
        · omega
        · cases hk
      have HI0 : Hid (QI w wB Bq Bs (Bs + 1) l [] (.slice none 0 0) og (fun k => foot Bs (.slice none 0 0) k ∨ own w.heap.size og k)) := Lib.hid
        ⟨HSB.out, World.ownsRow_nil _ _ _ _, rfl, by rw [List.length_nil, List.drop_zero, Hlen.out]; exact HQB.out, HBB.out, hap0, HO3.out, HGB.out, by omega⟩
      clear HBaB HQB HGB HBB HSB HO3 hap0
      obtain ⟨i0, hi, hz0, hz1, hz2⟩ := info_parts info2
      refine range_own (P := Try.prog) (α := Nat × Int) (gf := 23) (lb := #[.pointer (some ⟨Ba, 0, none⟩)]) rfl (enters_of Try.func23 (by kernel_rfl) rfl) (Prot := fun _ => False) (fun _ h => h.elim)
        HSq.out (World.grownBy.refl _ _) (by have := HLT.out; omega) (fun _ => rfl) (fun _ => False) (fun _ h => h.elim)
        (fun pre Ft W => ∃ v og, QI w W Bq Bs (Bs + 1) l pre v og Ft) (fun _ _ _ _ => False)
        ?firm (fun _ _ _ _ _ h _ => h.elim) ?own (fun _ _ _ _ _ h _ => h.elim) (fun _ _ _ _ _ h => h.elim)
        (fun k => foot Bs (.slice none 0 0) k ∨ own w.heap.size og k) ⟨_, _, HI0.out⟩ ?hF0 ?a1 ?assign ?body ?done ?stop
      case assign =>
        intro l2 m2 x W2 K hK
        gi_wp2
        exact hK
      case firm =>
        rintro pre Ft W W' ⟨v, og, h⟩ hs
        have := HLT.out
        exact ⟨v, og, h.firm (by omega) (by omega) hs⟩
      case own =>
        rintro pre Ft W k' ⟨v, og, h⟩ hk'
        have := HLT.out
        exact h.owned (by omega) (by omega) hk'
      case hF0 =>
        have := HLT.out
        rintro k' (hk' | hk')
        · rcases hk' with rfl | hk'
          · omega
          · cases hk'
        · have := this.2.2 k' hk'; omega
      case stop =>
        rintro c pre Ft W2 _ h _
        exact h.elim
      case body =>
        rintro l2 m2 pre x Ft W2 ⟨v, og, h⟩ hlen2 hsp
        have hlt4 := HLT.out
        obtain ⟨e1, e2, e3⟩ := enum_at hsp
        obtain ⟨Av, cv, rfl⟩ := owns_slice h.row
        have hsb := h.box.cell
        have hqb := h.qbox.cell
        have hzz := h.sz
        have hml : (pre.map Prod.snd).length = pre.length := by simp
        obtain ⟨xi, xv⟩ := x
        dsimp only at e1 e2
        subst e1
        obtain ⟨g', cap', w3, hrun, ho, hgr, hft⟩ := run_append_foot (P := Try.prog) (W2.alloc (.cells #[.int .i64 xv] 2)) (Bs + 1) 22 22 2 i0 (.int .i64 0) 1 8 Try.underlying22 hi hz0 hz1 hz2 rfl (by decide) (.slice Av (pre.map Prod.snd).length cv) (pre.map Prod.snd).length (ivals (pre.map Prod.snd)) (h.row.alloc _) ⟨W2.heap.size, 0, none⟩ 1 [.int .i64 xv] rfl (cell_new1 W2 2 _) (by simp [Value.oneCell']) (by unfold maxLen; omega) (by omega) (by simp; omega)
        obtain ⟨hb1, hb2, hr2, hst3⟩ := coll_push h.box h.row ho hgr hft
        have hs3 := hst3 (fun _ => False)
        have hcc1 := hb1.cell
        have hff1 := hb1.frozen
        have hmid := (h.mid hs3).resolve_right (fun hf => by
          rcases hf with hf | hf
          · omega
          · have := (h.row.lt _ hf).1; omega)
        have hp := pop_is hmid.1
        have hdr : l.drop pre.length = xv :: l.drop (pre.length + 1) := by
          obtain ⟨hi2, he2⟩ := List.getElem?_eq_some_iff.1 e2
          rw [← he2]; exact List.drop_eq_getElem_cons hi2
        rw [popped_ivals, hdr] at hp
        unfold popI at hp
        dsimp only at hp
        have hqb3 := hmid.2.cell
        rw [hml] at hsb hrun hb2 hr2 hs3 hp hqb3 hcc1
        have HC6 := Lib.hid hp
        have HRun := Lib.hid hrun
        rw [hml] at h
        have HH := Lib.hid h
        have HB2 := Lib.hid hb2
        have HR2 := Lib.hid hr2
        have HS3 := Lib.hid hs3
        clear hrun ho hgr hft hb1 hb2 hr2 hst3 hs3 hmid hp hdr e2 e3 h hsp
        gi_wp2_with (gi_at_builtin; refine append_in rfl (.tmp 69) (.tmp 71) 22 rfl rfl rfl HRun.out ?_)
        refine (CallsIn.inRound l2 (callsIn_wide.2 HC6.out)).mono ?_
        unfold OpPost
        rintro e w5 ⟨rfl, og5, hq5, s5⟩
        have hfin := HH.out.next (x := (pre.length, xv)) (by omega) (by omega) (by omega) (by omega) HS3.out HB2.out HR2.out hq5 s5
        have HFin := Lib.hid hfin
        clear hq5 s5 hfin HC6 hqb3
        gi_wp2
        exact ⟨_, ⟨_, _, HFin.out.1⟩, HFin.out.2⟩
      case done =>
        rintro ys Ft W hS ⟨v, og, h⟩ hD
        have hS : ys = enum l := hS
        subst hS
        have hlt4 := HLT.out
        obtain ⟨Av, cv, rfl⟩ := owns_slice h.row
        have hrow := h.row
        rw [enum_snd] at hrow
        have hir := (ORow.of_owns hrow).irow
        have hsb := h.box.cell
        rw [enum_snd, Hlen.out] at hsb
        have hqb := h.qbox.cell
        have hq := h.q
        rw [enum_length, List.drop_of_length_le (Nat.le_refl _)] at hq
        have HSm := Lib.hid (same_is Av A cv cap l l W hir (HL.out.kept h.grown) (by rw [Hlen.out]; omega) (by rw [Hlen.out]; omega))
        rw [Hlen.out, show decide (l = l) = true from decide_eq_true rfl] at HSm
        have HQ := Lib.hid hq
        have HGH := Lib.hid h.grown
        have HQB := Lib.hid h.qbox
        have HD0 := Lib.hid hD
        clear hrow hir hq h hD
        gi_wp2_with fail
        refine (callsIn_wide.2 HSm.out).mono ?_
        rintro e wq ⟨rfl, q, rfl⟩
        have hgq := grown_drewN W q none
        have HQA := Lib.hid (HQ.out.kept hgq)
        have HGA := Lib.hid (grown_trans HGH.out hgq)
        have HQBA := Lib.hid (HQB.out.kept hgq (by simp))
        have HDA : Hid ((W.drewN q).heap[wB.heap.size]? = some (.deferred (some []))) := Lib.hid HD0.out
        clear hsb hqb HSm HQ HGH HQB HD0 hgq
        generalize W.drewN q = wA at *
        have hqb := HQBA.out.cell
        have HLn := Lib.hid (len_is HQA.out)
        gi_wp2_with fail
        refine (callsIn_wide.2 HLn.out).mono ?_
        rintro e w' ⟨rfl, rfl⟩
        gi_wp2_with fail
        refine (callsIn_wide.2 (alive_any wA)).mono ?_
        rintro e wE ⟨rfl, hg⟩
        have HGE := Lib.hid (grown_trans HGA.out hg)
        have HDE : Hid (wE.heap[wB.heap.size]? = some (.deferred (some []))) := Lib.hid ((hg.block _ (Array.getElem?_eq_some_iff.1 HDA.out).1 (by simp)).trans HDA.out)
        clear hg HGA HDA hqb HLn HQBA HQA
        gi_wp2
        refine ⟨by simp, .inl ⟨_, _, rfl, run_takeDeferred (show wE.heap[Bs + 1]? = some (.deferred (some [])) by rw [← hzB]; exact HDE.out), ?_⟩⟩
        refine ⟨_, results_tmp rfl _ _ _, rfl, ?_⟩
        exact grown_new HGE.out (grownBy_putObj' _ _ _) (by omega)
theorem tells_long (A : Option Addr) (n cap : Nat) (k : Int) (w : World) (h : 200 < n) :
    Calls Try.prog 5 #[.slice A n cap, .int .u8 k] w fun e w' => e = .returned (.bool true) ∧ w.grownBy w' none := by
  have C0 := Lib.hid (new_at 200 (by decide) (by decide) w)
  have hd : (200 : Int) < (n : Int) := by omega
  go_enter Try.func5, Try.ntmps5
  go_wp2_with fail
  refine C0.out.mono ?_
  rintro e w1 ⟨rfl, hg, hq⟩
  have HG := Lib.hid (grown_trans hg (World.grownBy_alloc w1 (.cells #[.pointer (some ⟨w.heap.size, 0, none⟩)] 23) none))
  clear hg hq C0
  go_wp2_with fail
  refine (alive_any _).mono ?_
  rintro e w2 ⟨rfl, hg⟩
  have HG2 := Lib.hid (grown_trans HG.out hg)
  clear hg
  go_wp2_with fail
  go_ret
  exact ⟨rfl, HG2.out⟩
end Go.Proofs.Ytcphbendmnmpiaa
