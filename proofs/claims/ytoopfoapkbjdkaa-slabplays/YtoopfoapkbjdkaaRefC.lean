/-
  The document's slab: which handles stand, its chunks, Set.
-/
import Derived.Test.YtoopfoapkbjdkaaRefB
namespace Go.Proofs.Ytoopfoapkbjdkaa
open Go.ChangeShapes Go.WideShapes Go.ChangeAt Go.RowKit
set_option linter.unusedVariables false
set_option maxRecDepth 100000

theorem results_ref4 {fn : Func} {p : Tmp} (h : fn.results = #[.cell p 32]) (tmps : Array Value) (w : World) (g : Nat) (t : TypeId) (fr : Nat × Nat) (x y z u : Value)
    (hp : tmps.getD p undef = .pointer (some ⟨g, 0, none⟩)) (hg : w.heap[g]? = some (.cells #[x, y, z, u] t fr)) : (results fn tmps).run Try.prog w = .ok (.agg #[x, y, z, u]) w := by
  have hp' : tmps[p]?.getD undef = .pointer (some ⟨g, 0, none⟩) := by simpa using hp
  simp only [results, h]
  simp [hp', asAddr, run_loadVar_row w g t 32 #[x, y, z, u] fr _ hg Try.underlying32 rfl (by kernel_rfl)]
theorem alloc2 (w : World) (o0 o1 : Obj) : w.grownBy ((w.alloc o0).alloc o1) none ∧ ((w.alloc o0).alloc o1).heap.size = w.heap.size + 2 ∧
    ((w.alloc o0).alloc o1).heap[w.heap.size]? = some o0 ∧ ((w.alloc o0).alloc o1).heap[w.heap.size + 1]? = some o1 := by
  have e : ((w.alloc o0).alloc o1).heap.toList = w.heap.toList ++ [o0, o1] := by simp only [World.alloc, Array.toList_push, List.append_assoc, List.cons_append, List.nil_append]
  have g : ∀ (i : Nat) (o : Obj), [o0, o1][i]? = some o → ((w.alloc o0).alloc o1).heap[w.heap.size + i]? = some o := fun i o h => by
    rw [← Array.getElem?_toList, e, List.getElem?_append_right (by rw [Array.length_toList]; omega), Array.length_toList, Nat.add_sub_cancel_left]; exact h
  exact ⟨grown_trans (World.grownBy_alloc _ _ none) (World.grownBy_alloc _ _ none), by simp only [World.size_alloc], g 0 _ rfl, g 1 _ rfl⟩
theorem alloc3 (w : World) (o0 o1 o2 : Obj) : w.grownBy (((w.alloc o0).alloc o1).alloc o2) none ∧ (((w.alloc o0).alloc o1).alloc o2).heap.size = w.heap.size + 3 ∧
    (((w.alloc o0).alloc o1).alloc o2).heap[w.heap.size]? = some o0 ∧ (((w.alloc o0).alloc o1).alloc o2).heap[w.heap.size + 1]? = some o1 ∧ (((w.alloc o0).alloc o1).alloc o2).heap[w.heap.size + 2]? = some o2 := by
  have e : (((w.alloc o0).alloc o1).alloc o2).heap.toList = w.heap.toList ++ [o0, o1, o2] := by simp only [World.alloc, Array.toList_push, List.append_assoc, List.cons_append, List.nil_append]
  have g : ∀ (i : Nat) (o : Obj), [o0, o1, o2][i]? = some o → (((w.alloc o0).alloc o1).alloc o2).heap[w.heap.size + i]? = some o := fun i o h => by
    rw [← Array.getElem?_toList, e, List.getElem?_append_right (by rw [Array.length_toList]; omega), Array.length_toList, Nat.add_sub_cancel_left]; exact h
  exact ⟨grown_trans (grown_trans (World.grownBy_alloc _ _ none) (World.grownBy_alloc _ _ none)) (World.grownBy_alloc _ _ none), by simp only [World.size_alloc], g 0 _ rfl, g 1 _ rfl, g 2 _ rfl⟩

section
variable {w w' : World} {lo : Nat} {S : SI} {vL vF : Value}
/-- where blocks of no row are stored, a reference stays -/
theorem RefAt.stay (h : RefAt w lo S vL vF) (hb : ∀ (k : Nat) (cur : Array Value) (t : TypeId), (t = 80 ∨ t = 3) → w.heap[k]? = some (.cells cur t (0, 0)) → w'.heap[k]? = w.heap[k]?) : RefAt w' lo S vL vF :=
  ⟨owns_stay h.rowL fun k hk => by obtain ⟨_, cur, hc⟩ := owns_type h.rowL hk; exact hb k cur 80 (.inl rfl) hc, owns_stay h.rowF fun k hk => by obtain ⟨_, cur, hc⟩ := owns_type h.rowF hk; exact hb k cur 3 (.inr rfl) hc⟩
/-- does a handle name a node? -/
theorem names_nat {p t : Int} : (S.names p t).isSome = true ↔ ∃ s, 0 ≤ p ∧ S.L[p.toNat]? = some s ∧ s.stands = true ∧ (s.turn : Int) = t := by
  rw [Option.isSome_iff_exists]
  constructor
  · rintro ⟨s, h⟩
    obtain ⟨h1, h2⟩ := names_some.1 h
    obtain ⟨a, b, c⟩ := node_some.1 h1
    exact ⟨s, a, b, c, h2⟩
  · rintro ⟨s, a, b, c, d⟩
    exact ⟨s, names_some.2 ⟨node_some.2 ⟨a, b, c⟩, d⟩⟩
set_option maxHeartbeats 2000000 in
theorem rstands_at (h : RefAt w lo S vL vF) (h6 : S.L.length ≤ 65536) (p t : Int) :
    Calls Try.prog 29 #[refVal S vL vF, .int .i64 p, .int .i64 t] w fun e w' => e = .returned (.bool (S.names p t).isSome) ∧ w.grownBy w' none := by
  have hga := World.grownBy_alloc w (.cells #[.int .i64 (S.most : Int), .int .i64 (S.c : Int), vL, vF] 32) none
  have hb := heap_alloc_new w (.cells #[.int .i64 (S.most : Int), .int .i64 (S.c : Int), vL, vF] 32)
  have H := Lib.hid (h.kept hga)
  have HG := Lib.hid hga
  obtain ⟨A, cap, hv⟩ := h.slice
  subst hv
  obtain ⟨c0, c1, c2, c3, l0⟩ := cells4 hb
  obtain ⟨len, Hlen⟩ : ∃ len, Hid (S.L.length = len) := ⟨_, Lib.hid rfl⟩
  unfold refVal
  by_cases h0 : 0 ≤ p
  · have hd0 : decide (0 ≤ p) = true := by simp; omega
    obtain ⟨x, rfl⟩ := Int.eq_ofNat_of_zero_le h0
    by_cases hl : x < S.L.length
    · obtain ⟨s, hs⟩ : ∃ s, S.L[x]? = some s := ⟨_, List.getElem?_eq_getElem hl⟩
      obtain ⟨g, cap', hv, hg, d0, d1, d2⟩ := H.out.cell hs
      injection hv with e1 e2 e3
      subst e1; subst e3
      have hnm : (S.names (x : Int) t).isSome = (s.stands && ((s.turn : Int) == t)) := by
        rw [Bool.eq_iff_iff, names_nat]
        simp only [Int.toNat_natCast, Bool.and_eq_true, beq_iff_eq]
        constructor
        · rintro ⟨s', _, h2, h3, h4⟩
          rw [hs] at h2; cases h2; exact ⟨h3, h4⟩
        · rintro ⟨h3, h4⟩; exact ⟨s, by omega, hs, h3, h4⟩
      rw [hnm]
      have hd1 : decide ((x : Int) < (S.L.length : Int)) = true := by simp; omega
      have hxI : (x : Int) < (len : Int) := by rw [← Hlen.out]; omega
      clear hb h hga hnm hs
      rw [Hlen.out] at c2 hd1 HG hl d0 d1 d2 c0 c1 c3 l0 hg h6 ⊢
      cases hst : s.stands with
      | false =>
        rw [hst] at d1
        go_enter Try.func29, Try.ntmps29
        go_wp2
        go_ret
        exact ⟨rfl, HG.out⟩
      | true =>
        rw [hst] at d1
        go_enter Try.func29, Try.ntmps29
        go_wp2
        go_ret
        exact ⟨rfl, HG.out⟩
    · have hnm : (S.names (x : Int) t).isSome = false := by
        rw [Bool.eq_false_iff]
        intro hh
        obtain ⟨s, _, h2, _⟩ := names_nat.1 hh
        rw [Int.toNat_natCast, List.getElem?_eq_none (by omega)] at h2
        cases h2
      rw [hnm]
      have hd1 : decide ((x : Int) < (S.L.length : Int)) = false := by simp; omega
      go_enter Try.func29, Try.ntmps29
      go_wp2
      go_ret
      exact ⟨rfl, HG.out⟩
  · have hd0 : decide (0 ≤ p) = false := by simp; omega
    have hnm : (S.names p t).isSome = false := by
      rw [Bool.eq_false_iff]
      intro hh
      obtain ⟨s, h1, _⟩ := names_nat.1 hh
      omega
    rw [hnm]
    go_enter Try.func29, Try.ntmps29
    go_wp2
    go_ret
    exact ⟨rfl, HG.out⟩
set_option maxHeartbeats 2000000 in
theorem rchunks_at (h : RefAt w lo S vL vF) (h6 : S.L.length ≤ 65536) (hc1 : 1 ≤ S.c) (hc6 : S.c ≤ 65536) :
    Calls Try.prog 34 #[refVal S vL vF] w fun e w' => e = .returned (.int .i64 (nch S.c S.L.length : Int)) ∧ w.grownBy w' none := by
  have hga := World.grownBy_alloc w (.cells #[.int .i64 (S.most : Int), .int .i64 (S.c : Int), vL, vF] 32) none
  have hb := heap_alloc_new w (.cells #[.int .i64 (S.most : Int), .int .i64 (S.c : Int), vL, vF] 32)
  have HG := Lib.hid hga
  obtain ⟨A, cap, hv⟩ := h.slice
  subst hv
  obtain ⟨c0, c1, c2, c3, l0⟩ := cells4 hb
  obtain ⟨len, Hlen⟩ : ∃ len, Hid (S.L.length = len) := ⟨_, Lib.hid rfl⟩
  obtain ⟨c, Hc⟩ : ∃ c, Hid (S.c = c) := ⟨_, Lib.hid rfl⟩
  unfold refVal
  rw [Hlen.out, Hc.out] at HG c0 c1 c2 c3 l0 ⊢
  rw [Hlen.out] at h6
  rw [Hc.out] at hc1 hc6
  clear h hga hb
  go_enter Try.func34, Try.ntmps34
  go_wp2_with fail
  generalize w.alloc (.cells #[.int .i64 (S.most : Int), .int .i64 (c : Int), .slice A len cap, vF] 32) = wx at *
  go_loopw [3] (fun n wr => ∃ k : Nat, k ≤ nch c len ∧ n = .int .i64 (k : Int) ∧ wr = wx) (fun n _ => nch c len - (intOf n).toNat)
  case atStart => exact ⟨0, Nat.zero_le _, by go_num, rfl⟩
  case round =>
    obtain ⟨k, hk, rfl, rfl⟩ := hrel
    by_cases hlt : k < nch c len
    · have h1 : k * c < len := (nch_lt hc1).1 hlt
      have hm : (k : Int) * (c : Int) = ((k * c : Nat) : Int) := by simp
      have hw : IntKind.i64.wrap ((k : Int) * (c : Int)) = ((k * c : Nat) : Int) := by rw [hm, IntKind.wrap_i64]; omega
      have hd : decide (((k * c : Nat) : Int) < (len : Int)) = true := by simp only [decide_eq_true_eq]; omega
      have hk6 : k < 65536 := by
        have := Nat.mul_le_mul_left k hc1
        omega
      generalize k * c = m at *
      go_wp2
      go_roundw
      case rel => exact ⟨k + 1, by omega, by go_num, trivial⟩
      case measure => simp only [intOf]; omega
    · obtain rfl : k = nch c len := by omega
      have h1 : ¬ nch c len * c < len := fun h => hlt ((nch_lt hc1).2 h)
      have hk6 : nch c len ≤ 65536 := by
        refine Nat.le_of_not_lt fun h => ?_
        have := (nch_lt (c := c) (n := len) (j := 65536) hc1).1 h
        have := Nat.mul_le_mul_right 65536 hc1
        omega
      have hm2 : nch c len * c ≤ 65536 * 65536 := Nat.mul_le_mul hk6 hc6
      obtain ⟨k, HK⟩ : ∃ k, Hid (nch c len = k) := ⟨_, Lib.hid rfl⟩
      rw [HK.out] at h1 hk6 hm2 ⊢
      have hm : (k : Int) * (c : Int) = ((k * c : Nat) : Int) := by simp
      have hw : IntKind.i64.wrap ((k : Int) * (c : Int)) = ((k * c : Nat) : Int) := by rw [hm, IntKind.wrap_i64]; omega
      have hd : decide (((k * c : Nat) : Int) < (len : Int)) = false := by simp only [decide_eq_false_iff_not]; omega
      generalize k * c = m at *
      go_wp2
      go_ret
      exact ⟨by rw [HK.out]; rfl, HG.out⟩
theorem RefAt.setB {B i : Nat} {v : Value} {cur : Array Value} (h : RefAt w lo S vL vF) (hB : w.heap[B]? = some (.cells cur 32 (0, 0))) : RefAt (w.setCell ⟨B, i, none⟩ v) lo S vL vF := by
  refine h.stay fun k cur' t ht hk => heap_setCell_other _ _ _ _ ?_
  rintro rfl
  rw [hB] at hk
  injection hk with hk
  injection hk with _ e _
  rcases ht with rfl | rfl <;> cases e
theorem fin_ref {w0 : World} {B1 : Nat} {a b c d x y z u : Value} (hg : w0.grownBy w none) (h1 : w0.heap.size ≤ B1) (hB : w.heap[B1]? = some (.cells #[a, b, c, d] 32 (0, 0))) (h : RefAt w lo S vL vF) :
    ((((w.setCell ⟨B1, 0, none⟩ x).setCell ⟨B1, 1, none⟩ y).setCell ⟨B1, 2, none⟩ z).setCell ⟨B1, 3, none⟩ u).heap[B1]? = some (.cells #[x, y, z, u] 32 (0, 0)) ∧
    RefAt ((((w.setCell ⟨B1, 0, none⟩ x).setCell ⟨B1, 1, none⟩ y).setCell ⟨B1, 2, none⟩ z).setCell ⟨B1, 3, none⟩ u) lo S vL vF ∧
    w0.grownBy ((((w.setCell ⟨B1, 0, none⟩ x).setCell ⟨B1, 1, none⟩ y).setCell ⟨B1, 2, none⟩ z).setCell ⟨B1, 3, none⟩ u) none :=
  ⟨head_set (head_set (head_set (head_set hB 0 x) 1 y) 2 z) 3 u, (((h.setB hB).setB (head_set hB 0 x)).setB (head_set (head_set hB 0 x) 1 y)).setB (head_set (head_set (head_set hB 0 x) 1 y) 2 z),
    grown_new (grown_new (grown_new (grown_new hg (grown_setCell _ _ _ _) h1) (grown_setCell _ _ _ _) h1) (grown_setCell _ _ _ _) h1) (grown_setCell _ _ _ _) h1⟩
set_option maxHeartbeats 2000000 in
theorem rset_at (h : RefAt w 0 S vL vF) (h6 : S.L.length ≤ 65536) {p : Nat} {s : Spot Int} (hs : S.L[p]? = some s) (v : Int) :
    Calls Try.prog 32 #[refVal S vL vF, .int .i64 (p : Int), .int .i64 v] w fun e w' => ∃ vL', e = .returned (refVal (S.set p v) vL' vF) ∧ RefAt w' 0 (S.set p v) vL' vF ∧ w.grownBy w' none := by
  obtain ⟨AF, capF, rfl⟩ := owns_slice h.rowF
  obtain ⟨lF, HlF⟩ : ∃ lF, Hid (S.fr.length = lF) := ⟨_, Lib.hid rfl⟩
  rw [HlF.out] at h ⊢
  obtain ⟨hg0, hz0, b0, b1, b2⟩ := alloc3 w (.cells #[.int .i64 (S.most : Int), .int .i64 (S.c : Int), vL, .slice AF lF capF] 32) (.cells #[.int .i64 0, .int .i64 0, .slice none 0 0, .slice none 0 0] 32) (.cells #[.int .i64 (s.turn : Int), .bool s.stands, .int .i64 v] 80)
  have hset : S.set p v = ({ S with L := S.L.set p ⟨s.turn, s.stands, v⟩ } : SI) := by unfold Slb.set; rw [hs]
  have hp := (List.getElem?_eq_some_iff.1 hs).1
  rw [hset]
  obtain ⟨g, cap, hv, hg, d0, d1, d2⟩ := h.cell hs
  subst hv
  have hW : Calls Try.prog 47 #[.slice (some ⟨g, 0, none⟩) S.L.length cap, .int .i64 (p : Int), .agg #[.int .i64 (s.turn : Int), .bool s.stands, .int .i64 v]] (((w.alloc (.cells #[.int .i64 (S.most : Int), .int .i64 (S.c : Int), .slice (some ⟨g, 0, none⟩) S.L.length cap, .slice AF lF capF] 32)).alloc (.cells #[.int .i64 0, .int .i64 0, .slice none 0 0, .slice none 0 0] 32)).alloc (.cells #[.int .i64 (s.turn : Int), .bool s.stands, .int .i64 v] 80)) fun e w'' => ∃ A cap', e = .returned (.slice A S.L.length cap') ∧ w''.ownsRow 0 80 3 (.slice A S.L.length cap') S.L.length ((S.L.set p ⟨s.turn, s.stands, v⟩).flatMap pcells) ∧ (((w.alloc (.cells #[.int .i64 (S.most : Int), .int .i64 (S.c : Int), .slice (some ⟨g, 0, none⟩) S.L.length cap, .slice AF lF capF] 32)).alloc (.cells #[.int .i64 0, .int .i64 0, .slice none 0 0, .slice none 0 0] 32)).alloc (.cells #[.int .i64 (s.turn : Int), .bool s.stands, .int .i64 v] 80)).grownBy w'' none := with_at (h.kept hg0) h6 hp ⟨s.turn, s.stands, v⟩
  have HW := Lib.hid hW
  have HF := Lib.hid h
  have HB0 := Lib.hid b0
  have HB1 := Lib.hid b1
  have HG0 := Lib.hid hg0
  obtain ⟨hg2, _, y0, _⟩ := alloc2 w (.cells #[.int .i64 (S.most : Int), .int .i64 (S.c : Int), .slice (some ⟨g, 0, none⟩) S.L.length cap, .slice AF lF capF] 32) (.cells #[.int .i64 0, .int .i64 0, .slice none 0 0, .slice none 0 0] 32)
  have e0 := hg2.cell d0 (by simp)
  have e1 := hg2.cell d1 (by simp)
  have e2 := hg2.cell d2 (by simp)
  obtain ⟨z0, z1, z2, z3, z4⟩ := cells4 y0
  obtain ⟨c00, c01, c02, c03, l0⟩ := cells4 b0
  unfold refVal
  obtain ⟨len, Hlen⟩ : ∃ len, Hid (S.L.length = len) := ⟨_, Lib.hid rfl⟩
  have hpI : (p : Int) < (S.L.length : Int) := by omega
  rw [Hlen.out] at HW HB0 HB1 HG0 hpI hp h6 c00 c01 c02 c03 e0 e1 e2 z0 z1 z2 z3 z4 l0
  simp only [Hlen.out]
  clear hg2 y0 h hg0 b0 b1 b2 hs hW d0 d1 d2 hset hz0
  go_enter Try.func32, Try.ntmps32
  go_wp2_with fail
  refine HW.out.mono ?_
  rintro e w5 ⟨A', cap', rfl, hrow, hg5⟩
  have HB05 := Lib.hid (kept2 HB0.out hg5)
  have HB15 := Lib.hid (kept2 HB1.out hg5)
  have HG5 := Lib.hid (grown_trans HG0.out hg5)
  have HR5 : Hid (RefAt w5 0 ({ S with L := S.L.set p ⟨s.turn, s.stands, v⟩ } : SI) (.slice A' len cap') (.slice AF lF capF)) := Lib.hid ⟨by simp only [List.length_set, Hlen.out]; exact hrow, (HF.out.kept (grown_trans HG0.out hg5)).rowF⟩
  clear hrow hg5 z0 z1 z2 z3 z4 c00 c01 c02 c03 l0 e0 e1 e2 HW HB0 HB1 HG0
  obtain ⟨c00, c01, c02, c03, l0⟩ := cells4 HB05.out
  obtain ⟨c10, c11, c12, c13, l1⟩ := cells4 HB15.out
  have f02 := (free4 HB05.out).2.2.1
  obtain ⟨f10, f11, f12, f13⟩ := free4 HB15.out
  go_wp2
  have hB16 : (w5.setCell ⟨w.heap.size, 2, none⟩ (.slice A' len cap')).heap[w.heap.size + 1]? = some (.cells #[.int .i64 0, .int .i64 0, .slice none 0 0, .slice none 0 0] 32 (0, 0)) := (heap_setCell_other _ _ _ _ (by simp only; omega)).trans HB15.out
  have hf := fin_ref (x := .int .i64 (S.most : Int)) (y := .int .i64 (S.c : Int)) (z := .slice A' len cap') (u := .slice AF lF capF) (w0 := w) (grown_new HG5.out (grown_setCell w5 w.heap.size 2 (.slice A' len cap')) (Nat.le_refl _)) (by omega) hB16 (HR5.out.setB HB05.out)
  refine bodyPost_ret (results_ref4 rfl _ _ _ _ _ _ _ _ _ rfl hf.1) rfl ?_
  exact ⟨_, rfl, hf.2.1, hf.2.2⟩
end
end Go.Proofs.Ytoopfoapkbjdkaa
