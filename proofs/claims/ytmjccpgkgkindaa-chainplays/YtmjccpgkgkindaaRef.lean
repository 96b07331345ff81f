/-
  The document's chains: how they lie in memory; what its functions that read tell.
-/
import Derived.Test.YtmjccpgkgkindaaAdds
import Derived.Laws.ResultCell
namespace Go.Proofs.Ytmjccpgkgkindaa
open Go.ChangeShapes Go.WideShapes Go.ChangeAt Go.RowKit
set_option linter.unusedVariables false

def refV (C : Ch) (b cap : Nat) : Value := .agg #[.int .i64 (C.N : Int), .slice (some ⟨b, 0, none⟩) C.ls.length cap]
structure RefAt (w : World) (C : Ch) (b cap : Nat) (rows : Nat → Value) : Prop where
  head : ∃ cur, w.heap[b]? = some (.cells cur 71 (0, 0))
  le : C.ls.length ≤ cap
  cm : cap ≤ maxLen
  cell : ∀ i, i < C.ls.length → w.cell? ⟨b, i, none⟩ = some (rows i)
  row : ∀ i, i < C.ls.length → NRow w (rows i) (C.of i)
section
variable {w w' : World} {C : Ch} {b cap : Nat} {rows : Nat → Value}
theorem RefAt.stay (h : RefAt w C b cap rows) (hb : ∀ (k : Nat) (cur : Array Value) (t : TypeId), (t = 71 ∨ t = 21) → w.heap[k]? = some (.cells cur t (0, 0)) → w'.heap[k]? = w.heap[k]?) : RefAt w' C b cap rows := by
  obtain ⟨cur, hc⟩ := h.head
  have e := hb b cur 71 (.inl rfl) hc
  exact ⟨⟨cur, e.trans hc⟩, h.le, h.cm, fun i hi => (World.cell?_of_block (a := ⟨b, i, none⟩) e).trans (h.cell i hi), fun i hi => (h.row i hi).stay fun k cur hk => hb k cur 21 (.inr rfl) hk⟩
theorem RefAt.kept (h : RefAt w C b cap rows) (hg : w.grownBy w' none) : RefAt w' C b cap rows := h.stay fun k cur t _ hk => hg.block k (Array.getElem?_eq_some_iff.1 hk).1 (by simp)
theorem RefAt.kp (h : RefAt w C b cap rows) {gL gN : Nat} (hk : Kp gL gN w w') (hL : ∃ cur, w.heap[gL]? = some (.cells cur 69 (0, 0))) (hN : ∃ cur, w.heap[gN]? = some (.cells cur 3 (0, 0))) : RefAt w' C b cap rows := by
  refine h.stay fun k cur t ht hb => hk.block k (Array.getElem?_eq_some_iff.1 hb).1 ⟨?_, ?_⟩
  · rintro rfl
    obtain ⟨c, hc⟩ := hL
    have := type_eq hb hc
    rcases ht with rfl | rfl <;> cases this
  · rintro rfl
    obtain ⟨c, hc⟩ := hN
    have := type_eq hb hc
    rcases ht with rfl | rfl <;> cases this
theorem RefAt.lt (h : RefAt w C b cap rows) : b < w.heap.size := by
  obtain ⟨cur, hc⟩ := h.head
  exact (Array.getElem?_eq_some_iff.1 hc).1
theorem RefAt.sl (h : RefAt w C b cap rows) {i : Nat} (hi : i < C.ls.length) : ∃ A c, rows i = .slice A (C.of i).length c ∧ (C.of i).length ≤ c := by
  obtain ⟨A, c, hv, hl, _⟩ := h.row i hi
  exact ⟨A, c, hv, hl⟩
end
/-- the box of what was handed in -/
theorem box2 {w w' : World} {x y : Value} {t : TypeId} (hg : (w.alloc (.cells #[x, y] t)).grownBy w' none) : w'.cell? ⟨w.heap.size, 0, none⟩ = some x ∧ w'.cell? ⟨w.heap.size, 1, none⟩ = some y ∧ w.heap.size < w'.heap.size := by
  have h0 : w'.heap[w.heap.size]? = some (.cells #[x, y] t (0, 0)) := (hg.block _ (by simp) (by simp)).trans (heap_alloc_new w _)
  exact ⟨cell_of_head h0 0, cell_of_head h0 1, (Array.getElem?_eq_some_iff.1 h0).1⟩

theorem may_ref (n m : Int) (w : World) : Calls Try.prog 8 #[.int .i64 n, .int .i64 m] w fun e w' => e = .returned (.bool (decide (0 ≤ n ∧ n ≤ 65536 ∧ 1 ≤ m ∧ m ≤ 8))) ∧ w = w' := by
  by_cases h1 : 0 ≤ n
  · have hd1 : decide (0 ≤ n) = true := by simp; omega
    by_cases h2 : n ≤ 65536
    · have hd2 : decide (n ≤ 65536) = true := by simp; omega
      by_cases h3 : 1 ≤ m
      · have hd3 : decide (1 ≤ m) = true := by simp; omega
        have e : decide (0 ≤ n ∧ n ≤ 65536 ∧ 1 ≤ m ∧ m ≤ 8) = decide (m ≤ 8) := by simp [h1, h2, h3]
        rw [e]
        go_enter Try.func8, Try.ntmps8
        go_wp2
        go_ret
        exact ⟨rfl, rfl⟩
      · have hd3 : decide (1 ≤ m) = false := by simp; omega
        have e : decide (0 ≤ n ∧ n ≤ 65536 ∧ 1 ≤ m ∧ m ≤ 8) = false := by simp [h3]
        rw [e]
        go_enter Try.func8, Try.ntmps8
        go_wp2
        go_ret
        exact ⟨rfl, rfl⟩
    · have hd2 : decide (n ≤ 65536) = false := by simp; omega
      have e : decide (0 ≤ n ∧ n ≤ 65536 ∧ 1 ≤ m ∧ m ≤ 8) = false := by simp [h2]
      rw [e]
      go_enter Try.func8, Try.ntmps8
      go_wp2
      go_ret
      exact ⟨rfl, rfl⟩
  · have hd1 : decide (0 ≤ n) = false := by simp; omega
    have e : decide (0 ≤ n ∧ n ≤ 65536 ∧ 1 ≤ m ∧ m ≤ 8) = false := by simp [h1]
    rw [e]
    go_enter Try.func8, Try.ntmps8
    go_wp2
    go_ret
    exact ⟨rfl, rfl⟩
theorem node_at (C : Ch) (b cap : Nat) (n : Int) (w : World) (hn : i32in n) : Calls Try.prog 45 #[refV C b cap, .int .i32 n] w fun e w' => e = .returned (.bool (inN C.N n)) ∧ w.grownBy w' none := by
  have hw : IntKind.i64.wrap n = n := by unfold i32in at hn; rw [IntKind.wrap_i64]; omega
  unfold refV
  by_cases h1 : 0 ≤ n
  · have hd : decide (0 ≤ n) = true := by simp; omega
    have e : inN C.N n = decide (n < (C.N : Int)) := by unfold inN; simp [h1]
    rw [e]
    go_enter Try.func45, Try.ntmps45
    go_wp2
    go_ret
    exact ⟨rfl, World.grownBy_alloc _ _ none⟩
  · have hd : decide (0 ≤ n) = false := by simp; omega
    have e : inN C.N n = false := by unfold inN; simp [h1]
    rw [e]
    go_enter Try.func45, Try.ntmps45
    go_wp2
    go_ret
    exact ⟨rfl, World.grownBy_alloc _ _ none⟩
section
variable {w : World} {C : Ch} {b cap : Nat} {rows : Nat → Value}
set_option maxHeartbeats 400000 in
theorem of_at (h : RefAt w C b cap rows) (list : Int) : Calls Try.prog 35 #[refV C b cap, .int .i64 list] w fun e w' => ∃ A c, e = .returned (.slice A (C.ofI list).length c) ∧ NRow w' (.slice A (C.ofI list).length c) (C.ofI list) ∧ w.grownBy w' none := by
  unfold refV
  by_cases hin : inN C.ls.length list = true
  · have hx : 0 ≤ list ∧ list < (C.ls.length : Int) := by unfold inN at hin; simpa using hin
    obtain ⟨i, rfl⟩ := Int.eq_ofNat_of_zero_le hx.1
    have hi : i < C.ls.length := by omega
    rw [Ch.ofI_nat hi]
    obtain ⟨A, c, hr, _⟩ := h.sl hi
    have hc := (World.grownBy_alloc w (.cells #[.int .i64 (C.N : Int), .slice (some ⟨b, 0, none⟩) C.ls.length cap] 31) none).cell (h.cell i hi) (by simp)
    have hrow := (h.row i hi).kept (World.grownBy_alloc w (.cells #[.int .i64 (C.N : Int), .slice (some ⟨b, 0, none⟩) C.ls.length cap] 31) none)
    rw [hr] at hc hrow
    have HR := Lib.hid hrow
    have hd1 : decide ((i : Int) < 0) = false := by simp
    have hd2 : decide ((C.ls.length : Int) ≤ (i : Int)) = false := by simp; omega
    have hd3 : decide (C.ls.length ≤ i) = false := by simp; omega
    have hlt := h.lt
    clear hrow h hr
    generalize C.ls.length = M at *
    go_enter Try.func35, Try.ntmps35
    go_wp2
    go_ret
    exact ⟨A, c, rfl, HR.out, World.grownBy_alloc _ _ none⟩
  · have e : C.ofI list = [] := by unfold Ch.ofI; rw [if_neg hin]
    have hin : inN C.ls.length list = false := by simpa using hin
    rw [e]
    have hN : NRow (w.alloc (.cells #[.int .i64 (C.N : Int), .slice (some ⟨b, 0, none⟩) C.ls.length cap] 31)) (.slice none 0 0) [] := ⟨none, 0, rfl, Nat.le_refl _, by decide, fun _ => rfl, .inl rfl⟩
    have HN := Lib.hid hN
    clear hN
    unfold inN at hin
    simp only [decide_eq_false_iff_not] at hin
    by_cases h0 : list < 0
    · have hd1 : decide (list < 0) = true := by simp; omega
      go_enter Try.func35, Try.ntmps35
      go_wp2
      go_ret
      exact ⟨none, 0, rfl, HN.out, World.grownBy_alloc _ _ none⟩
    · have hd1 : decide (list < 0) = false := by simp; omega
      have hd2 : decide ((C.ls.length : Int) ≤ list) = true := by simp; omega
      go_enter Try.func35, Try.ntmps35
      go_wp2
      go_ret
      exact ⟨none, 0, rfl, HN.out, World.grownBy_alloc _ _ none⟩
/-- where a node stands -/
def PlPost (w : World) (C : Ch) (n : Int) (e : Ending) (w' : World) : Prop :=
  w.grownBy w' none ∧ ((e = .returned (.tuple #[.int .i64 (-1), .int .i64 (-1)]) ∧ C.has n = false) ∨ ∃ i k x : Nat, e = .returned (.tuple #[.int .i64 (i : Int), .int .i64 (k : Int)]) ∧ n = (x : Int) ∧ (C.of i)[k]? = some x)
theorem has_none {C : Ch} {n : Int} (h : ∀ j, j < C.ls.length → ∀ x ∈ C.of j, ¬ (x : Int) = n) : C.has n = false := by
  cases hh : C.has n with
  | false => rfl
  | true =>
    obtain ⟨h0, i, hi⟩ := Ch.has_iff.1 hh
    exact absurd (Int.toNat_of_nonneg h0) (h i (Ch.lt_of_mem hi) _ hi)
set_option maxHeartbeats 1000000 in
theorem place_at (h : RefAt w C b cap rows) (hM : C.ls.length ≤ 8) (hf : ∀ i, (C.of i).length ≤ 65536) (n : Int) : Calls Try.prog 34 #[refV C b cap, .int .i32 n] w (PlPost w C n) := by
  unfold refV
  have hg0 := World.grownBy_alloc w (.cells #[.int .i64 (C.N : Int), .slice (some ⟨b, 0, none⟩) C.ls.length cap] 31) none
  obtain ⟨hb0, hb1, hbl⟩ := box2 (World.grownBy.refl (w.alloc (.cells #[.int .i64 (C.N : Int), .slice (some ⟨b, 0, none⟩) C.ls.length cap] 31)) none)
  have HRF := Lib.hid (h.kept hg0)
  have HF := Lib.hid hf
  have HG := Lib.hid hg0
  obtain ⟨M, HM⟩ : ∃ M, Hid (C.ls.length = M) := ⟨_, Lib.hid rfl⟩
  rw [HM.out] at hb1 hM ⊢
  clear h hf hg0
  go_enter Try.func34, Try.ntmps34
  go_wp2_with fail
  rw [HM.out] at HRF HG hb0
  generalize w.alloc (.cells #[.int .i64 (C.N : Int), .slice (some ⟨b, 0, none⟩) M cap] 31) = w0 at *
  go_loop [6] (fun i => ∃ i' : Nat, i' ≤ M ∧ i = .int .i64 (i' : Int) ∧ Hid (∀ j, j < i' → ∀ x ∈ C.of j, ¬ (x : Int) = n)) (fun i => M - (intOf i).toNat)
  case atStart => exact ⟨0, Nat.zero_le _, by go_num, Lib.hid fun j hj => by omega⟩
  case round =>
    obtain ⟨i, hi, rfl, HN⟩ := hrel
    by_cases hlt : i < M
    · have hiC : i < C.ls.length := by rw [HM.out]; exact hlt
      have hcell := HRF.out.cell i hiC
      obtain ⟨A, c, hv, hlc, hcm, hz, hr⟩ := HRF.out.row i hiC
      rw [hv] at hcell
      have HR := Lib.hid hr
      obtain ⟨L, HL⟩ : ∃ L, Hid ((C.of i).length = L) := ⟨_, Lib.hid rfl⟩
      have hL6 : L ≤ 65536 := by rw [← HL.out]; exact HF.out i
      rw [HL.out] at hcell
      have hiI : (i : Int) < (M : Int) := by omega
      clear hr hv hlc hcm hz
      go_wp2_with fail
      go_loop [7] (fun k => ∃ k' : Nat, k' ≤ L ∧ k = .int .i64 (k' : Int) ∧ Hid (∀ x ∈ (C.of i).take k', ¬ (x : Int) = n)) (fun k => L - (intOf k).toNat)
      case atStart => exact ⟨0, Nat.zero_le _, by go_num, Lib.hid fun x hx => by simp at hx⟩
      case round =>
        obtain ⟨k, hk, rfl, HK⟩ := hrel
        by_cases hlt2 : k < L
        · have hx0 : ¬ C.of i = [] := by intro e; have := HL.out; rw [e] at this; simp at this; omega
          obtain ⟨b1, o1, rfl, _, hc1⟩ := HR.out.resolve_left hx0
          obtain ⟨x, Hx⟩ : ∃ x, Hid ((C.of i)[k]? = some x) := ⟨_, Lib.hid (List.getElem?_eq_getElem (by rw [HL.out]; exact hlt2))⟩
          have hcx := hc1 k x Hx.out
          have hkI : (k : Int) < (L : Int) := by omega
          clear hc1 hx0
          by_cases hxn : (x : Int) = n
          · have hbq : ((x : Int) == n) = true := by simp [hxn]
            go_wp2
            go_ret2
            exact ⟨HG.out, .inr ⟨i, k, x, rfl, hxn.symm, Hx.out⟩⟩
          · have hbq : ((x : Int) == n) = false := by simp [hxn]
            have HK2 : Hid (∀ y ∈ (C.of i).take (k + 1), ¬ (y : Int) = n) := Lib.hid fun y hy => by
              rw [take_snoc Hx.out] at hy
              rcases List.mem_append.1 hy with hy | hy
              · exact HK.out y hy
              · simp at hy; subst hy; exact hxn
            go_wp2
            go_round
            case rel => exact ⟨k + 1, by omega, by go_num, HK2⟩
            case measure => simp [intOf]; omega
        · obtain rfl : k = L := by omega
          have HN2 : Hid (∀ j, j < i + 1 → ∀ x ∈ C.of j, ¬ (x : Int) = n) := Lib.hid fun j hj x hx => by
            by_cases hji : j = i
            · subst hji
              have := HK.out x
              rw [List.take_of_length_le (by rw [HL.out]; exact Nat.le_refl _)] at this
              exact this hx
            · exact HN.out j (by omega) x hx
          go_wp2
          go_round
          case rel => exact ⟨i + 1, by omega, by go_num, HN2⟩
          case measure => simp [intOf]; omega
    · obtain rfl : i = M := by omega
      have HE : Hid (C.has n = false) := Lib.hid (has_none fun j hj => HN.out j (by rw [← HM.out]; exact hj))
      go_wp2
      go_ret2
      exact ⟨HG.out, .inl ⟨rfl, HE.out⟩⟩
end
end Go.Proofs.Ytmjccpgkgkindaa
