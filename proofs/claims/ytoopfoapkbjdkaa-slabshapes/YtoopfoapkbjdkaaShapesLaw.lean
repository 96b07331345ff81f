/-
  The walk of the law that a slab is the same for nodes of any shape.
-/
import Derived.Test.YtoopfoapkbjdkaaShape
import Derived.Test.YtoopfoapkbjdkaaActs
import Derived.LoopTactic
namespace Go.Proofs.Ytoopfoapkbjdkaa
open Go.ChangeShapes Go.WideShapes Go.ChangeAt Go.RowKit
set_option linter.unusedVariables false
set_option maxRecDepth 100000

def evens (n : Int) (k : Nat) : List (Int × Bool) := (List.range k).map fun i : Nat => (n, ((i : Int) % 2 == 0))
theorem evens_succ (n : Int) (k : Nat) : evens n (k + 1) = evens n k ++ [(n, ((k : Int) % 2 == 0))] := by simp [evens, List.range_succ]
theorem evens_len (n : Int) (k : Nat) : (evens n k).length = k := by simp [evens]
theorem evens_get (n : Int) {k i : Nat} (h : i < k) : (evens n k)[i]? = some (n, ((i : Int) % 2 == 0)) := by
  unfold evens; rw [List.getElem?_map, List.getElem?_range h]; rfl
theorem take_snoc {α : Type} {l : List α} {k : Nat} {x : α} (h : l[k]? = some x) : l.take (k + 1) = l.take k ++ [x] := by
  obtain ⟨hl, he⟩ := List.getElem?_eq_some_iff.1 h
  rw [List.take_succ_eq_append_getElem hl, he]
structure ShInv (w wr : World) (bT : Nat) (l : List ByteArray) (n : Int) (k : Nat) : Prop where
  texts : ShS wr w.heap.size w.heap.size (l.take k)
  structs : ShT wr w.heap.size bT (evens n k)
  grown : w.grownBy wr none
theorem ShInv.kept {w wr w' : World} {bT : Nat} {l : List ByteArray} {n : Int} {k : Nat} (h : ShInv w wr bT l n k) (hg : wr.grownBy w' none) : ShInv w w' bT l n k :=
  ⟨h.texts.kept hg, h.structs.kept hg, grown_trans h.grown hg⟩
theorem shapes_long (A : Option Addr) (len cap : Nat) (n : Int) (w : World) (hlen : 40 < len) :
    Calls Try.prog 5 #[.slice A len cap, .int .i32 n] w fun e w' => e = .returned (.bool true) ∧ w.grownBy w' none := by
  have hd : decide (40 < (len : Int)) = true := by simp; omega
  have hd' : decide (40 < len) = true := by simp; omega
  go_enter Try.func5, Try.ntmps5
  go_wp2_with fail
  refine (alive_any w).mono ?_
  rintro e w6 ⟨rfl, hg6⟩
  have HG6 := Lib.hid hg6
  clear hg6
  go_wp2
  go_ret
  exact ⟨rfl, HG6.out⟩
set_option maxHeartbeats 4000000 in
theorem shapes_walk (A : Option Addr) (len cap : Nat) (l : List ByteArray) (n : Int) (w : World) (hl : l.length = len) (hr : StrsAt w A l) (hlen : len ≤ 40) :
    Calls Try.prog 5 #[.slice A len cap, .int .i32 n] w fun e w' => e = .returned (.bool true) ∧ w.grownBy w' none := by
  have Hl := Lib.hid hl
  have Hr := Lib.hid hr
  clear hl hr
  have hd : decide (40 < (len : Int)) = false := by simp; omega
  have hd' : decide (40 < len) = false := by simp; omega
  have c0 := newS_is (w := w) (Nat.le_refl w.heap.size)
  go_enter Try.func5, Try.ntmps5
  go_wp2_with fail
  refine c0.mono ?_
  rintro e w1 ⟨rfl, hs, hg⟩
  have HG1 := Lib.hid hg
  have HS1 := Lib.hid hs
  have c1 := newT_is (w := w1) hg.size
  clear hs hg c0
  go_wp2_with fail
  refine c1.mono ?_
  rintro e w2 ⟨rfl, ht, hg⟩
  have HI2 : Hid (ShInv w w2 w1.heap.size l n 0) := Lib.hid ⟨by rw [List.take_zero]; exact HS1.out.kept hg, ht, grown_trans HG1.out hg⟩
  clear ht hg c1 HG1 HS1
  go_wp2
  go_loopw [49] (fun i wr => ∃ k : Nat, k ≤ len ∧ i = .int .i64 (k : Int) ∧ Hid (ShInv w wr w1.heap.size l n k)) (fun i _ => len - (intOf i).toNat)
  case atStart => exact ⟨0, by omega, by go_num, HI2⟩
  case round =>
    obtain ⟨k, hk, rfl, HI⟩ := hrel
    clear HI2
    by_cases hlt : k < len
    · obtain ⟨x, hget⟩ : ∃ x, l[k]? = some x := ⟨_, List.getElem?_eq_getElem (by rw [Hl.out]; exact hlt)⟩
      obtain ⟨ba, off, rfl, hba, h0⟩ := (Hr.out.kept HI.out.grown).some hget
      have Hget := Lib.hid hget
      clear hget
      by_cases hx : 100 < x.size
      · have hd1 : decide (100 < (x.size : Int)) = true := by simp; omega
        go_wp2_with fail
        refine (alive_any wr).mono ?_
        rintro e w6 ⟨rfl, hg6⟩
        have HG6 := Lib.hid (grown_trans HI.out.grown hg6)
        clear hg6
        go_wp2
        go_ret
        exact ⟨rfl, HG6.out⟩
      · have hd1 : decide (100 < (x.size : Int)) = false := by simp; omega
        have hkl : (l.take k).length = k := by rw [List.length_take, Hl.out]; omega
        have cA := allocS_is HI.out.texts x (by omega)
        rw [hkl] at cA
        go_wp2_with fail
        refine cA.mono ?_
        rintro e wa ⟨rfl, hs, hK⟩
        have HSa := Lib.hid (hs.kept (World.grownBy_alloc wa (.cells #[.int .i32 (k : Int), .int .u32 1] 35) none))
        have HTa := Lib.hid ((HI.out.structs.apart hK).kept (World.grownBy_alloc wa (.cells #[.int .i32 (k : Int), .int .u32 1] 35) none))
        have HGa := Lib.hid (grown_trans (Keep.grown HI.out.grown hK (Nat.le_refl _)) (World.grownBy_alloc wa (.cells #[.int .i32 (k : Int), .int .u32 1] 35) none))
        have Hbx := Lib.hid (heap_alloc_new wa (.cells #[.int .i32 (k : Int), .int .u32 1] 35))
        have hm2 : ((2 : Int) == 0) = false := rfl
        have cB := allocT_is HTa.out n ((k : Int) % 2 == 0) (by rw [evens_len]; omega)
        rw [evens_len] at cB
        clear hs hK cA
        go_wp2_with fail
        refine cB.mono ?_
        rintro e wb ⟨rfl, ht, hK⟩
        have hb1 := hK.other Hbx.out (by decide)
        have hz1 : wa.heap.size < wb.heap.size := (Array.getElem?_eq_some_iff.1 hb1).1
        have e0 := cell_of_head hb1 0
        have e1 := cell_of_head hb1 1
        simp only [List.getElem?_toArray, List.getElem?_cons_zero, List.getElem?_cons_succ] at e0 e1
        have HI3 : Hid (ShInv w (wb.alloc (.cells #[.int .i32 (k : Int), .int .u32 1] 35)) w1.heap.size l n (k + 1)) := Lib.hid (by
          refine ShInv.kept (wr := wb) ⟨?_, ?_, Keep.grown HGa.out hK (Nat.le_refl _)⟩ (World.grownBy_alloc _ _ none)
          · rw [take_snoc Hget.out]; exact HSa.out.apart hK
          · rw [evens_succ]; exact ht)
        clear ht hK cB hb1 HSa HTa HGa Hbx
        go_wp2
        go_roundw
        case rel => exact ⟨k + 1, by omega, by go_num, HI3⟩
        case measure => simp [intOf]; omega
    · obtain rfl : k = len := by omega
      have HI3 : Hid (ShInv w wr w1.heap.size l n k) := HI
      clear HI
      go_wp2
      go_loopw [95] (fun i wq => ∃ j : Nat, j ≤ k ∧ i = .int .i64 (j : Int) ∧ Hid (ShInv w wq w1.heap.size l n k)) (fun i _ => k - (intOf i).toNat)
      case atStart => exact ⟨0, by omega, by go_num, HI3⟩
      case round =>
        obtain ⟨j, hj, rfl, HJ⟩ := hrel
        clear HI3
        have htk : l.take k = l := List.take_of_length_le (by rw [Hl.out]; exact Nat.le_refl _)
        by_cases hlt2 : j < k
        · obtain ⟨x, hget⟩ : ∃ x, l[j]? = some x := ⟨_, List.getElem?_eq_getElem (by rw [Hl.out]; exact hlt2)⟩
          obtain ⟨ba, off, rfl, hba, h0⟩ := (Hr.out.kept HJ.out.grown).some hget
          have hwj : IntKind.i32.wrap (j : Int) = (j : Int) := by rw [IntKind.wrap_i32]; omega
          have cA := getS_is HJ.out.texts (i := j) (x := x) (by rw [htk]; exact hget)
          clear hget htk
          go_wp2_with fail
          refine cA.mono ?_
          rintro e wa ⟨rfl, hg⟩
          have HJa := Lib.hid (HJ.out.kept hg)
          have cB := getT_is HJa.out.structs (i := j) (evens_get n hlt2)
          clear hg cA
          go_wp2_with fail
          refine cB.mono ?_
          rintro e wb ⟨rfl, hg⟩
          have HJb := Lib.hid ((HJa.out.kept hg).kept (World.grownBy_alloc wb (.cells #[.int .i32 n, .bool ((j : Int) % 2 == 0)] 60) none))
          clear hg cB
          go_wp2
          go_roundw
          case rel => exact ⟨j + 1, by omega, by go_num, HJb⟩
          case measure => simp [intOf]; omega
        · obtain rfl : j = k := by omega
          have cA := lenS_is HJ.out.texts
          rw [htk, Hl.out] at cA
          clear htk
          go_wp2_with fail
          refine cA.mono ?_
          rintro e wa ⟨rfl, q, rfl⟩
          have cB := lenT_is (HJ.out.kept (grown_drewN _ q none)).structs
          rw [evens_len] at cB
          clear cA
          go_wp2_with fail
          refine cB.mono ?_
          rintro e wa ⟨rfl, q2, rfl⟩
          clear cB
          go_wp2_with fail
          refine (alive_any _).mono ?_
          rintro e w6 ⟨rfl, hg6⟩
          have HG6 := Lib.hid (grown_trans (grown_trans HJ.out.grown (grown_drewN _ (q + q2) none)) hg6)
          clear hg6
          go_wp2
          go_ret
          exact ⟨rfl, HG6.out⟩
theorem grown_belowS {a b : World} {N : Nat} {row : Option Nat} (h : a.grownBy b row) (hN : N ≤ a.heap.size) (hr : ∀ r, row = some r → N ≤ r) : Below N a b :=
  (Below.refl N a).grown h hN hr
theorem slabShapes_law (A : Option Addr) (len cap : Nat) (l : List ByteArray) (n : Int) (w : World) (hl : l.length = len) (hr : StrsAt w A l) :
    Calls Try.prog 5 #[.slice A len cap, .int .i32 n] w fun e w' => e = .returned (.bool true) ∧ Below w.heap.size w w' := by
  by_cases hlen : len ≤ 40
  · refine (shapes_walk A len cap l n w hl hr hlen).mono ?_
    rintro e w' ⟨he, hg⟩
    exact ⟨he, grown_belowS hg (Nat.le_refl _) (by simp)⟩
  · refine (shapes_long A len cap n w (by omega)).mono ?_
    rintro e w' ⟨he, hg⟩
    exact ⟨he, grown_belowS hg (Nat.le_refl _) (by simp)⟩
section
variable {H : Type} {enc : TypeId × Value → H} {w : World} {base : Nat} {spare : Nat → Bool} {held : Bool}
theorem open_texts {fuel : Nat} {A : Option Addr} {len cap : Nat} {x : DataW H × List MemPlace} (h : DataW.trod enc Try.prog w base spare held fuel 52 (Value.slice A len cap).cells.toList = some x) :
    ∃ l : List ByteArray, l.length = len ∧ StrsAt w A l := by
  rcases Go.Deep.open_strs Try.underlying52 Try.underlying9 (by kernel_rfl) h with ⟨hcs, _⟩ | ⟨a, l, c, m, Sx, hcs, _, hl, hm, hmm, _, hel⟩
  · simp [Value.cells] at hcs
    obtain ⟨rfl, rfl, rfl⟩ := hcs
    exact ⟨[], rfl, .inl rfl⟩
  · simp [Value.cells] at hcs
    obtain ⟨rfl, rfl, rfl⟩ := hcs
    have hml : len ≤ m := by rw [hmm]; split <;> omega
    by_cases h0 : len = 0
    · subst h0; exact ⟨[], rfl, .inl rfl⟩
    · obtain ⟨b, off, rfl⟩ := addr_plain (x := a) (hel 0 (by omega)).1
      have hb := block_lt_of_cell (hel 0 (by omega)).1
      rw [Go.WideShapes.add_plain] at hb
      refine ⟨(List.range len).map Sx, by simp, .inr ⟨b, off, rfl, hb, fun i x hi => ?_⟩⟩
      have hil : i < len := by have := (List.getElem?_eq_some_iff.1 hi).1; simpa using this
      rw [List.getElem?_map, List.getElem?_range hil] at hi
      injection hi with hi
      subst hi
      have h := (hel i (by omega)).1
      rw [Go.WideShapes.add_plain] at h
      exact h
end
end Go.Proofs.Ytoopfoapkbjdkaa
