/-
  The walk of the law that a queue is the same for things of any type.
-/
import Derived.Test.YtcphbendmnmpiaaTxt
import Derived.Test.YtcphbendmnmpiaaAlive
import Derived.Deep.Strs
import Derived.Below
import Derived.OpenShut
namespace Go.Proofs.Ytcphbendmnmpiaa.Txt
open Go.ChangeShapes Go.WideShapes Go.ChangeAt Go.RowKit
set_option linter.unusedVariables false
set_option maxRecDepth 100000

def StrsAt (w : World) (A : Option Addr) (l : List ByteArray) : Prop :=
  l = [] ∨ ∃ b off, A = some ⟨b, off, none⟩ ∧ b < w.heap.size ∧ ∀ i x, l[i]? = some x → w.cell? ⟨b, off + i, none⟩ = some (.string x)
theorem StrsAt.kept {w w' : World} {A : Option Addr} {l : List ByteArray} (h : StrsAt w A l) (hg : w.grownBy w' none) : StrsAt w' A l := by
  rcases h with h | ⟨b, off, rfl, hlt, hc⟩
  · exact .inl h
  · exact .inr ⟨b, off, rfl, Nat.lt_of_lt_of_le hlt hg.size, fun i a hi => hg.cell (hc i a hi) (by simp)⟩
theorem StrsAt.some {w : World} {A : Option Addr} {l : List ByteArray} (h : StrsAt w A l) {i : Nat} {x : ByteArray} (hi : l[i]? = some x) :
    ∃ b off, A = some ⟨b, off, none⟩ ∧ b < w.heap.size ∧ w.cell? ⟨b, off + i, none⟩ = some (.string x) := by
  rcases h with rfl | ⟨b, off, rfl, hlt, hc⟩
  · simp at hi
  · exact ⟨b, off, rfl, hlt, hc i x hi⟩
theorem bl_eq (a : ByteArray) : (a.toList == a.toList) = true := by simp
def svals (xs : List ByteArray) : List Value := xs.map Value.string
theorem svals_length (xs : List ByteArray) : (svals xs).length = xs.length := by simp [svals]
/-- what is there behind k texts -/
def last (m : Nat) (l : List ByteArray) (k : Nat) : List ByteArray := (l.take k).drop (k - m)
theorem last_length {m : Nat} {l : List ByteArray} {k : Nat} (hk : k ≤ l.length) : (last m l k).length = min k m := by
  unfold last; rw [List.length_drop, List.length_take]; omega
theorem last_push {m : Nat} {l : List ByteArray} {k : Nat} {a : ByteArray} (hm : 1 ≤ m) (ha : l[k]? = some a) :
    (∀ x, m ≤ k → l[k - m]? = some x → pushed z0 m (svals (last m l k)) (.string a) = (.string x, true, svals (last m l (k + 1)))) ∧
    (k < m → pushed z0 m (svals (last m l k)) (.string a) = (z0, false, svals (last m l (k + 1)))) := by
  have hkl := (List.getElem?_eq_some_iff.1 ha).1
  have hl := last_length (m := m) (Nat.le_of_lt hkl)
  have hsn : l.take (k + 1) = l.take k ++ [a] := by rw [List.take_add_one, ha]; rfl
  refine ⟨fun x hmk hx => ?_, fun hkm => ?_⟩
  · unfold pushed
    rw [svals_length, hl, if_pos (by omega)]
    have e1 : last m l k = x :: (l.take k).drop (k + 1 - m) := by
      unfold last
      have h1 : (l.take k)[k - m]? = some x := by rw [List.getElem?_take, if_pos (by omega)]; exact hx
      obtain ⟨h2, h3⟩ := List.getElem?_eq_some_iff.1 h1
      rw [List.drop_eq_getElem_cons h2, h3, show k - m + 1 = k + 1 - m by omega]
    have e2 : last m l (k + 1) = (l.take k).drop (k + 1 - m) ++ [a] := by
      unfold last
      rw [hsn, List.drop_append_of_le_length (by rw [List.length_take]; omega)]
    rw [e1, e2]
    simp [svals]
  · unfold pushed
    rw [svals_length, hl, if_neg (by omega)]
    have e : last m l (k + 1) = last m l k ++ [a] := by
      unfold last
      rw [hsn, show k + 1 - m = 0 by omega, show k - m = 0 by omega, List.drop_zero, List.drop_zero]
    rw [e]
    simp [svals]
structure TxI (w wr : World) (og : Option Nat) (m k : Nat) (l : List ByteArray) : Prop where
  q : IsQ wr w.heap.size w.heap.size og (svals (last m l k)) m k
  grown : w.grownBy wr none
theorem texts_long (A : Option Addr) (n cap mo : Nat) (w : World) (hlen : 50 < n) (hmo : mo < 256) :
    Calls Try.prog 6 #[.int .u8 (mo : Int), .slice A n cap] w fun e w' => e = .returned (.bool true) ∧ w.grownBy w' none := by
  have hwm : IntKind.i64.wrap (mo : Int) = (mo : Int) := by rw [IntKind.wrap_i64]; omega
  have c0 := new_at (1 + mo) (by omega) (by omega) w
  rw [show ((1 + mo : Nat) : Int) = 1 + (mo : Int) by omega] at c0
  have C0 := Lib.hid c0
  have hd : (50 : Int) < (n : Int) := by omega
  clear c0
  go_enter Try.func6, Try.ntmps6
  go_wp2_with fail
  refine C0.out.mono ?_
  rintro e w1 ⟨rfl, hg, h⟩
  have HG := Lib.hid hg
  clear hg h C0
  go_wp2_with fail
  refine (alive_any w1).mono ?_
  rintro e w2 ⟨rfl, hg⟩
  have HG2 := Lib.hid (grown_trans HG.out hg)
  clear hg
  go_wp2_with fail
  go_ret
  exact ⟨rfl, HG2.out⟩
set_option maxHeartbeats 1000000 in
theorem texts_walk (A : Option Addr) (cap mo : Nat) (l : List ByteArray) (w : World) (hl : StrsAt w A l) (hlen : l.length ≤ 50) (hmo : mo < 256) :
    Calls Try.prog 6 #[.int .u8 (mo : Int), .slice A l.length cap] w fun e w' => e = .returned (.bool true) ∧ w.grownBy w' none := by
  have hwm : IntKind.i64.wrap (mo : Int) = (mo : Int) := by rw [IntKind.wrap_i64]; omega
  have c0 := new_at (1 + mo) (by omega) (by omega) w
  rw [show ((1 + mo : Nat) : Int) = 1 + (mo : Int) by omega] at c0
  have C0 := Lib.hid c0
  have HL := Lib.hid hl
  obtain ⟨len, Hlen⟩ : ∃ len, Hid (l.length = len) := ⟨_, Lib.hid rfl⟩
  rw [Hlen.out] at hlen ⊢
  obtain ⟨m, Hm⟩ : ∃ m, Hid (1 + mo = m) := ⟨_, Lib.hid rfl⟩
  rw [Hm.out] at C0
  have hm1 : 1 ≤ m := by rw [← Hm.out]; omega
  clear c0 hl
  go_enter Try.func6, Try.ntmps6
  go_wp2_with fail
  refine C0.out.mono ?_
  rintro e w1 ⟨rfl, hg, h⟩
  have HI1 : Hid (TxI w w1 none m 0 l) := Lib.hid ⟨by unfold last; simpa [svals] using h, hg⟩
  clear hg h C0
  go_wp2_with fail
  go_loopw [34] (fun iv wr => ∃ (k : Nat) (og : Option Nat), k ≤ len ∧ iv = .int .i64 (k : Int) ∧ Hid (TxI w wr og m k l)) (fun iv _ => len - (intOf iv).toNat)
  case atStart => exact ⟨0, none, Nat.zero_le _, by go_num, HI1⟩
  case round =>
    obtain ⟨k, og, hk, rfl, HI⟩ := hrel
    clear HI1
    by_cases hlt : k < len
    · obtain ⟨s, Hs⟩ : ∃ s, Hid (l[k]? = some s) := ⟨_, Lib.hid (List.getElem?_eq_getElem (by rw [Hlen.out]; exact hlt))⟩
      obtain ⟨bl, ol, rfl, _, hcell⟩ := (HL.out.kept HI.out.grown).some Hs.out
      by_cases hx : 100 < s.size
      · have hd1 : (100 : Int) < (s.size : Int) := by omega
        go_wp2_with fail
        refine (alive_any wr).mono ?_
        rintro e w2 ⟨rfl, hg⟩
        have HG2 := Lib.hid (grown_trans HI.out.grown hg)
        clear hg
        go_wp2_with fail
        go_ret
        exact ⟨rfl, HG2.out⟩
      · have hd1 : ¬ (100 : Int) < (s.size : Int) := by omega
        have hp := push_is HI.out.q HI.out.grown.size s (by omega)
        have hlp := last_push (m := m) hm1 Hs.out
        by_cases hfull : m ≤ k
        · obtain ⟨x, Hx⟩ : ∃ x, Hid (l[k - m]? = some x) := ⟨_, Lib.hid (List.getElem?_eq_getElem (by rw [Hlen.out]; omega))⟩
          rw [hlp.1 x hfull Hx.out] at hp
          have HP := Lib.hid hp
          obtain ⟨j, Hj⟩ : ∃ j, Hid (k - m = j) := ⟨_, Lib.hid rfl⟩
          rw [Hj.out] at Hx
          have hkk : (k : Int) - 1 - (mo : Int) = (j : Int) := by rw [← Hj.out]; have := Hm.out; omega
          have hjl : j < len := by rw [← Hj.out]; omega
          have hbl := bl_eq x
          clear hp hlp hfull
          go_wp2_with fail
          refine HP.out.mono ?_
          unfold OpPost
          rintro e w2 ⟨rfl, og2, h2, s2⟩
          have HI3 : Hid (TxI w w2 og2 m (k + 1) l) := Lib.hid ⟨h2, s2.grown HI.out.grown fun k hk => (HI.out.q.own_lo hk).1⟩
          obtain ⟨b2, o2, e2, _, hcell2⟩ := (HL.out.kept HI3.out.grown).some Hx.out
          obtain ⟨rfl, rfl⟩ : b2 = bl ∧ o2 = ol := by injection e2 with e2; injection e2 with e3 e4; exact ⟨e3.symm, e4.symm⟩
          clear h2 s2 hcell HP e2
          go_wp2
          first
            | (go_roundw
               case rel => exact ⟨k + 1, og2, by omega, by go_num, HI3⟩
               case measure => simp [intOf]; omega)
            | exact ⟨⟨k + 1, og2, by omega, by go_num, HI3⟩, by simp [intOf]; omega⟩
        · rw [hlp.2 (by omega)] at hp
          have HP := Lib.hid hp
          have hneg : ¬ (0 : Int) ≤ (k : Int) - 1 - (mo : Int) := by have := Hm.out; omega
          have hneg2 : (k : Int) - 1 - (mo : Int) < 0 := by omega
          have hbl := bl_eq ⟨#[]⟩
          clear hp hlp hfull
          go_wp2_with fail
          refine HP.out.mono ?_
          unfold OpPost
          rintro e w2 ⟨rfl, og2, h2, s2⟩
          have HI3 : Hid (TxI w w2 og2 m (k + 1) l) := Lib.hid ⟨h2, s2.grown HI.out.grown fun k hk => (HI.out.q.own_lo hk).1⟩
          clear h2 s2 hcell HP
          unfold z0
          dsimp only
          go_wp2
          first
            | (go_roundw
               case rel => exact ⟨k + 1, og2, by omega, by go_num, HI3⟩
               case measure => simp [intOf]; omega)
            | exact ⟨⟨k + 1, og2, by omega, by go_num, HI3⟩, by simp [intOf]; omega⟩
    · obtain rfl : k = len := by omega
      have ha := at_is HI.out.q 0
      obtain ⟨j, Hj⟩ : ∃ j, Hid (k - m = j) := ⟨_, Lib.hid rfl⟩
      by_cases h0 : k = 0
      · have e0 : svals (last m l k) = [] := List.eq_nil_of_length_eq_zero (by rw [svals_length, last_length (by rw [Hlen.out]; exact Nat.le_refl _)]; omega)
        rw [e0] at ha
        unfold atOf z0 at ha
        dsimp only [List.length_nil] at ha
        rw [if_neg (by simp)] at ha
        have HA := Lib.hid ha
        have HGr := Lib.hid HI.out.grown
        clear ha e0 HI
        obtain rfl : k = 0 := h0
        go_wp2_with fail
        refine HA.out.mono ?_
        rintro e w2 ⟨rfl, hg⟩
        have HG2 := Lib.hid (grown_trans HGr.out hg)
        clear hg HA
        go_wp2_with fail
        refine (alive_any w2).mono ?_
        rintro e w3 ⟨rfl, hg⟩
        have HG3 := Lib.hid (grown_trans HG2.out hg)
        clear hg
        go_wp2_with fail
        go_ret
        exact ⟨rfl, HG3.out⟩
      · have hjk : j < k := by rw [← Hj.out]; omega
        obtain ⟨x, Hx⟩ : ∃ x, Hid (l[j]? = some x) := ⟨_, Lib.hid (List.getElem?_eq_getElem (by rw [Hlen.out]; omega))⟩
        have ex : (svals (last m l k))[0]? = some (.string x) := by
          unfold svals last
          rw [List.getElem?_map, List.getElem?_drop, List.getElem?_take, if_pos (by omega), Hj.out, Nat.add_zero, Hx.out]; rfl
        have el : (0 : Int) < ((svals (last m l k)).length : Int) := by rw [svals_length, last_length (by rw [Hlen.out]; exact Nat.le_refl _)]; omega
        unfold atOf at ha
        rw [if_pos ⟨Int.le_refl _, el⟩, show (0 : Int).toNat = 0 from rfl, ex] at ha
        dsimp only [Option.getD_some] at ha
        have HA := Lib.hid ha
        have hk0 : (0 : Int) < (k : Int) := by omega
        have hbl := bl_eq x
        clear ha ex el h0
        by_cases hpos : (0 : Int) < (k : Int) - 1 - (mo : Int)
        · have hjj : (k : Int) - 1 - (mo : Int) = (j : Int) := by rw [← Hj.out]; have := Hm.out; omega
          have hj0 : (0 : Int) < (j : Int) := by omega
          have hjk2 : (j : Int) < (k : Int) := by omega
          go_wp2_with fail
          refine HA.out.mono ?_
          rintro e w2 ⟨rfl, hg⟩
          have HG2 := Lib.hid (grown_trans HI.out.grown hg)
          obtain ⟨b2, o2, rfl, _, hcell2⟩ := (HL.out.kept HG2.out).some Hx.out
          clear hg HA
          go_wp2_with fail
          refine (alive_any w2).mono ?_
          rintro e w3 ⟨rfl, hg⟩
          have HG3 := Lib.hid (grown_trans HG2.out hg)
          clear hg
          go_wp2_with fail
          go_ret
          exact ⟨rfl, HG3.out⟩
        · obtain rfl : j = 0 := by rw [← Hj.out]; have := Hm.out; omega
          have hneg : (k : Int) - 1 - (mo : Int) ≤ 0 := by omega
          go_wp2_with fail
          refine HA.out.mono ?_
          rintro e w2 ⟨rfl, hg⟩
          have HG2 := Lib.hid (grown_trans HI.out.grown hg)
          obtain ⟨b2, o2, rfl, _, hcell2⟩ := (HL.out.kept HG2.out).some Hx.out
          rw [Nat.add_zero] at hcell2
          clear hg HA
          go_wp2_with fail
          refine (alive_any w2).mono ?_
          rintro e w3 ⟨rfl, hg⟩
          have HG3 := Lib.hid (grown_trans HG2.out hg)
          clear hg
          go_wp2_with fail
          go_ret
          exact ⟨rfl, HG3.out⟩
theorem texts_law (a0 : Int) (A : Option Addr) (len cap : Nat) (l : List ByteArray) (w : World) (w0 : (Lit.int .u8 a0).wf = true) (hl : l.length = len) (hr : StrsAt w A l) :
    Calls Try.prog 6 #[.int .u8 a0, .slice A len cap] w fun e w' => e = .returned (.bool true) ∧ Below w.heap.size w w' := by
  have hb := bounds_u8 w0
  obtain ⟨mo, rfl⟩ := Int.eq_ofNat_of_zero_le hb.1
  have h : Calls Try.prog 6 #[.int .u8 (mo : Int), .slice A len cap] w fun e w' => e = .returned (.bool true) ∧ w.grownBy w' none := by
    by_cases hlt : 50 < len
    · exact texts_long A len cap mo w hlt (by omega)
    · subst hl
      exact texts_walk A cap mo l w hr (by omega) (by omega)
  refine h.mono ?_
  rintro e w' ⟨he, hg⟩
  exact ⟨he, (Below.refl _ w).grown hg (Nat.le_refl _) (by simp)⟩
theorem addr_plain {w : World} {x : Addr} {v : Value} (h : w.cell? (x.add 0) = some v) : ∃ b off, x = ⟨b, off, none⟩ := by
  obtain ⟨b, off, spot⟩ := x
  have hspot : spot = none := by simpa [Addr.add] using World.cell?_spot h
  subst hspot
  exact ⟨b, off, rfl⟩
section
variable {H : Type} {enc : TypeId × Value → H} {w : World} {base : Nat} {spare : Nat → Bool} {held : Bool}
theorem open_texts {fuel : Nat} {A : Option Addr} {len cap : Nat} {x : DataW H × List MemPlace} (h : DataW.trod enc Try.prog w base spare held fuel 44 (Value.slice A len cap).cells.toList = some x) :
    ∃ l : List ByteArray, l.length = len ∧ StrsAt w A l := by
  rcases Go.Deep.open_strs Try.underlying44 Try.underlying9 (by kernel_rfl) h with ⟨hcs, _⟩ | ⟨a, l, c, m, Sx, hcs, _, hl, hm, hmm, _, hel⟩
  · simp [Value.cells] at hcs
    obtain ⟨rfl, rfl, rfl⟩ := hcs
    exact ⟨[], rfl, .inl rfl⟩
  · simp [Value.cells] at hcs
    obtain ⟨rfl, rfl, rfl⟩ := hcs
    have hml : len ≤ m := by rw [hmm]; split <;> omega
    by_cases h0 : len = 0
    · subst h0; exact ⟨[], rfl, .inl rfl⟩
    · obtain ⟨b, off, rfl⟩ := addr_plain (x := a) (hel 0 (by omega)).1
      have hb := World.block_lt_of_cell? w _ (hel 0 (by omega)).1
      rw [Go.WideShapes.add_plain] at hb
      refine ⟨(List.range len).map Sx, by simp, .inr ⟨b, off, rfl, hb, fun i x hi => ?_⟩⟩
      have hil : i < len := by have := (List.getElem?_eq_some_iff.1 hi).1; simpa using this
      rw [List.getElem?_map, List.getElem?_range hil] at hi
      injection hi with hi
      subst hi
      have h := (hel i (by omega)).1
      rw [Go.WideShapes.add_plain] at h
      exact h
end
end Go.Proofs.Ytcphbendmnmpiaa.Txt
