/-
  Counts as ten cells; the row of pointers to them; the rows of names.
-/
import Derived.Test.YthgecgehelnadaaDoorDRow
import Derived.Laws.StructEq
import Derived.Laws.ResultCell
import Derived.Lib.SliceRun
import Derived.WalkKit
import Derived.BigCall
import Derived.BigGuard
import Derived.BigRegion
import Derived.Lib.Hide
import Derived.Deep.Strs
namespace Go.Proofs.YthgecgehelnadaaDoor
open Go.Shelf Go.RowKit Go.Sort
open Go.Lib hiding intOf
set_option linter.unusedVariables false
/-- ten numbers as a struct -/
def ca (c : List Int) : Array Value := (c.map (Value.int .u64)).toArray
abbrev cv (c : List Int) : Value := .agg (ca c)
/-- ten cells, each a number -/
def Ten (w : World) (b off : Nat) (c : List Int) : Prop := ∀ j (h : j < c.length), w.cell? ⟨b, off + j, none⟩ = some (.int .u64 c[j])
def pa (b : Nat) : Array Value := #[.pointer (some ⟨b, 0, none⟩), .pointer (some ⟨b, 1, none⟩), .pointer (some ⟨b, 2, none⟩), .pointer (some ⟨b, 3, none⟩), .pointer (some ⟨b, 4, none⟩), .pointer (some ⟨b, 5, none⟩), .pointer (some ⟨b, 6, none⟩), .pointer (some ⟨b, 7, none⟩), .pointer (some ⟨b, 8, none⟩), .pointer (some ⟨b, 9, none⟩)]
abbrev ptrs (b : Nat) : Value := .agg (pa b)
theorem ten_list (c : List Int) (h : c.length = 10) : ∃ a0 a1 a2 a3 a4 a5 a6 a7 a8 a9, c = [a0, a1, a2, a3, a4, a5, a6, a7, a8, a9] := by
  rcases c with _ | ⟨a0, _ | ⟨a1, _ | ⟨a2, _ | ⟨a3, _ | ⟨a4, _ | ⟨a5, _ | ⟨a6, _ | ⟨a7, _ | ⟨a8, _ | ⟨a9, _ | ⟨x, r⟩⟩⟩⟩⟩⟩⟩⟩⟩⟩⟩ <;> simp at h ⊢
theorem results_ptrs {fn : Func} {p : Tmp} (h : fn.results = #[.cell p 48]) (tmps : Array Value) (w : World) (g : Nat) (t : TypeId) (fr : Nat × Nat) (cs : Array Value) (hn : cs.size = 10)
    (hp : tmps.getD p undef = .pointer (some ⟨g, 0, none⟩)) (hg : w.heap[g]? = some (.cells cs t fr)) : (results fn tmps).run Tryd.prog w = .ok (.agg cs) w := by
  have hp' : tmps[p]?.getD undef = .pointer (some ⟨g, 0, none⟩) := by simpa using hp
  simp only [results, h]
  simp [hp', asAddr, run_loadVar_row w g t 48 cs fr _ hg Tryd.underlying48 rfl (by rw [hn]; kernel_rfl)]
set_option maxHeartbeats 1000000 in
set_option maxRecDepth 100000 in
theorem fields_at (b : Nat) (w : World) : Calls Tryd.prog 23 #[.pointer (some ⟨b, 0, none⟩)] w fun e w' => e = .returned (ptrs b) ∧ Below w.heap.size w w' := by
  go_enter Tryd.func23, Tryd.ntmps23
  go_wp2
  go_region
  go_wp2
  refine bodyPost_ret (results_ptrs (p := 2) rfl _ _ w.heap.size 48 (0, 0) _ rfl rfl (by show (w.alloc _).heap[w.heap.size]? = _; exact Array.getElem?_push_size ..)) rfl ⟨rfl, ((Below.refl _ w).alloc (Nat.le_refl _) _).drew⟩
def nms : List (List UInt8) := [[104, 105, 116, 115], [109, 105, 115, 115, 101, 115], [114, 97, 105, 115, 101, 100], [108, 111, 119, 101, 114, 101, 100], [112, 114, 117, 110, 101, 100], [101, 118, 105, 99, 116, 101, 100], [102, 111, 114, 103, 111, 116, 116, 101, 110], [99, 108, 101, 97, 114, 101, 100], [101, 110, 100, 101, 100], [115, 116, 101, 112, 115]]
theorem names_at (w : World) : Calls Tryd.prog 11 #[] w fun e w' => e = .returned (.slice (some ⟨w.heap.size, 0, none⟩) 10 10) ∧ w' = w.alloc (.cells (svals nms).toArray 9) := by
  go_enter Tryd.func11, Tryd.ntmps11
  go_wp2
  go_ret
  exact ⟨rfl, rfl⟩
theorem rnames_at (w : World) : Calls Tryd.prog 12 #[] w fun e w' => e = .returned (.slice (some ⟨w.heap.size, 0, none⟩) 10 10) ∧ w' = w.alloc (.cells (svals nms).toArray 9) := by
  go_enter Tryd.func12, Tryd.ntmps12
  go_wp2
  go_ret
  exact ⟨rfl, rfl⟩
/-- which place a name has in a row -/
def Plc (l : List (List UInt8)) (x : ByteArray) (r : Int) : Prop := (r = -1 ∧ ∀ j (h : j < l.length), mkS l[j] ≠ x) ∨ ∃ k, ∃ h : k < l.length, r = (k : Int) ∧ mkS l[k] = x ∧ ∀ j (hj : j < k), mkS (l[j]'(by omega)) ≠ x
theorem Plc.uniq {l : List (List UInt8)} {x : ByteArray} {r s : Int} (h1 : Plc l x r) (h2 : Plc l x s) : r = s := by
  rcases h1 with ⟨rfl, h1⟩ | ⟨k, hk, rfl, hx, h1⟩ <;> rcases h2 with ⟨rfl, h2⟩ | ⟨m, hm, rfl, hy, h2⟩
  · rfl
  · exact absurd hy (h1 m hm)
  · exact absurd hx (h2 k hk)
  · rcases Nat.lt_trichotomy k m with h | h | h
    · exact absurd hx (h2 k h)
    · rw [h]
    · exact absurd hy (h1 m h)
set_option maxHeartbeats 1000000 in
set_option maxRecDepth 100000 in
theorem index_at (l : List (List UInt8)) (A : Option Addr) (n cap : Nat) (x : ByteArray) (hn : n = l.length) (h50 : n ≤ 1000000) (w : World) (hA : SRow w A l) :
    Calls Tryd.prog 31 #[.slice A n cap, .string x] w fun e w' => ∃ r q, e = .returned (.int .i64 r) ∧ Plc l x r ∧ w' = w.drewN q := by
  have HL := Lib.hid hn
  have HA := Lib.hid hA
  clear hn hA
  go_enter Tryd.func31, Tryd.ntmps31
  go_wp2
  go_loopw [8] (fun i wr => ∃ (k q : Nat), k ≤ n ∧ i = .int .i64 (k : Int) ∧ wr = w.drewN q ∧ Hid (∀ j (hj : j < k) (hl : j < l.length), mkS l[j] ≠ x)) (fun i _ => n - (intOf i).toNat)
  case atStart => exact ⟨0, 0, by omega, by go_num, rfl, Lib.hid (fun j hj => absurd hj (by omega))⟩
  case round =>
    obtain ⟨k, q, hk, rfl, rfl, HK⟩ := hrel
    by_cases hlt : k < n
    · have hkl : k < l.length := by have := HL.out; omega
      rcases HA.out with e | ⟨b, off, e, hc⟩
      · rw [e] at hkl; simp at hkl
      · subst e
        obtain ⟨y, hy⟩ : ∃ y, y = mkS l[k] := ⟨_, rfl⟩
        have d1 : w.cell? ⟨b, off + k, none⟩ = some (.string y) := by rw [hc k hkl, hy]
        have HY := Lib.hid hy
        clear hc hy
        by_cases hxy : x = y
        · subst hxy
          go_wp2_with fail
          go_ret
          exact ⟨_, q, rfl, .inr ⟨k, hkl, rfl, HY.out.symm, fun j hj => HK.out j hj _⟩, rfl⟩
        · have hne := bl_ne hxy
          go_wp2
          go_round
          case rel => exact ⟨k + 1, q, by omega, by go_num, rfl, Lib.hid (fun j hj hl => by
            rcases Nat.lt_succ_iff_lt_or_eq.1 hj with h | rfl
            · exact HK.out j h hl
            · rw [← HY.out]; exact fun e => hxy e.symm)⟩
          case measure => simp only [intOf]; omega
    · go_wp2
      go_ret
      exact ⟨_, q, rfl, .inl ⟨rfl, fun j h => HK.out j (by have := HL.out; omega) h⟩, rfl⟩
set_option maxHeartbeats 1000000 in
set_option maxRecDepth 100000 in
theorem place_at (x : ByteArray) (l : List (List UInt8)) (hl0 : l = nms) (w : World) : Calls Tryd.prog 7 #[.string x] w fun e w' => ∃ r, e = .returned (.int .i64 r) ∧ Plc l x r ∧ Below w.heap.size w w' := by
  have HL : Hid (l.length = 10) := Lib.hid (by rw [hl0]; rfl)
  have HA := Lib.hid (alloc_srow w l)
  have HL0 := Lib.hid hl0
  clear hl0
  have HB := Lib.hid ((Below.refl w.heap.size w).alloc (Nat.le_refl _) (.cells (svals l).toArray 9))
  go_enter Tryd.func7, Tryd.ntmps7
  go_wp2_with fail
  refine (rnames_at _).mono ?_
  rintro e w1 ⟨rfl, rfl⟩
  obtain ⟨w1, hw1⟩ : ∃ w1, w1 = w.alloc (.cells (svals l).toArray 9) := ⟨_, rfl⟩
  rw [← HL0.out]
  rw [← hw1] at HA HB ⊢
  clear hw1
  clear HL0
  obtain ⟨A, hA0⟩ : ∃ A, A = some (⟨w.heap.size, 0, none⟩ : Addr) := ⟨_, rfl⟩
  rw [← hA0] at HA ⊢
  clear hA0
  go_wp2
  go_loopw [4] (fun i wr => ∃ k : Nat, k ≤ 10 ∧ i = .int .i64 (k : Int) ∧ wr = w1 ∧ Hid (∀ j (hj : j < k) (hl : j < l.length), mkS l[j] ≠ x)) (fun i _ => 10 - (intOf i).toNat)
  case atStart => exact ⟨0, by omega, by go_num, rfl, Lib.hid (fun j hj => absurd hj (by omega))⟩
  case round =>
    obtain ⟨k, hk, rfl, rfl, HK⟩ := hrel
    by_cases hlt : k < 10
    · have hkl : k < l.length := by have := HL.out; omega
      rcases HA.out with e | ⟨b, off, e, hc⟩
      · rw [e] at hkl; simp at hkl
      · subst e
        obtain ⟨y, hy⟩ : ∃ y, y = mkS l[k] := ⟨_, rfl⟩
        have d1 : wr.cell? ⟨b, off + k, none⟩ = some (.string y) := by rw [hc k hkl, hy]
        have HY := Lib.hid hy
        clear hc hy
        by_cases hxy : y = x
        · subst hxy
          go_wp2
          go_ret
          exact ⟨_, rfl, .inr ⟨k, hkl, rfl, HY.out.symm, fun j hj => HK.out j hj _⟩, HB.out⟩
        · have hne := bl_ne hxy
          go_wp2
          go_round
          case rel => exact ⟨k + 1, by omega, by go_num, trivial, Lib.hid (fun j hj hl => by
            rcases Nat.lt_succ_iff_lt_or_eq.1 hj with h | rfl
            · exact HK.out j h hl
            · rw [← HY.out]; exact hxy)⟩
          case measure => simp only [intOf]; omega
    · go_wp2
      go_ret
      exact ⟨-1, by first | trivial | rfl, .inl ⟨rfl, fun j h => HK.out j (by have := HL.out; omega) h⟩, HB.out⟩
end Go.Proofs.YthgecgehelnadaaDoor
