/-
  The walk of the law on bytes.
-/
import Derived.Test.YtihcaldaknidcaaBytesWalks
import Derived.WalkSpells
namespace Go.Proofs.Ytihcaldaknidcaa
open Go.ChangeShapes Go.WideShapes Go.ChangeAt Go.RowKit
set_option linter.unusedVariables false
theorem Try.info5 : (Try.prog.info? 5).map (fun i => (i.zero, i.size, i.bytes)) = some (some (.int .u8 0), 1, 1) := by kernel_rfl

theorem Row.news {w : World} {x : Addr} {len : Nat} {zs : List Int} (h : Row w (some x) len zs) (o : Obj) :
    ∀ j u, (zs.map (Value.int .u8))[j]? = some u → (w.alloc o).cell? (x.add j) = some u := by
  intro j u hj
  have hlt : j < zs.length := by
    rcases Nat.lt_or_ge j zs.length with h | h
    · exact h
    · rw [List.getElem?_eq_none (by simpa using h)] at hj; cases hj
  have h' := h.below ((Below.refl w.heap.size w).alloc (Nat.le_refl _) o)
  obtain ⟨b, off, e, _, hc⟩ := h'.2.2 (by have := h.1; omega)
  injection e with e
  subst e
  rw [Go.WideShapes.add_plain, hc j (by have := h.1; omega)]
  rw [List.getElem?_map, List.getElem?_eq_getElem hlt] at hj
  rw [List.getElem?_eq_getElem hlt]
  simpa using hj

theorem oneCell_ints (zs : List Int) : ∀ u ∈ zs.map (Value.int .u8), u.oneCell' = true := by
  intro u hu
  obtain ⟨z, _, rfl⟩ := List.mem_map.1 hu
  rfl

theorem more_bd {zs : List Int} {c : Int} (h : ∀ j : Nat, 0 ≤ zs[j]?.getD 0 ∧ zs[j]?.getD 0 ≤ 255) (c0 : 0 ≤ c) (c1 : c ≤ 255) (j : Nat) :
    0 ≤ (zs ++ [c])[j]?.getD 0 ∧ (zs ++ [c])[j]?.getD 0 ≤ 255 := by
  rcases Nat.lt_trichotomy j zs.length with hj | hj | hj
  · rw [List.getElem?_append_left hj]; exact h j
  · subst hj; simp; omega
  · rw [List.getElem?_eq_none (by simp; omega)]; simp

/-- what is made of the bytes and one more, as the law hands it on -/
theorem row_made {w : World} {B n : Nat} {v : Value} {zs : List Int} {c : Int} (h : w.ownsRow B 5 1 v (n + 1) (zs.map (Value.int .u8) ++ [.int .u8 c]))
    (hb : ∀ j : Nat, 0 ≤ zs[j]?.getD 0 ∧ zs[j]?.getD 0 ≤ 255) (c0 : 0 ≤ c) (c1 : c ≤ 255) :
    ∃ g cap, v = .slice (some ⟨g, 0, none⟩) (n + 1) cap ∧ Row w (some ⟨g, 0, none⟩) (n + 1) (zs ++ [c]) := by
  rcases h.2 with ⟨_, h0⟩ | ⟨g, cap, cur, rfl, _⟩
  · omega
  · refine ⟨g, cap, rfl, Row.of_own (base := B) (cap := cap) ?_ (more_bd hb c0 c1)⟩
    rw [List.map_append]; exact h

theorem below_made {w w1 : World} (h : (w.alloc (.cells #[] 5)).grownBy w1 (Value.slice (some ⟨w.heap.size, 0, none⟩) 0 0).ownBlock) : Below w.heap.size w w1 :=
  ((Below.refl _ _).alloc (Nat.le_refl _) _).grown h (by simp) (fun k e => ((World.ownsRow_made (base := w.heap.size) (e := 5) (size := 1) w #[] 0 (Nat.le_refl _) (by decide) rfl).lt k e).1)
theorem below_more {w w1 w2 : World} {o : Obj} {v : Value} {e : TypeId} {size n : Nat} {xs : List Value} (hb : Below w.heap.size w w1) (hown : w1.ownsRow w.heap.size e size v n xs)
    (h : (w1.alloc o).grownBy w2 v.ownBlock) : Below w.heap.size w w2 :=
  (hb.alloc hb.size o).grown h (by have := hb.size; simp; omega) (fun k e => (hown.lt k e).1)

set_option maxHeartbeats 400000 in
theorem law_some (x : Addr) (len cap : Nat) (zs : List Int) (c : Int) (w : World) (hr : Row w (some x) len zs) (hm : len ≤ 2000) (c0 : 0 ≤ c) (c1 : c ≤ 255) :
    Calls Try.prog 6 #[.slice (some x) len cap, .int .u8 c] w fun e w' => e = .returned (.bool true) ∧ Below w.heap.size w w' := by
  have H := Lib.hid hr
  have HL := Lib.hid hr.1
  clear hr
  have e0 : (bytesI zs == rbytesI zs) = true := beq_iff_eq.2 (bytes_eq zs)
  have e1 : (bytesI (zs ++ [c]) == refI (IntKind.u64.wrap (bytesI zs + c))) = true := beq_iff_eq.2 (bytes_more zs c)
  obtain ⟨i0, hi, hz0, hz1, hz2⟩ := info_parts Try.info5
  have HI := Lib.hid hi
  have HZ0 := Lib.hid hz0
  have HZ1 := Lib.hid hz1
  have HZ2 := Lib.hid hz2
  clear hi hz0 hz1 hz2
  go_enter Try.func6, Try.ntmps6
  go_wp2_with fail
  refine (bytes_row _ H.out (by omega)).mono ?_
  rintro e w' ⟨rfl, rfl⟩
  go_wp2_with (first
    | (at_builtin; refine wpList_append_own _ rfl (.tmp 13) (.tmp 14) 30 rfl w.heap.size 5 i0 (.int .u8 0) 1 1 Try.underlying30 HI.out HZ0.out HZ1.out HZ2.out rfl (by decide) (.slice (some ⟨w.heap.size, 0, none⟩) 0 0) 0 [] rfl (World.ownsRow_made w #[] 0 (Nat.le_refl _) (by decide) rfl) x len cap (zs.map (Value.int .u8)) rfl (by rw [List.length_map, HL.out]; omega) (H.out.news _) (oneCell_ints zs) (by unfold maxLen; omega) (by omega) (by simp) ?_; intro v1 w1 hown1 hgrow1 _; simp only [Nat.zero_add, List.nil_append] at hown1; have B1 := Lib.hid (below_made hgrow1); have H1 := Lib.hid hown1; clear hown1 hgrow1)
    | (at_builtin; refine wpList_append_own _ rfl (.tmp 16) (.tmp 18) 30 rfl w.heap.size 5 i0 (.int .u8 0) 1 1 Try.underlying30 HI.out HZ0.out HZ1.out HZ2.out rfl (by decide) v1 len (zs.map (Value.int .u8)) rfl (H1.out.alloc _) ⟨w1.heap.size, 0, none⟩ 1 1 [.int .u8 c] rfl rfl (cell_one_new _ _ _) (oneCell_ints [c]) (by unfold maxLen; omega) (by omega) (by have := B1.out.size; simp; omega) ?_; intro v2 w2 hown2 hgrow2 _; obtain ⟨g, cap2, rfl, hrow⟩ := row_made hown2 H.out.2.1 c0 c1; have HR := Lib.hid hrow; have B2 := Lib.hid (below_more B1.out H1.out hgrow2); clear hrow hgrow2 hown2)
    | (go_at_call 14; refine (rbytes_row _ (H.out.below B2.out) (by omega)).mono ?_; rintro e w' ⟨rfl, rfl⟩)
    | (go_at_call 13; refine (bytes_row _ HR.out (by omega)).mono ?_; rintro e w' ⟨rfl, rfl⟩)
    | (go_at_call 8; refine (ref_any _ _ (nonneg_wrap _)).mono ?_; rintro e w' ⟨rfl, rfl⟩)
    | (go_at_call 9; refine (alive_any _).mono ?_; rintro e w' ⟨rfl, rfl⟩))
  go_ret
  exact ⟨rfl, B2.out⟩

theorem one_more (w : World) (c : Int) : ∀ j u, [Value.int .u8 c][j]? = some u →
    ((w.alloc (.cells #[] 5)).alloc (.cells #[.int .u8 c] 5)).cell? ((⟨w.heap.size + 1, 0, none⟩ : Addr).add j) = some u := by
  have h := cell_one_new (w.alloc (.cells #[] 5)) (.int .u8 c) 5
  have e : (w.alloc (.cells #[] 5)).heap.size = w.heap.size + 1 := by simp
  rw [e] at h
  exact h

set_option maxHeartbeats 400000 in
theorem law_nil (c : Int) (w : World) (c0 : 0 ≤ c) (c1 : c ≤ 255) :
    Calls Try.prog 6 #[.slice none 0 0, .int .u8 c] w fun e w' => e = .returned (.bool true) ∧ Below w.heap.size w w' := by
  have hr : Row w none 0 [] := ⟨rfl, fun j => by simp, fun h => by omega⟩
  have H := Lib.hid hr
  clear hr
  have hm : (w.alloc (.cells #[] 5)).ownsRow w.heap.size 5 1 (.slice (some ⟨w.heap.size, 0, none⟩) 0 0) 0 [] := World.ownsRow_made w #[] 0 (Nat.le_refl _) (by decide) rfl
  have HM := Lib.hid hm
  clear hm
  have e0 : (bytesI [] == rbytesI []) = true := beq_iff_eq.2 (bytes_eq [])
  have e1 : (bytesI [c] == refI (IntKind.u64.wrap (bytesI [] + c))) = true := beq_iff_eq.2 (bytes_more [] c)
  obtain ⟨i0, hi, hz0, hz1, hz2⟩ := info_parts Try.info5
  have HI := Lib.hid hi
  have HZ0 := Lib.hid hz0
  have HZ1 := Lib.hid hz1
  have HZ2 := Lib.hid hz2
  clear hi hz0 hz1 hz2
  go_enter Try.func6, Try.ntmps6
  go_wp2_with fail
  refine (bytes_row _ H.out (by omega)).mono ?_
  rintro e w' ⟨rfl, rfl⟩
  go_wp2_with (first
    | (at_builtin; refine wpList_append_own_none rfl (.tmp 13) (.tmp 14) 30 rfl w.heap.size 5 i0 1 Try.underlying30 HI.out (.slice (some ⟨w.heap.size, 0, none⟩) 0 0) 0 [] rfl HM.out rfl ?_)
    | (at_builtin; refine wpList_append_own _ rfl (.tmp 16) (.tmp 18) 30 rfl w.heap.size 5 i0 (.int .u8 0) 1 1 Try.underlying30 HI.out HZ0.out HZ1.out HZ2.out rfl (by decide) (.slice (some ⟨w.heap.size, 0, none⟩) 0 0) 0 [] rfl (HM.out.alloc _) ⟨w.heap.size + 1, 0, none⟩ 1 1 [.int .u8 c] rfl rfl (one_more w c) (oneCell_ints [c]) (by unfold maxLen; omega) (by omega) (by simp; omega) ?_; intro v2 w2 hown2 hgrow2 _; obtain ⟨g, cap2, rfl, hrow⟩ := row_made hown2 H.out.2.1 c0 c1; have HR := Lib.hid hrow; have B2 := Lib.hid (below_more ((Below.refl _ _).alloc (Nat.le_refl _) _) HM.out hgrow2); clear hrow hgrow2 hown2)
    | (go_at_call 14; refine (rbytes_row _ (H.out.below B2.out) (by omega)).mono ?_; rintro e w' ⟨rfl, rfl⟩)
    | (go_at_call 13; refine (bytes_row _ HR.out (by omega)).mono ?_; rintro e w' ⟨rfl, rfl⟩)
    | (go_at_call 8; refine (ref_any _ _ (nonneg_wrap _)).mono ?_; rintro e w' ⟨rfl, rfl⟩)
    | (go_at_call 9; refine (alive_any _).mono ?_; rintro e w' ⟨rfl, rfl⟩))
  go_ret
  exact ⟨rfl, B2.out⟩

theorem law_long (A : Option Addr) (len cap : Nat) (c : Int) (w : World) (hl : (2000 : Int) < (len : Int)) (hm : len ≤ maxLen) :
    Calls Try.prog 6 #[.slice A len cap, .int .u8 c] w fun e w' => e = .returned (.bool true) ∧ Below w.heap.size w w' := by
  unfold maxLen at hm
  go_enter Try.func6, Try.ntmps6
  go_wp2_with (go_at_call 9; refine (alive_any _).mono ?_; rintro e w' ⟨rfl, rfl⟩)
  go_ret
  exact ⟨rfl, Below.refl _ _⟩
end Go.Proofs.Ytihcaldaknidcaa
