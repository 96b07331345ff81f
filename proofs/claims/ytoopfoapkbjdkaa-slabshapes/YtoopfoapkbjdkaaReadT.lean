/-
  Reading a slab of structs.
-/
import Derived.Test.YtoopfoapkbjdkaaFind
namespace Go.Proofs.Ytoopfoapkbjdkaa
open Go.ChangeShapes Go.WideShapes Go.ChangeAt Go.RowKit
set_option linter.unusedVariables false
set_option maxRecDepth 100000

def Kt : Kd := ⟨98, 120, 106, 4⟩
theorem Kt_ok : Kt.Ok := by constructor <;> decide

theorem new_yesT (most c : Nat) (w : World) (h1 : 1 ≤ c) (h2 : c ≤ most) (h3 : most ≤ 65536) :
    Calls Try.prog 19 #[.int .i64 (most : Int), .int .i64 (c : Int)] w fun e w' => e = .returned (.tuple #[.pointer (some ⟨w.heap.size, 0, none⟩), .int .i64 0]) ∧ w' = w.alloc (.cells #[.int .i64 (most : Int), .int .i64 (c : Int), .int .i64 0, .slice none 0 0, .slice none 0 0] 98) := by
  have hd1 : decide ((most : Int) < 1) = false := by simp; omega
  have hd2 : decide (65536 < (most : Int)) = false := by simp; omega
  have hd3 : decide ((c : Int) < 1) = false := by simp; omega
  have hd4 : decide ((most : Int) < (c : Int)) = false := by simp; omega
  go_enter Try.func19, Try.ntmps19
  go_wp2
  go_ret2
  exact ⟨rfl, rfl⟩
theorem len_rawT (b t f cap : Nat) (A : Option Addr) (w : World) (hf : f ≤ t) (ht : t ≤ 65536) (h2 : w.cell? ⟨b, 2, none⟩ = some (.int .i64 (t : Int))) (h4 : w.cell? ⟨b, 4, none⟩ = some (.slice A f cap)) :
    Calls Try.prog 25 #[.pointer (some ⟨b, 0, none⟩)] w fun e w' => e = .returned (.int .i64 ((t - f : Nat) : Int)) ∧ ∃ q, w' = w.drewN q := by
  go_enter Try.func25, Try.ntmps25
  go_wp2
  go_quiet (fail)
  go_wp2
  go_ret
  exact ⟨ret_int (Int.ofNat_sub hf).symm, _, rfl⟩
theorem room_rawT (b m t f cap : Nat) (A : Option Addr) (w : World) (hf : f ≤ t) (ht : t ≤ m) (hm : m ≤ 65536) (h0 : w.cell? ⟨b, 0, none⟩ = some (.int .i64 (m : Int))) (h2 : w.cell? ⟨b, 2, none⟩ = some (.int .i64 (t : Int))) (h4 : w.cell? ⟨b, 4, none⟩ = some (.slice A f cap)) :
    Calls Try.prog 42 #[.pointer (some ⟨b, 0, none⟩)] w fun e w' => e = .returned (.int .i64 ((m - (t - f) : Nat) : Int)) ∧ ∃ q, w' = w.drewN q := by
  go_enter Try.func42, Try.ntmps42
  go_wp2
  go_quiet ((go_at_call 25; exact quiet_drew (len_rawT b t f cap A _ hf (by omega) h2 h4)))
  go_wp2
  go_ret
  exact ⟨ret_int (by omega), _, rfl⟩
set_option maxHeartbeats 400000 in
theorem spot_rawT (b t c p gC n capC dj lj cj : Nat) (w : World) (h : p < t) (ht : t ≤ 65536) (hc : 1 ≤ c) (hc6 : c ≤ 65536) (h1 : w.cell? ⟨b, 1, none⟩ = some (.int .i64 (c : Int))) (h2 : w.cell? ⟨b, 2, none⟩ = some (.int .i64 (t : Int)))
    (h3 : w.cell? ⟨b, 3, none⟩ = some (.slice (some ⟨gC, 0, none⟩) n capC)) (hn : p / c < n) (hr : w.cell? ⟨gC, p / c, none⟩ = some (.slice (some ⟨dj, 0, none⟩) lj cj)) (hl : p % c < lj) :
    Calls Try.prog 44 #[.pointer (some ⟨b, 0, none⟩), .int .i32 (p : Int)] w fun e w' => e = .returned (.pointer (some ⟨dj, p % c * 4, none⟩)) ∧ ∃ q, w' = w.drewN q := by
  have hd : decide ((p : Int) < 0) = false := by simp
  have hd2 : decide ((t : Int) ≤ (p : Int)) = false := by simp; omega
  have hz : ((c : Int) == 0) = false := beq_eq_false_iff_ne.2 (by omega)
  have hz2 : ¬ c = 0 := by omega
  have hz3 : ¬ (c : Int) = 0 := by omega
  have hq' := wrap_quo' p c (by omega)
  have hm' := tmod_nat p c
  generalize p / c = j at *
  generalize p % c = i at *
  go_enter Try.func44, Try.ntmps44
  go_wp2
  go_quiet (fail)
  go_wp2
  go_ret
  exact ⟨rfl, _, rfl⟩
section
variable {w : World} {lo b most c : Nat} {Lc : List (List Value)} {fr : List Nat} {d cp : Nat → Nat} {vC vF : Value}
theorem spot_atT (h : Mem Kt w lo b most c Lc fr d cp vC vF) {p : Nat} (hp : p < Lc.length) :
    Calls Try.prog 44 #[.pointer (some ⟨b, 0, none⟩), .int .i32 (p : Int)] w fun e w' => e = .returned (.pointer (some ⟨d (p / c), p % c * 4, none⟩)) ∧ ∃ q, w' = w.drewN q := by
  obtain ⟨gC, capC, rfl, hr⟩ := h.rowCell (nch_div h.c1 hp)
  have := h.len
  have := h.m6
  have := h.cm
  exact spot_rawT b Lc.length c p gC _ capC _ _ _ w hp (by omega) h.c1 (by omega) h.chunk1 h.taken2 h.chunks3 (nch_div h.c1 hp) hr (lch_mod h.c1 hp)
end
set_option maxHeartbeats 400000 in
theorem at_yesT (b dj o : Nat) (p : Int) (turn : Nat) (w : World) (hs : ∀ w', w.grownBy w' none → Calls Try.prog 44 #[.pointer (some ⟨b, 0, none⟩), .int .i32 p] w' fun e w'' => e = .returned (.pointer (some ⟨dj, o, none⟩)) ∧ ∃ q, w'' = w'.drewN q)
    (h0 : w.cell? ⟨dj, o, none⟩ = some (.int .u32 (turn : Int))) (h1 : w.cell? ⟨dj, o + 1, none⟩ = some (.bool true)) :
    Calls Try.prog 52 #[.pointer (some ⟨b, 0, none⟩), .int .i32 p] w fun e w' => e = .returned (.tuple #[hdl p turn, .bool true]) ∧ w.grownBy w' none := by
  have Hs := Lib.hid hs
  clear hs
  have hlt := block_lt_of_cell h0
  simp only at hlt
  go_enter Try.func52, Try.ntmps52
  go_wp2_with (go_at_call 44; refine (Hs.out _ (World.grownBy_alloc _ _ none)).mono ?_; rintro e w' ⟨rfl, q, rfl⟩)
  refine bodyPost_ret (results_handle rfl _ _ _ _ _ _ _ rfl (box_heap w q _ _ _ _)) rfl ?_
  exact ⟨rfl, box_grown w q _ _ _ _⟩
set_option maxHeartbeats 1000000 in
theorem find_yesT (A D : Addr) (p t : Int) (w : World) (hA : ∀ w', w.grownBy w' none → Calls Try.prog 52 #[.pointer (some A), .int .i32 p] w' fun e w'' => e = .returned (.tuple #[hdl p t, .bool true]) ∧ w'.grownBy w'' none)
    (hS : ∀ w', w.grownBy w' none → Calls Try.prog 44 #[.pointer (some A), .int .i32 p] w' fun e w'' => e = .returned (.pointer (some D)) ∧ ∃ q, w'' = w'.drewN q) :
    Calls Try.prog 46 #[.pointer (some A), hdl p t] w fun e w' => e = .returned (.tuple #[.pointer (some D), .int .i64 0]) ∧ w.grownBy w' none := by
  have Hs := Lib.hid hA
  have HS := Lib.hid hS
  clear hA hS
  unfold hdl
  go_enter Try.func46, Try.ntmps46
  go_wp2_with (first | (go_at_call 52; refine (Hs.out _ (World.grownBy_alloc _ _ none)).mono ?_; unfold hdl; rintro e w' ⟨rfl, hg⟩; obtain ⟨hb0, hb1⟩ := box_cells hg; have hz := box_lt hg; have HG := Lib.hid hg; clear hg) | (go_at_call 44; refine (HS.out _ (grown_trans (World.grownBy_alloc _ _ none) (grown_trans HG.out (World.grownBy_alloc _ _ none)))).mono ?_; rintro e w2 ⟨rfl, q, rfl⟩))
  go_ret2
  exact ⟨rfl, grown_trans (grown_trans (World.grownBy_alloc _ _ none) (grown_trans HG.out (World.grownBy_alloc _ _ none))) (grown_drewN _ q none)⟩
end Go.Proofs.Ytoopfoapkbjdkaa
