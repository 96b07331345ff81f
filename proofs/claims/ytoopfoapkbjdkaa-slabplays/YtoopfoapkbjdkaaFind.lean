/-
  Finding a node of a slab of numbers by its handle.
-/
import Derived.Test.YtoopfoapkbjdkaaRead
import Derived.Laws.ResultCell
import Derived.Laws.StructEq
namespace Go.Proofs.Ytoopfoapkbjdkaa
open Go.ChangeShapes Go.WideShapes Go.ChangeAt Go.RowKit
set_option linter.unusedVariables false

section
variable {w : World} {lo b most c : Nat} {Lc : List (List Value)} {fr : List Nat} {d cp : Nat → Nat} {vC vF : Value}
theorem spot_at (h : Mem Ki w lo b most c Lc fr d cp vC vF) {p : Nat} (hp : p < Lc.length) :
    Calls Try.prog 37 #[.pointer (some ⟨b, 0, none⟩), .int .i32 (p : Int)] w fun e w' => e = .returned (.pointer (some ⟨d (p / c), p % c * 3, none⟩)) ∧ ∃ q, w' = w.drewN q := by
  obtain ⟨gC, capC, rfl, hr⟩ := h.rowCell (nch_div h.c1 hp)
  have := h.len
  have := h.m6
  have := h.cm
  exact spot_raw b Lc.length c p gC _ capC _ _ _ w hp (by omega) h.c1 (by omega) h.chunk1 h.taken2 h.chunks3 (nch_div h.c1 hp) hr (lch_mod h.c1 hp)
end
theorem results_handle {fn : Func} {p u : Tmp} (h : fn.results = #[.cell p 35, .tmp u]) (tmps : Array Value) (w : World) (g : Nat) (t : TypeId) (fr : Nat × Nat) (x y : Value)
    (hp : tmps.getD p undef = .pointer (some ⟨g, 0, none⟩)) (hg : w.heap[g]? = some (.cells #[x, y] t fr)) : (results fn tmps).run Try.prog w = .ok (.tuple #[.agg #[x, y], tmps.getD u undef]) w := by
  rw [results_cell_tmp h, hp]
  simp [asAddr, run_loadVar_row w g t 35 #[x, y] fr _ hg Try.underlying35 rfl (by kernel_rfl), Result.andThen]
/-- a new box of two cells, which are then stored -/
theorem box_heap (w : World) (q : Nat) (a a' x y : Value) : ((((w.alloc (.cells #[a, a'] 35)).drewN q).setCell ⟨w.heap.size, 0, none⟩ x).setCell ⟨w.heap.size, 1, none⟩ y).heap[w.heap.size]? = some (.cells #[x, y] 35 (0, 0)) := by
  have h0 : ((w.alloc (.cells #[a, a'] 35)).drewN q).heap[w.heap.size]? = some (.cells #[a, a'] 35 (0, 0)) := heap_alloc_new w _
  exact head_set (head_set h0 0 x) 1 y
theorem box_grown (w : World) (q : Nat) (a a' x y : Value) : w.grownBy ((((w.alloc (.cells #[a, a'] 35)).drewN q).setCell ⟨w.heap.size, 0, none⟩ x).setCell ⟨w.heap.size, 1, none⟩ y) none :=
  grown_new (grown_new (grown_trans (World.grownBy_alloc w _ none) (grown_drewN _ q none)) (grown_setCell _ _ 0 x) (Nat.le_refl _)) (grown_setCell _ _ 1 y) (Nat.le_refl _)
theorem box_heap0 (w : World) (a a' x y : Value) : (((w.alloc (.cells #[a, a'] 35)).setCell ⟨w.heap.size, 0, none⟩ x).setCell ⟨w.heap.size, 1, none⟩ y).heap[w.heap.size]? = some (.cells #[x, y] 35 (0, 0)) := box_heap w 0 a a' x y
theorem box_grown0 (w : World) (a a' x y : Value) : w.grownBy (((w.alloc (.cells #[a, a'] 35)).setCell ⟨w.heap.size, 0, none⟩ x).setCell ⟨w.heap.size, 1, none⟩ y) none := box_grown w 0 a a' x y

def hdl (p turn : Int) : Value := .agg #[.int .i32 p, .int .u32 turn]
set_option maxHeartbeats 400000 in
theorem at_yes (b dj o : Nat) (p : Int) (turn : Nat) (w : World) (hs : ∀ w', w.grownBy w' none → Calls Try.prog 37 #[.pointer (some ⟨b, 0, none⟩), .int .i32 p] w' fun e w'' => e = .returned (.pointer (some ⟨dj, o, none⟩)) ∧ ∃ q, w'' = w'.drewN q)
    (h0 : w.cell? ⟨dj, o, none⟩ = some (.int .u32 (turn : Int))) (h1 : w.cell? ⟨dj, o + 1, none⟩ = some (.bool true)) :
    Calls Try.prog 16 #[.pointer (some ⟨b, 0, none⟩), .int .i32 p] w fun e w' => e = .returned (.tuple #[hdl p turn, .bool true]) ∧ w.grownBy w' none := by
  have Hs := Lib.hid hs
  clear hs
  have hlt := block_lt_of_cell h0
  simp only at hlt
  go_enter Try.func16, Try.ntmps16
  go_wp2_with (go_at_call 37; refine (Hs.out _ (World.grownBy_alloc _ _ none)).mono ?_; rintro e w' ⟨rfl, q, rfl⟩)
  refine bodyPost_ret (results_handle rfl _ _ _ _ _ _ _ rfl (box_heap w q _ _ _ _)) rfl ?_
  exact ⟨rfl, box_grown w q _ _ _ _⟩
set_option maxHeartbeats 400000 in
theorem at_free (b dj o : Nat) (p : Int) (w : World) (hs : ∀ w', w.grownBy w' none → Calls Try.prog 37 #[.pointer (some ⟨b, 0, none⟩), .int .i32 p] w' fun e w'' => e = .returned (.pointer (some ⟨dj, o, none⟩)) ∧ ∃ q, w'' = w'.drewN q)
    (h1 : w.cell? ⟨dj, o + 1, none⟩ = some (.bool false)) :
    Calls Try.prog 16 #[.pointer (some ⟨b, 0, none⟩), .int .i32 p] w fun e w' => e = .returned (.tuple #[hdl 0 0, .bool false]) ∧ w.grownBy w' none := by
  have Hs := Lib.hid hs
  clear hs
  have hlt := block_lt_of_cell h1
  simp only at hlt
  go_enter Try.func16, Try.ntmps16
  go_wp2_with (go_at_call 37; refine (Hs.out _ (World.grownBy_alloc _ _ none)).mono ?_; rintro e w' ⟨rfl, q, rfl⟩)
  refine bodyPost_ret (results_handle rfl _ _ _ _ _ _ _ rfl (box_heap w q _ _ _ _)) rfl ?_
  exact ⟨rfl, box_grown w q _ _ _ _⟩
set_option maxHeartbeats 1000000 in
theorem at_no (A : Option Addr) (p : Int) (w : World) (hs : ∀ w', w.grownBy w' none → Calls Try.prog 37 #[.pointer A, .int .i32 p] w' fun e w'' => e = .returned (.pointer none) ∧ w' = w'') :
    Calls Try.prog 16 #[.pointer A, .int .i32 p] w fun e w' => e = .returned (.tuple #[hdl 0 0, .bool false]) ∧ w.grownBy w' none := by
  have Hs := Lib.hid hs
  clear hs
  go_enter Try.func16, Try.ntmps16
  go_wp2_with (go_at_call 37; refine (Hs.out _ (World.grownBy_alloc _ _ none)).mono ?_; rintro e w' ⟨rfl, rfl⟩)
  refine bodyPost_ret (results_handle rfl _ _ _ _ _ _ _ rfl (heap_alloc_new w _)) rfl ?_
  exact ⟨rfl, World.grownBy_alloc _ _ none⟩
theorem at_nil (p : Int) (w : World) : Calls Try.prog 16 #[.pointer none, .int .i32 p] w fun e w' => e = .returned (.tuple #[hdl 0 0, .bool false]) ∧ w.grownBy w' none :=
  at_no none p w fun w' _ => spot_nil p w'

/-- what stands at a place: its turn, if a node stands there -/
def nodeAt (Lc : List (List Value)) (p : Int) : Option Nat :=
  if 0 ≤ p then (match Lc[p.toNat]? with | some (.int .u32 t :: .bool true :: _) => some t.toNat | _ => none) else none
/-- each place's cells begin with a turn and a bool -/
def Spots (Lc : List (List Value)) : Prop := ∀ x ∈ Lc, ∃ (t : Nat) (s : Bool) (r : List Value), x = .int .u32 (t : Int) :: .bool s :: r
def AtPost (w : World) (Lc : List (List Value)) (p : Int) (e : Ending) (w' : World) : Prop :=
  e = .returned (.tuple #[(match nodeAt Lc p with | some t => hdl p t | none => hdl 0 0), .bool (nodeAt Lc p).isSome]) ∧ w.grownBy w' none
section
variable {w : World} {lo b most c : Nat} {Lc : List (List Value)} {fr : List Nat} {d cp : Nat → Nat} {vC vF : Value}
theorem at_at (h : Mem Ki w lo b most c Lc fr d cp vC vF) (hsp : Spots Lc) {p : Int} (hp : -2147483648 ≤ p ∧ p < 2147483648) :
    Calls Try.prog 16 #[.pointer (some ⟨b, 0, none⟩), .int .i32 p] w (AtPost w Lc p) := by
  by_cases hin : 0 ≤ p ∧ p < Lc.length
  · obtain ⟨n, rfl⟩ := Int.eq_ofNat_of_zero_le hin.1
    have hn : n < Lc.length := by omega
    obtain ⟨t, s, r, hx⟩ := hsp _ (List.getElem_mem hn)
    have hg : Lc.getD n [] = .int .u32 (t : Int) :: .bool s :: r := by rw [List.getD_eq_getElem?_getD, List.getElem?_eq_getElem hn]; exact hx
    have c0 := h.spotCell (t := 0) hn (by decide)
    have c1 := h.spotCell (t := 1) hn (by decide)
    rw [hg] at c0 c1
    have hno : nodeAt Lc ((n : Nat) : Int) = if s then some t else none := by
      unfold nodeAt
      rw [if_pos (by omega), Int.toNat_natCast, List.getElem?_eq_getElem hn, hx]
      cases s <;> simp
    have hs : ∀ w', w.grownBy w' none → Calls Try.prog 37 #[.pointer (some ⟨b, 0, none⟩), .int .i32 (n : Int)] w' fun e w'' => e = .returned (.pointer (some ⟨d (n / c), n % c * 3, none⟩)) ∧ ∃ q, w'' = w'.drewN q :=
      fun w' hg => spot_at (h.kept hg) hn
    cases s with
    | true =>
      refine (at_yes b _ _ n t w hs c0 c1).mono ?_
      rintro e w' ⟨rfl, hg'⟩
      exact ⟨by rw [hno]; rfl, hg'⟩
    | false =>
      refine (at_free b _ _ n w hs c1).mono ?_
      rintro e w' ⟨rfl, hg'⟩
      exact ⟨by rw [hno]; rfl, hg'⟩
  · have hno : nodeAt Lc p = none := by
      unfold nodeAt
      by_cases h0 : 0 ≤ p
      · rw [if_pos h0, List.getElem?_eq_none (by omega)]
      · rw [if_neg h0]
    refine (at_no _ p w fun w' hg => spot_no b Lc.length p w' (by omega) hp (h.kept hg).taken2).mono ?_
    rintro e w' ⟨rfl, hg'⟩
    exact ⟨by rw [hno]; rfl, hg'⟩
end

/-! ### find -/
theorem find_nil (p t : Int) (w : World) : Calls Try.prog 38 #[.pointer none, hdl p t] w fun e w' => e = .returned (.tuple #[.pointer none, .int .i64 9]) ∧ w.grownBy w' none := by
  unfold hdl
  go_enter Try.func38, Try.ntmps38
  go_wp2
  go_ret2
  exact ⟨rfl, World.grownBy_alloc _ _ none⟩
set_option maxHeartbeats 400000 in
theorem find_no (A : Addr) (p t : Int) (w : World) (hA : ∀ w', w.grownBy w' none → Calls Try.prog 16 #[.pointer (some A), .int .i32 p] w' fun e w'' => e = .returned (.tuple #[hdl 0 0, .bool false]) ∧ w'.grownBy w'' none) :
    Calls Try.prog 38 #[.pointer (some A), hdl p t] w fun e w' => e = .returned (.tuple #[.pointer none, .int .i64 4]) ∧ w.grownBy w' none := by
  have Hs := Lib.hid hA
  clear hA
  unfold hdl
  go_enter Try.func38, Try.ntmps38
  go_wp2_with (go_at_call 16; refine (Hs.out _ (World.grownBy_alloc _ _ none)).mono ?_; unfold hdl; rintro e w' ⟨rfl, hg⟩; have HG := Lib.hid hg; clear hg)
  go_ret2
  exact ⟨rfl, grown_trans (World.grownBy_alloc _ _ none) (grown_trans HG.out (World.grownBy_alloc _ _ none))⟩
/-- the box of the handle that was looked up is still there -/
theorem box_cells {w w' : World} {x y : Value} (hg : (w.alloc (.cells #[x, y] 35)).grownBy w' none) : w'.cell? ⟨w.heap.size, 0, none⟩ = some x ∧ w'.cell? ⟨w.heap.size, 1, none⟩ = some y := by
  have h0 : w'.heap[w.heap.size]? = some (.cells #[x, y] 35 (0, 0)) := (hg.block _ (by simp) (by simp)).trans (heap_alloc_new w _)
  exact ⟨cell_of_head h0 0, cell_of_head h0 1⟩
theorem box_lt {w w' : World} {o : Obj} (hg : (w.alloc o).grownBy w' none) : w.heap.size < w'.heap.size := by
  have := hg.size; rw [World.size_alloc] at this; omega
set_option maxHeartbeats 1000000 in
theorem find_stale (A : Addr) (p t u : Int) (w : World) (htu : ¬ u = t) (hA : ∀ w', w.grownBy w' none → Calls Try.prog 16 #[.pointer (some A), .int .i32 p] w' fun e w'' => e = .returned (.tuple #[hdl p u, .bool true]) ∧ w'.grownBy w'' none) :
    Calls Try.prog 38 #[.pointer (some A), hdl p t] w fun e w' => e = .returned (.tuple #[.pointer none, .int .i64 4]) ∧ w.grownBy w' none := by
  have Hs := Lib.hid hA
  clear hA
  unfold hdl
  go_enter Try.func38, Try.ntmps38
  go_wp2_with (go_at_call 16; refine (Hs.out _ (World.grownBy_alloc _ _ none)).mono ?_; unfold hdl; rintro e w' ⟨rfl, hg⟩; obtain ⟨hb0, hb1⟩ := box_cells hg; have hz := box_lt hg; have HG := Lib.hid hg; clear hg)
  go_ret2
  exact ⟨rfl, grown_trans (World.grownBy_alloc _ _ none) (grown_trans HG.out (World.grownBy_alloc _ _ none))⟩
set_option maxHeartbeats 1000000 in
theorem find_yes (A D : Addr) (p t : Int) (w : World) (hA : ∀ w', w.grownBy w' none → Calls Try.prog 16 #[.pointer (some A), .int .i32 p] w' fun e w'' => e = .returned (.tuple #[hdl p t, .bool true]) ∧ w'.grownBy w'' none)
    (hS : ∀ w', w.grownBy w' none → Calls Try.prog 37 #[.pointer (some A), .int .i32 p] w' fun e w'' => e = .returned (.pointer (some D)) ∧ ∃ q, w'' = w'.drewN q) :
    Calls Try.prog 38 #[.pointer (some A), hdl p t] w fun e w' => e = .returned (.tuple #[.pointer (some D), .int .i64 0]) ∧ w.grownBy w' none := by
  have Hs := Lib.hid hA
  have HS := Lib.hid hS
  clear hA hS
  unfold hdl
  go_enter Try.func38, Try.ntmps38
  go_wp2_with (first | (go_at_call 16; refine (Hs.out _ (World.grownBy_alloc _ _ none)).mono ?_; unfold hdl; rintro e w' ⟨rfl, hg⟩; obtain ⟨hb0, hb1⟩ := box_cells hg; have hz := box_lt hg; have HG := Lib.hid hg; clear hg) | (go_at_call 37; refine (HS.out _ (grown_trans (World.grownBy_alloc _ _ none) (grown_trans HG.out (World.grownBy_alloc _ _ none)))).mono ?_; rintro e w2 ⟨rfl, q, rfl⟩))
  go_ret2
  exact ⟨rfl, grown_trans (grown_trans (World.grownBy_alloc _ _ none) (grown_trans HG.out (World.grownBy_alloc _ _ none))) (grown_drewN _ q none)⟩

/-- what find tells -/
def FindPost (w : World) (d : Nat → Nat) (c k : Nat) (Lc : List (List Value)) (p t : Int) (e : Ending) (w' : World) : Prop :=
  (if nodeAt Lc p = some t.toNat then e = .returned (.tuple #[.pointer (some ⟨d (p.toNat / c), p.toNat % c * k, none⟩), .int .i64 0]) else e = .returned (.tuple #[.pointer none, .int .i64 4])) ∧ w.grownBy w' none
theorem nodeAt_lt {Lc : List (List Value)} {p : Int} {t : Nat} (h : nodeAt Lc p = some t) : 0 ≤ p ∧ p.toNat < Lc.length := by
  unfold nodeAt at h
  by_cases h0 : 0 ≤ p
  · refine ⟨h0, Nat.lt_of_not_le fun hl => ?_⟩
    rw [if_pos h0, List.getElem?_eq_none hl] at h; cases h
  · rw [if_neg h0] at h; cases h
section
variable {w : World} {lo b most c : Nat} {Lc : List (List Value)} {fr : List Nat} {d cp : Nat → Nat} {vC vF : Value}
theorem find_at (h : Mem Ki w lo b most c Lc fr d cp vC vF) (hsp : Spots Lc) {p t : Int} (hp : -2147483648 ≤ p ∧ p < 2147483648) (ht : 0 ≤ t) :
    Calls Try.prog 38 #[.pointer (some ⟨b, 0, none⟩), hdl p t] w (FindPost w d c 3 Lc p t) := by
  have hat := fun w' (hg : w.grownBy w' none) => at_at (h.kept hg) hsp hp
  cases hn : nodeAt Lc p with
  | none =>
    refine (find_no _ p t w fun w' hg => (hat w' hg).mono ?_).mono ?_
    · rintro e w'' ⟨rfl, hg'⟩
      exact ⟨by rw [hn]; rfl, hg'⟩
    · rintro e w' ⟨rfl, hg⟩
      exact ⟨by rw [hn]; simp, hg⟩
  | some u =>
    have hlt := nodeAt_lt hn
    have hat' : ∀ w', w.grownBy w' none → Calls Try.prog 16 #[.pointer (some ⟨b, 0, none⟩), .int .i32 p] w' fun e w'' => e = .returned (.tuple #[hdl p u, .bool true]) ∧ w'.grownBy w'' none := by
      intro w' hg
      refine (hat w' hg).mono ?_
      rintro e w'' ⟨rfl, hg'⟩
      exact ⟨by rw [hn]; rfl, hg'⟩
    by_cases hu : (u : Int) = t
    · subst hu
      refine (find_yes _ ⟨d (p.toNat / c), p.toNat % c * 3, none⟩ p u w hat' fun w' hg => ?_).mono ?_
      · have := spot_at (h.kept hg) hlt.2
        rwa [Int.toNat_of_nonneg hlt.1] at this
      · rintro e w' ⟨rfl, hg⟩
        exact ⟨by rw [hn]; simp, hg⟩
    · refine (find_stale _ p t u w hu hat').mono ?_
      rintro e w' ⟨rfl, hg⟩
      refine ⟨?_, hg⟩
      rw [hn, if_neg]
      intro e
      injection e with e
      omega
end
end Go.Proofs.Ytoopfoapkbjdkaa
