/-
  The walk of the law that a handle that is stale stays stale.
-/
import Derived.Test.YtoopfoapkbjdkaaStale
import Derived.LoopTactic
namespace Go.Proofs.Ytoopfoapkbjdkaa
open Go.ChangeShapes Go.WideShapes Go.ChangeAt Go.RowKit
set_option linter.unusedVariables false
set_option maxRecDepth 100000

def b0 : SI := ⟨8, 3, [], []⟩
def b1 (v : Int) : SI := ⟨8, 3, [⟨1, true, v⟩], []⟩
def b2 : SI := ⟨8, 3, [⟨1, false, 0⟩], [0]⟩
theorem b2_stale : Stale b2 := ⟨⟨1, false, 0⟩, rfl, by decide, fun h => by cases h⟩
theorem b2_turns : Turns b2 1 := by intro s hs; simp [b2] at hs; subst hs; decide
theorem grown_below {a b : World} {N : Nat} {row : Option Nat} (h : a.grownBy b row) (hN : N ≤ a.heap.size) (hr : ∀ r, row = some r → N ≤ r) : Below N a b :=
  (Below.refl N a).grown h hN hr

/-- what stands between two rounds -/
structure StInv (w wr : World) (B : Nat) (S : SI) (k : Nat) : Prop where
  slab : IsSlab wr w.heap.size w.heap.size S
  stale : Stale S
  turns : Turns S (k + 1)
  eight : S.most = 8
  grown : w.grownBy wr none
  box : wr.heap[B]? = some (.cells #[.int .i32 0, .int .u32 1] 35 (0, 0))
theorem StInv.kept {w wr w' : World} {B : Nat} {S : SI} {k : Nat} (h : StInv w wr B S k) (hg : wr.grownBy w' none) : StInv w w' B S k :=
  ⟨h.slab.kept hg, h.stale, h.turns, h.eight, grown_trans h.grown hg, (hg.block _ (Array.getElem?_eq_some_iff.1 h.box).1 (by simp)).trans h.box⟩
theorem StInv.keep {w wr w' : World} {B : Nat} {S S' : SI} {k k' : Nat} (h : StInv w wr B S k) (hk : Keep Ki w.heap.size wr w') (hS : IsSlab w' w.heap.size w.heap.size S') (hst : Stale S') (ht : Turns S' (k' + 1)) (h8 : S'.most = 8) : StInv w w' B S' k' :=
  ⟨hS, hst, ht, h8, Keep.grown h.grown hk (Nat.le_refl _), hk.other h.box (by decide)⟩
theorem StInv.cells {w wr : World} {B : Nat} {S : SI} {k : Nat} (h : StInv w wr B S k) : wr.cell? ⟨B, 0, none⟩ = some (.int .i32 0) ∧ wr.cell? ⟨B, 1, none⟩ = some (.int .u32 1) ∧ B < wr.heap.size :=
  ⟨cell_of_head h.box 0, cell_of_head h.box 1, (Array.getElem?_eq_some_iff.1 h.box).1⟩
theorem StInv.get {w wr : World} {B : Nat} {S : SI} {k : Nat} (h : StInv w wr B S k) : Calls Try.prog 15 #[.pointer (some ⟨w.heap.size, 0, none⟩), .agg #[.int .i32 0, .int .u32 1]] wr fun e w' => e = .returned (.tuple #[.int .i64 0, .int .i64 4]) ∧ StInv w w' B S k ∧ Keep Ki w.heap.size wr w' := by
  refine (get_is h.slab (p := 0) (t := 1) (by decide) (by decide)).mono ?_
  rintro e w' ⟨rfl, hg⟩
  exact ⟨by rw [h.stale.names], h.kept hg, Keep.of_new hg⟩
theorem StInv.set {w wr : World} {B : Nat} {S : SI} {k : Nat} (h : StInv w wr B S k) (v : Int) : Calls Try.prog 17 #[.pointer (some ⟨w.heap.size, 0, none⟩), .agg #[.int .i32 0, .int .u32 1], .int .i64 v] wr fun e w' => e = .returned (.int .i64 4) ∧ StInv w w' B S k ∧ Keep Ki w.heap.size wr w' := by
  refine (set_is h.slab v (p := 0) (t := 1) (by decide) (by decide)).mono ?_
  rintro e w' ⟨rfl, hs, hk⟩
  rw [h.stale.names] at hs ⊢
  exact ⟨rfl, h.keep hk hs h.stale h.turns h.eight, hk⟩
theorem StInv.free {w wr : World} {B : Nat} {S : SI} {k : Nat} (h : StInv w wr B S k) : Calls Try.prog 14 #[.pointer (some ⟨w.heap.size, 0, none⟩), .agg #[.int .i32 0, .int .u32 1]] wr fun e w' => e = .returned (.int .i64 4) ∧ StInv w w' B S k ∧ Keep Ki w.heap.size wr w' := by
  refine (free_is h.slab (p := 0) (t := 1) (by decide) (by decide)).mono ?_
  rintro e w' ⟨rfl, hs, hk⟩
  rw [h.stale.names] at hs ⊢
  exact ⟨rfl, h.keep hk hs h.stale h.turns h.eight, hk⟩
theorem StInv.more {w wr : World} {B : Nat} {S : SI} {k k' : Nat} (h : StInv w wr B S k) (hk : k ≤ k') : StInv w wr B S k' :=
  ⟨h.slab, h.stale, h.turns.mono (by omega), h.eight, h.grown, h.box⟩
/-- a slab that is not full takes one more -/
theorem StInv.alloc {w wr : World} {B : Nat} {S : SI} {k : Nat} (h : StInv w wr B S k) (v : Int) (hr : S.len < S.most) (hk : k ≤ 200) : Calls Try.prog 13 #[.pointer (some ⟨w.heap.size, 0, none⟩), .int .i64 v] wr fun e w' => ∃ p t : Nat, e = .returned (.tuple #[.agg #[.int .i32 (p : Int), .int .u32 (t : Int)], .int .i64 0]) ∧ StInv w w' B (S.alloc v) (k + 1) ∧ Keep Ki w.heap.size wr w' ∧ ¬ (p = 0 ∧ t = 1) ∧ p ≤ 65536 ∧
    ∀ w'', StInv w w'' B (S.alloc v) (k + 1) → Calls Try.prog 15 #[.pointer (some ⟨w.heap.size, 0, none⟩), .agg #[.int .i32 (p : Int), .int .u32 (t : Int)]] w'' fun e wz => e = .returned (.tuple #[.int .i64 v, .int .i64 0]) ∧ StInv w wz B (S.alloc v) (k + 1) ∧ Keep Ki w.heap.size w'' wz := by
  have hf := h.slab.facts
  have ht := h.turns.at S.place
  refine (alloc_is h.slab v hr (by omega)).mono ?_
  rintro e w' ⟨rfl, hs, hk⟩
  have hpl := place_le h.slab.good
  refine ⟨S.place, S.turn S.place + 1, rfl, h.keep hk hs (h.stale.alloc v) (h.turns.alloc v) ((alloc_len S v).1.trans h.eight), hk, fun hh => ?_, by omega, fun w'' h'' => ?_⟩
  · have := h.stale.place hh.1; omega
  · refine (get_is h''.slab (p := (S.place : Int)) (t := ((S.turn S.place + 1 : Nat) : Int)) (by omega) (by omega)).mono ?_
    rintro e w3 ⟨rfl, hg⟩
    exact ⟨by rw [alloc_names h.slab.good], h''.kept hg, Keep.of_new hg⟩
theorem StInv.full {w wr : World} {B : Nat} {S : SI} {k : Nat} (h : StInv w wr B S k) (v : Int) (hr : ¬ S.len < S.most) : Calls Try.prog 13 #[.pointer (some ⟨w.heap.size, 0, none⟩), .int .i64 v] wr fun e w' => e = .returned (.tuple #[.agg #[.int .i32 0, .int .u32 0], .int .i64 3]) ∧ StInv w w' B S k ∧ Keep Ki w.heap.size wr w' := by
  refine (alloc_full_is h.slab v (by omega)).mono ?_
  rintro e w' ⟨rfl, hg⟩
  exact ⟨rfl, h.kept hg, Keep.of_new hg⟩
theorem StInv.any {w wr : World} {B : Nat} {S : SI} {k : Nat} (h : StInv w wr B S k) {p t : Int} (hp : -2147483648 ≤ p ∧ p < 2147483648) (ht : 0 ≤ t) : Calls Try.prog 15 #[.pointer (some ⟨w.heap.size, 0, none⟩), .agg #[.int .i32 p, .int .u32 t]] wr fun e w' => ∃ x y, e = .returned (.tuple #[.int .i64 x, .int .i64 y]) ∧ StInv w w' B S k := by
  refine (get_is h.slab (p := p) (t := t) hp ht).mono ?_
  rintro e w' ⟨rfl, hg⟩
  cases S.names p t with
  | none => exact ⟨_, _, rfl, h.kept hg⟩
  | some s => exact ⟨_, _, rfl, h.kept hg⟩
theorem StInv.at {w wr : World} {B : Nat} {S : SI} {k : Nat} (h : StInv w wr B S k) (hk : k ≤ 200) {p : Int} (hp : -2147483648 ≤ p ∧ p < 2147483648) : Calls Try.prog 16 #[.pointer (some ⟨w.heap.size, 0, none⟩), .int .i32 p] wr fun e w' => ∃ (q : Int) (t : Nat) (o : Bool), e = .returned (.tuple #[.agg #[.int .i32 q, .int .u32 (t : Int)], .bool o]) ∧ (-2147483648 ≤ q ∧ q < 2147483648) ∧ StInv w w' B S k := by
  refine (at_is h.slab hp).mono ?_
  rintro e w' ⟨rfl, hg⟩
  cases S.node p with
  | none => exact ⟨0, 0, false, rfl, by decide, h.kept hg⟩
  | some s => exact ⟨p, s.turn, true, rfl, hp, h.kept hg⟩
theorem StInv.drop {w wr : World} {B : Nat} {S : SI} {k : Nat} (h : StInv w wr B S k) {p t : Int} (hp : -2147483648 ≤ p ∧ p < 2147483648) (ht : 0 ≤ t) : Calls Try.prog 14 #[.pointer (some ⟨w.heap.size, 0, none⟩), .agg #[.int .i32 p, .int .u32 t]] wr fun e w' => ∃ y S', e = .returned (.int .i64 y) ∧ StInv w w' B S' k := by
  refine (free_is h.slab (p := p) (t := t) hp ht).mono ?_
  rintro e w' ⟨rfl, hs, hk⟩
  by_cases hn : (S.names p t).isSome = true
  · rw [if_pos hn] at hs
    exact ⟨_, _, rfl, h.keep hk hs (h.stale.free _) (h.turns.free _) ((free_len S 0 _).1.trans h.eight)⟩
  · rw [if_neg hn] at hs
    exact ⟨_, _, rfl, h.keep hk hs h.stale h.turns h.eight⟩

set_option maxHeartbeats 4000000 in
theorem stale_walk (A : Option Addr) (len cap : Nat) (l : List ActV) (v : Int) (w : World) (hl : l.length = len) (hok : ∀ a ∈ l, a.ok) (hr : ActsAt w A l) (hlen : len ≤ 100) :
    Calls Try.prog 4 #[.slice A len cap, .int .i64 v] w fun e w' => e = .returned (.bool true) ∧ w.grownBy w' none := by
  have Hl := Lib.hid hl
  have Hok := Lib.hid hok
  have Hr := Lib.hid hr
  clear hl hok hr
  have hd : decide (100 < (len : Int)) = false := by simp; omega
  have hd' : decide (100 < len) = false := by simp; omega
  have c0 : Calls Try.prog 7 #[.int .i64 8, .int .i64 3] w fun e w' => e = .returned (.tuple #[.pointer (some ⟨w.heap.size, 0, none⟩), .int .i64 0]) ∧ IsSlab w' w.heap.size w.heap.size b0 ∧ w.grownBy w' none := new_is (most := 8) (c := 3) (Nat.le_refl _) (by decide) (by decide) (by decide)
  go_enter Try.func4, Try.ntmps4
  go_wp2_with fail
  refine c0.mono ?_
  rintro e w1 ⟨rfl, hs, hg⟩
  have HG1 := Lib.hid hg
  have c1 : Calls Try.prog 13 #[.pointer (some ⟨w.heap.size, 0, none⟩), .int .i64 v] w1 fun e w' => e = .returned (.tuple #[.agg #[.int .i32 0, .int .u32 1], .int .i64 0]) ∧ IsSlab w' w.heap.size w.heap.size (b1 v) ∧ Keep Ki w.heap.size w1 w' := alloc_is hs v (by decide) (by decide)
  clear hs hg c0
  go_wp2_with fail
  refine c1.mono ?_
  rintro e w2 ⟨rfl, hs, hk⟩
  have HG2 := Lib.hid (Keep.grown HG1.out hk (Nat.le_refl _))
  have HS2 := Lib.hid hs
  clear hs hk c1 HG1
  go_wp2_with fail
  have hs := HS2.out.kept (World.grownBy_alloc w2 (.cells #[.int .i32 0, .int .u32 1] 35) none)
  have HG3 : Hid (w.grownBy (w2.alloc (.cells #[.int .i32 0, .int .u32 1] 35)) none) := Lib.hid (grown_trans HG2.out (World.grownBy_alloc _ _ none))
  have hb := heap_alloc_new w2 (.cells #[.int .i32 0, .int .u32 1] 35)
  generalize w2.alloc (.cells #[.int .i32 0, .int .u32 1] 35) = w3 at hs HG3 hb ⊢
  have c2 : Calls Try.prog 14 #[.pointer (some ⟨w.heap.size, 0, none⟩), .agg #[.int .i32 0, .int .u32 1]] w3 fun e w' => e = .returned (.int .i64 0) ∧ IsSlab w' w.heap.size w.heap.size b2 ∧ Keep Ki w.heap.size w3 w' := free_is hs (p := 0) (t := 1) (by decide) (by decide)
  refine c2.mono ?_
  rintro e w4 ⟨rfl, hs4, hk⟩
  have HI4 : Hid (StInv w w4 w2.heap.size b2 0) := Lib.hid ⟨hs4, b2_stale, b2_turns, rfl, Keep.grown HG3.out hk (Nat.le_refl _), hk.other hb (by decide)⟩
  clear hs hs4 hk hb c2 HG3 HG2 HS2
  go_wp2
  go_loopw [49] (fun i wr => ∃ (k : Nat) (S : SI), k ≤ len ∧ i = .int .i64 (k : Int) ∧ Hid (StInv w wr w2.heap.size S k)) (fun i _ => len - (intOf i).toNat)
  case atStart => exact ⟨0, _, by omega, by go_num, HI4⟩
  case round =>
    obtain ⟨k, S, hk, rfl, HI⟩ := hrel
    clear HI4
    by_cases hlt : k < len
    · obtain ⟨a, hget⟩ : ∃ a, l[k]? = some a := ⟨_, List.getElem?_eq_getElem (by rw [Hl.out]; exact hlt)⟩
      have HA := Lib.hid (Hok.out _ (List.mem_of_getElem? hget))
      obtain ⟨ba, off, rfl, hba, h0, h1, h2, h3⟩ := (Hr.out.kept HI.out.grown).some hget
      obtain ⟨kd, pl, tn, va⟩ := a
      have hpl := HA.out.place
      have htn := HA.out.turn
      simp only at h0 h1 h2 h3 hpl htn
      clear hget
      by_cases k0 : kd = 0 ∨ kd = 1
      · rcases k0 with rfl | rfl
        · have HI2 : Hid (StInv w (wr.alloc (.cells #[.int .i64 0, .int .i32 pl, .int .u32 tn, .int .i64 va] 37)) w2.heap.size S k) := Lib.hid (HI.out.kept (World.grownBy_alloc _ _ none))
          have hbx := heap_alloc_new wr (.cells #[.int .i64 0, .int .i32 pl, .int .u32 tn, .int .i64 va] 37)
          by_cases hroom : S.len < S.most
          · have cA := HI2.out.alloc va hroom (by omega)
            have HX := Lib.hid hbx
            clear hbx HI
            go_wp2_with fail
            refine cA.mono ?_
            rintro e wx ⟨p, t, rfl, hi, hK, hne, hp6, hg2⟩
            have hbx2 := hK.other HX.out (by decide)
            have HIx := Lib.hid (hi.kept (World.grownBy_alloc wx (.cells #[.int .i32 (p : Int), .int .u32 (t : Int)] 35) none))
            have cG := hg2 _ HIx.out
            have hbk := heap_alloc_new wx (.cells #[.int .i32 (p : Int), .int .u32 (t : Int)] 35)
            have hbx3 := ((World.grownBy_alloc wx (.cells #[.int .i32 (p : Int), .int .u32 (t : Int)] 35) none).block _ (Array.getElem?_eq_some_iff.1 hbx2).1 (by simp)).trans hbx2
            have HX3 := Lib.hid hbx3
            have HBK := Lib.hid hbk
            clear hi hK hg2 cA hbx2 hbx3 hbk
            go_wp2_with fail
            refine cG.mono ?_
            rintro e wy ⟨rfl, hi, hK⟩
            have HW := Lib.hid hi
            have e1 := hK.other HX3.out (by decide)
            have e2 := hK.other HBK.out (by decide)
            have e3 := cell_of_head e1 3
            have e4 := cell_of_head e2 0
            have e5 := cell_of_head e2 1
            simp only [List.getElem?_toArray, List.getElem?_cons_zero, List.getElem?_cons_succ] at e3 e4 e5
            have HX3 := Lib.hid e1
            obtain ⟨hc0, hc1, hcB⟩ := HW.out.cells
            have hpt : ((p : Int) == 0 && (t : Int) == 1) = false := by
              by_cases hp0 : p = 0
              · have : ((t : Int) == 1) = false := beq_eq_false_iff_ne.2 (by omega)
                rw [this, Bool.and_false]
              · have : ((p : Int) == 0) = false := beq_eq_false_iff_ne.2 (by omega)
                rw [this, Bool.false_and]
            clear hi hK cG e1 e2 HBK hne
            by_cases hp0 : ((p : Int) == 0) = true
            · have hp1 : ((t : Int) == 1) = false := by rw [hp0, Bool.true_and] at hpt; exact hpt
              clear hpt
              go_wp2_with fail
              refine HW.out.get.mono ?_
              rintro e wa ⟨rfl, hi, _⟩
              have Ha := Lib.hid hi
              clear hi hc0 hc1 hcB
              obtain ⟨hc0, hc1, hcB⟩ := Ha.out.cells
              go_wp2_with fail
              refine (Ha.out.set v).mono ?_
              rintro e wb ⟨rfl, hi, _⟩
              have Hb := Lib.hid hi
              clear hi hc0 hc1 hcB
              obtain ⟨hc0, hc1, hcB⟩ := Hb.out.cells
              go_wp2_with fail
              refine Hb.out.free.mono ?_
              rintro e wc ⟨rfl, hi, _⟩
              have Hc := Lib.hid hi
              clear hi hc0 hc1 hcB
              go_wp2
              go_roundw
              case rel => exact ⟨k + 1, _, by omega, by go_num, Hc⟩
              case measure => simp [intOf]; omega
            · have hp1 : ((p : Int) == 0) = false := by simpa using hp0
              clear hpt hp0
              go_wp2_with fail
              refine HW.out.get.mono ?_
              rintro e wa ⟨rfl, hi, _⟩
              have Ha := Lib.hid hi
              clear hi hc0 hc1 hcB
              obtain ⟨hc0, hc1, hcB⟩ := Ha.out.cells
              go_wp2_with fail
              refine (Ha.out.set v).mono ?_
              rintro e wb ⟨rfl, hi, _⟩
              have Hb := Lib.hid hi
              clear hi hc0 hc1 hcB
              obtain ⟨hc0, hc1, hcB⟩ := Hb.out.cells
              go_wp2_with fail
              refine Hb.out.free.mono ?_
              rintro e wc ⟨rfl, hi, _⟩
              have Hc := Lib.hid hi
              clear hi hc0 hc1 hcB
              go_wp2
              go_roundw
              case rel => exact ⟨k + 1, _, by omega, by go_num, Hc⟩
              case measure => simp [intOf]; omega
          · clear hbx
            have cA := HI2.out.full va hroom
            clear HI
            go_wp2_with fail
            refine cA.mono ?_
            rintro e wx ⟨rfl, hi, hK⟩
            have HIx := Lib.hid (hi.kept (World.grownBy_alloc wx (.cells #[.int .i32 0, .int .u32 0] 35) none))
            have cG := HIx.out.any (p := 0) (t := 0) (by decide) (by decide)
            clear hi hK cA
            go_wp2_with fail
            refine cG.mono ?_
            rintro e wy ⟨x, y, rfl, hi⟩
            have HW := Lib.hid (hi.more (Nat.le_succ _))
            clear hi cG
            obtain ⟨hc0, hc1, hcB⟩ := HW.out.cells
            go_wp2_with fail
            refine HW.out.get.mono ?_
            rintro e wa ⟨rfl, hi, _⟩
            have Ha := Lib.hid hi
            clear hi hc0 hc1 hcB
            obtain ⟨hc0, hc1, hcB⟩ := Ha.out.cells
            go_wp2_with fail
            refine (Ha.out.set v).mono ?_
            rintro e wb ⟨rfl, hi, _⟩
            have Hb := Lib.hid hi
            clear hi hc0 hc1 hcB
            obtain ⟨hc0, hc1, hcB⟩ := Hb.out.cells
            go_wp2_with fail
            refine Hb.out.free.mono ?_
            rintro e wc ⟨rfl, hi, _⟩
            have Hc := Lib.hid hi
            clear hi hc0 hc1 hcB
            go_wp2
            go_roundw
            case rel => exact ⟨k + 1, _, by omega, by go_num, Hc⟩
            case measure => simp [intOf]; omega
        · have HI2 : Hid (StInv w (wr.alloc (.cells #[.int .i64 1, .int .i32 pl, .int .u32 tn, .int .i64 va] 37)) w2.heap.size S k) := Lib.hid (HI.out.kept (World.grownBy_alloc _ _ none))
          have hbx := heap_alloc_new wr (.cells #[.int .i64 1, .int .i32 pl, .int .u32 tn, .int .i64 va] 37)
          by_cases hroom : S.len < S.most
          · have cA := HI2.out.alloc va hroom (by omega)
            have HX := Lib.hid hbx
            clear hbx HI
            go_wp2_with fail
            refine cA.mono ?_
            rintro e wx ⟨p, t, rfl, hi, hK, hne, hp6, hg2⟩
            have hbx2 := hK.other HX.out (by decide)
            have HIx := Lib.hid (hi.kept (World.grownBy_alloc wx (.cells #[.int .i32 (p : Int), .int .u32 (t : Int)] 35) none))
            have cG := hg2 _ HIx.out
            have hbk := heap_alloc_new wx (.cells #[.int .i32 (p : Int), .int .u32 (t : Int)] 35)
            have hbx3 := ((World.grownBy_alloc wx (.cells #[.int .i32 (p : Int), .int .u32 (t : Int)] 35) none).block _ (Array.getElem?_eq_some_iff.1 hbx2).1 (by simp)).trans hbx2
            have HX3 := Lib.hid hbx3
            have HBK := Lib.hid hbk
            clear hi hK hg2 cA hbx2 hbx3 hbk
            go_wp2_with fail
            refine cG.mono ?_
            rintro e wy ⟨rfl, hi, hK⟩
            have HW := Lib.hid hi
            have e1 := hK.other HX3.out (by decide)
            have e2 := hK.other HBK.out (by decide)
            have e3 := cell_of_head e1 3
            have e4 := cell_of_head e2 0
            have e5 := cell_of_head e2 1
            simp only [List.getElem?_toArray, List.getElem?_cons_zero, List.getElem?_cons_succ] at e3 e4 e5
            have HX3 := Lib.hid e1
            obtain ⟨hc0, hc1, hcB⟩ := HW.out.cells
            have hpt : ((p : Int) == 0 && (t : Int) == 1) = false := by
              by_cases hp0 : p = 0
              · have : ((t : Int) == 1) = false := beq_eq_false_iff_ne.2 (by omega)
                rw [this, Bool.and_false]
              · have : ((p : Int) == 0) = false := beq_eq_false_iff_ne.2 (by omega)
                rw [this, Bool.false_and]
            clear hi hK cG e1 e2 HBK hne
            by_cases hp0 : ((p : Int) == 0) = true
            · have hp1 : ((t : Int) == 1) = false := by rw [hp0, Bool.true_and] at hpt; exact hpt
              clear hpt
              go_wp2_with fail
              refine HW.out.get.mono ?_
              rintro e wa ⟨rfl, hi, _⟩
              have Ha := Lib.hid hi
              clear hi hc0 hc1 hcB
              obtain ⟨hc0, hc1, hcB⟩ := Ha.out.cells
              go_wp2_with fail
              refine (Ha.out.set v).mono ?_
              rintro e wb ⟨rfl, hi, _⟩
              have Hb := Lib.hid hi
              clear hi hc0 hc1 hcB
              obtain ⟨hc0, hc1, hcB⟩ := Hb.out.cells
              go_wp2_with fail
              refine Hb.out.free.mono ?_
              rintro e wc ⟨rfl, hi, _⟩
              have Hc := Lib.hid hi
              clear hi hc0 hc1 hcB
              go_wp2
              go_roundw
              case rel => exact ⟨k + 1, _, by omega, by go_num, Hc⟩
              case measure => simp [intOf]; omega
            · have hp1 : ((p : Int) == 0) = false := by simpa using hp0
              clear hpt hp0
              go_wp2_with fail
              refine HW.out.get.mono ?_
              rintro e wa ⟨rfl, hi, _⟩
              have Ha := Lib.hid hi
              clear hi hc0 hc1 hcB
              obtain ⟨hc0, hc1, hcB⟩ := Ha.out.cells
              go_wp2_with fail
              refine (Ha.out.set v).mono ?_
              rintro e wb ⟨rfl, hi, _⟩
              have Hb := Lib.hid hi
              clear hi hc0 hc1 hcB
              obtain ⟨hc0, hc1, hcB⟩ := Hb.out.cells
              go_wp2_with fail
              refine Hb.out.free.mono ?_
              rintro e wc ⟨rfl, hi, _⟩
              have Hc := Lib.hid hi
              clear hi hc0 hc1 hcB
              go_wp2
              go_roundw
              case rel => exact ⟨k + 1, _, by omega, by go_num, Hc⟩
              case measure => simp [intOf]; omega
          · clear hbx
            have cA := HI2.out.full va hroom
            clear HI
            go_wp2_with fail
            refine cA.mono ?_
            rintro e wx ⟨rfl, hi, hK⟩
            have HIx := Lib.hid (hi.kept (World.grownBy_alloc wx (.cells #[.int .i32 0, .int .u32 0] 35) none))
            have cG := HIx.out.any (p := 0) (t := 0) (by decide) (by decide)
            clear hi hK cA
            go_wp2_with fail
            refine cG.mono ?_
            rintro e wy ⟨x, y, rfl, hi⟩
            have HW := Lib.hid (hi.more (Nat.le_succ _))
            clear hi cG
            obtain ⟨hc0, hc1, hcB⟩ := HW.out.cells
            go_wp2_with fail
            refine HW.out.get.mono ?_
            rintro e wa ⟨rfl, hi, _⟩
            have Ha := Lib.hid hi
            clear hi hc0 hc1 hcB
            obtain ⟨hc0, hc1, hcB⟩ := Ha.out.cells
            go_wp2_with fail
            refine (Ha.out.set v).mono ?_
            rintro e wb ⟨rfl, hi, _⟩
            have Hb := Lib.hid hi
            clear hi hc0 hc1 hcB
            obtain ⟨hc0, hc1, hcB⟩ := Hb.out.cells
            go_wp2_with fail
            refine Hb.out.free.mono ?_
            rintro e wc ⟨rfl, hi, _⟩
            have Hc := Lib.hid hi
            clear hi hc0 hc1 hcB
            go_wp2
            go_roundw
            case rel => exact ⟨k + 1, _, by omega, by go_num, Hc⟩
            case measure => simp [intOf]; omega
      · by_cases k2 : kd = 2 ∨ kd = 4
        · rcases k2 with rfl | rfl
          · have HI2 : Hid (StInv w (wr.alloc (.cells #[.int .i64 2, .int .i32 pl, .int .u32 tn, .int .i64 va] 37)) w2.heap.size S k) := Lib.hid (HI.out.kept (World.grownBy_alloc _ _ none))
            have cA := HI2.out.at (by omega) hpl
            clear HI
            go_wp2_with fail
            refine cA.mono ?_
            rintro e wx ⟨q, t, o, rfl, hq, hi⟩
            have HIx := Lib.hid (hi.kept (World.grownBy_alloc wx (.cells #[.int .i32 q, .int .u32 (t : Int)] 35) none))
            have cG := HIx.out.drop hq (t := (t : Int)) (by omega)
            clear hi cA
            go_wp2_with fail
            refine cG.mono ?_
            rintro e wy ⟨y, S', rfl, hi⟩
            have HW := Lib.hid (hi.more (Nat.le_succ _))
            clear hi cG
            obtain ⟨hc0, hc1, hcB⟩ := HW.out.cells
            go_wp2_with fail
            refine HW.out.get.mono ?_
            rintro e wa ⟨rfl, hi, _⟩
            have Ha := Lib.hid hi
            clear hi hc0 hc1 hcB
            obtain ⟨hc0, hc1, hcB⟩ := Ha.out.cells
            go_wp2_with fail
            refine (Ha.out.set v).mono ?_
            rintro e wb ⟨rfl, hi, _⟩
            have Hb := Lib.hid hi
            clear hi hc0 hc1 hcB
            obtain ⟨hc0, hc1, hcB⟩ := Hb.out.cells
            go_wp2_with fail
            refine Hb.out.free.mono ?_
            rintro e wc ⟨rfl, hi, _⟩
            have Hc := Lib.hid hi
            clear hi hc0 hc1 hcB
            go_wp2
            go_roundw
            case rel => exact ⟨k + 1, _, by omega, by go_num, Hc⟩
            case measure => simp [intOf]; omega
          · have HI2 : Hid (StInv w (wr.alloc (.cells #[.int .i64 4, .int .i32 pl, .int .u32 tn, .int .i64 va] 37)) w2.heap.size S k) := Lib.hid (HI.out.kept (World.grownBy_alloc _ _ none))
            have cA := HI2.out.at (by omega) hpl
            clear HI
            go_wp2_with fail
            refine cA.mono ?_
            rintro e wx ⟨q, t, o, rfl, hq, hi⟩
            have HIx := Lib.hid (hi.kept (World.grownBy_alloc wx (.cells #[.int .i32 q, .int .u32 (t : Int)] 35) none))
            have cG := HIx.out.drop hq (t := (t : Int)) (by omega)
            clear hi cA
            go_wp2_with fail
            refine cG.mono ?_
            rintro e wy ⟨y, S', rfl, hi⟩
            have HW := Lib.hid (hi.more (Nat.le_succ _))
            clear hi cG
            obtain ⟨hc0, hc1, hcB⟩ := HW.out.cells
            go_wp2_with fail
            refine HW.out.get.mono ?_
            rintro e wa ⟨rfl, hi, _⟩
            have Ha := Lib.hid hi
            clear hi hc0 hc1 hcB
            obtain ⟨hc0, hc1, hcB⟩ := Ha.out.cells
            go_wp2_with fail
            refine (Ha.out.set v).mono ?_
            rintro e wb ⟨rfl, hi, _⟩
            have Hb := Lib.hid hi
            clear hi hc0 hc1 hcB
            obtain ⟨hc0, hc1, hcB⟩ := Hb.out.cells
            go_wp2_with fail
            refine Hb.out.free.mono ?_
            rintro e wc ⟨rfl, hi, _⟩
            have Hc := Lib.hid hi
            clear hi hc0 hc1 hcB
            go_wp2
            go_roundw
            case rel => exact ⟨k + 1, _, by omega, by go_num, Hc⟩
            case measure => simp [intOf]; omega
        · have n0 : (kd == 0) = false := beq_eq_false_iff_ne.2 (by omega)
          have n1 : (kd == 1) = false := beq_eq_false_iff_ne.2 (by omega)
          have n2 : (kd == 2) = false := beq_eq_false_iff_ne.2 (by omega)
          have n4 : (kd == 4) = false := beq_eq_false_iff_ne.2 (by omega)
          have HW : Hid (StInv w (wr.alloc (.cells #[.int .i64 kd, .int .i32 pl, .int .u32 tn, .int .i64 va] 37)) w2.heap.size S (k + 1)) := Lib.hid ((HI.out.kept (World.grownBy_alloc _ _ none)).more (Nat.le_succ _))
          obtain ⟨hc0, hc1, hcB⟩ := HW.out.cells
          go_wp2_with fail
          refine HW.out.get.mono ?_
          rintro e wa ⟨rfl, hi, _⟩
          have Ha := Lib.hid hi
          clear hi hc0 hc1 hcB
          obtain ⟨hc0, hc1, hcB⟩ := Ha.out.cells
          go_wp2_with fail
          refine (Ha.out.set v).mono ?_
          rintro e wb ⟨rfl, hi, _⟩
          have Hb := Lib.hid hi
          clear hi hc0 hc1 hcB
          obtain ⟨hc0, hc1, hcB⟩ := Hb.out.cells
          go_wp2_with fail
          refine Hb.out.free.mono ?_
          rintro e wc ⟨rfl, hi, _⟩
          have Hc := Lib.hid hi
          clear hi hc0 hc1 hcB
          go_wp2
          go_roundw
          case rel => exact ⟨k + 1, _, by omega, by go_num, Hc⟩
          case measure => simp [intOf]; omega

    · obtain rfl : k = len := by omega
      go_wp2_with fail
      refine (alive_any wr).mono ?_
      rintro e w6 ⟨rfl, hg6⟩
      have HG6 := Lib.hid (grown_trans HI.out.grown hg6)
      clear hg6
      go_wp2
      go_ret
      exact ⟨rfl, HG6.out⟩
theorem stale_long (A : Option Addr) (len cap : Nat) (v : Int) (w : World) (hlen : 100 < len) :
    Calls Try.prog 4 #[.slice A len cap, .int .i64 v] w fun e w' => e = .returned (.bool true) ∧ w.grownBy w' none := by
  have hd : decide (100 < (len : Int)) = true := by simp; omega
  have hd' : decide (100 < len) = true := by simp; omega
  have c0 : Calls Try.prog 7 #[.int .i64 8, .int .i64 3] w fun e w' => e = .returned (.tuple #[.pointer (some ⟨w.heap.size, 0, none⟩), .int .i64 0]) ∧ IsSlab w' w.heap.size w.heap.size b0 ∧ w.grownBy w' none := new_is (most := 8) (c := 3) (Nat.le_refl _) (by decide) (by decide) (by decide)
  go_enter Try.func4, Try.ntmps4
  go_wp2_with fail
  refine c0.mono ?_
  rintro e w1 ⟨rfl, hs, hg⟩
  have HG1 := Lib.hid hg
  clear hs hg c0
  go_wp2_with fail
  refine (alive_any w1).mono ?_
  rintro e w6 ⟨rfl, hg6⟩
  have HG6 := Lib.hid (grown_trans HG1.out hg6)
  clear hg6
  go_wp2
  go_ret
  exact ⟨rfl, HG6.out⟩
theorem slabStale_law (A : Option Addr) (len cap : Nat) (l : List ActV) (v : Int) (w : World) (hl : l.length = len) (hok : ∀ a ∈ l, a.ok) (hr : ActsAt w A l) :
    Calls Try.prog 4 #[.slice A len cap, .int .i64 v] w fun e w' => e = .returned (.bool true) ∧ Below w.heap.size w w' := by
  by_cases hlen : len ≤ 100
  · refine (stale_walk A len cap l v w hl hok hr hlen).mono ?_
    rintro e w' ⟨he, hg⟩
    exact ⟨he, grown_below hg (Nat.le_refl _) (by simp)⟩
  · refine (stale_long A len cap v w (by omega)).mono ?_
    rintro e w' ⟨he, hg⟩
    exact ⟨he, grown_below hg (Nat.le_refl _) (by simp)⟩
end Go.Proofs.Ytoopfoapkbjdkaa
