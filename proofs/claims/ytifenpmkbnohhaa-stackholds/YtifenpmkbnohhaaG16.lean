/-
  Maps of keys: is no key there twice? Do the rows agree?
  The keys of pages; is no key there twice?
  Do the queue and the ghosts agree with the stack?
-/
import Derived.Test.YtifenpmkbnohhaaG15
import Derived.Maps.Own
import Derived.Maps.OwnOps
import Derived.Maps.OwnSet
import Derived.Maps.Views
import Derived.DataShut
namespace Go.Proofs.Ytifenpmkbnohhaa
open Go.RowKit
open Go.Proofs.StackM
open Go.Maps (Keyed IsMap)
set_option linter.unusedVariables false
/-- a key is a number of sixty-four bits -/
def K64 (k : Int) : Prop := 0 ≤ k ∧ k ≤ 18446744073709551615
theorem K64.wf {k : Int} (h : K64 k) : (Lit.int .u64 k).wf = true := (Lit.wf_int_iff .u64 k).2 h
theorem lawU : Keyed Try.prog 27 := Go.Maps.int_keyed Try.underlying27
theorem keyU {k : Int} (h : K64 k) : keyOf Try.prog 27 (.int .u64 k) = some (.int .u64 k) := Go.Maps.keyOf_int_mk Try.underlying27 h.wf
theorem zero4 (w : World) : (zeroValue 4).run Try.prog w = .ok (.bool false) w := by kernel_rfl
theorem zero56 (w : World) : (zeroValue 56).run Try.prog w = .ok (.int .i64 0) w := by kernel_rfl
theorem bool_inv {P : Program} {e : TypeId} (he : P.underlying e = some .bool) {v : Value} {x : Bool} {ps : List MemPlace} (h : plainElem (H := Unit) P e v = some (.lit (.bool x), ps)) : v = .bool x := by
  unfold plainElem at h
  rw [he] at h
  cases v <;> simp at h
  rw [h.1]
/-- a map of bools -/
def MB (w : World) (b n : Nat) (f : Int → Bool) : Prop := ∃ D : DataW Unit, w.ownsMap Try.prog 27 (plainElem Try.prog 4) b n D ∧ IsMap D ∧ ∀ k, D.atKey (.int .u64 k) (.lit (.bool false)) = .lit (.bool (f k))
theorem MB.made (w : World) : MB (w.alloc (.map #[] 0)) w.heap.size 0 (fun _ => false) := ⟨.map [], World.ownsMap_made _ _ _ _, Go.Maps.isMap_empty, fun k => rfl⟩
theorem MB.look {w : World} {b n : Nat} {f : Int → Bool} (h : MB w b n f) {k : Int} (hk : K64 k) : (Instr.lookup 96 (.map (some b)) (.int .u64 k) false).run Try.prog w = .ok (.bool (f k)) w := by
  obtain ⟨D, h1, h2, h3⟩ := h
  obtain ⟨v, ps, h4, h5⟩ := h1.lookup lawU Try.underlying96 (zero4 w) (plainElem_bool Try.underlying4 false) (keyU hk)
  rw [h3] at h5
  rw [h4, bool_inv Try.underlying4 h5]
theorem MB.lt {w : World} {b n : Nat} {f : Int → Bool} (h : MB w b n f) : b < w.heap.size := by obtain ⟨D, h1, _⟩ := h; exact h1.lt
theorem MB.kept {w w' : World} {b n : Nat} {f : Int → Bool} (h : MB w b n f) (hb : Below w.heap.size w w') : MB w' b n f := by
  obtain ⟨D, h1, h2⟩ := h
  exact ⟨D, h1.kept (row := none) ⟨hb.os, hb.tape, hb.output, hb.size, fun k hk _ => hb.block k hk⟩ (by simp), h2⟩
theorem MB.put {w : World} {b n : Nat} {f : Int → Bool} (h : MB w b n f) {k : Int} (hk : K64 k) (x : Bool) (hn : n < 1000000) : ∃ w', (Instr.mapUpdate 96 (.map (some b)) (.int .u64 k) (.bool x)).run Try.prog w = .ok () w' ∧ MB w' b (n + 1) (fun j => if j = k then x else f j) ∧ w.grownBy w' (some b) := by
  obtain ⟨D, h1, h2, h3⟩ := h
  obtain ⟨w', h4, h5, h6⟩ := h1.update lawU Try.underlying96 (by unfold maxLen; omega) (keyU hk) (plainElem_bool Try.underlying4 x)
  refine ⟨w', h4, ⟨_, h5, h2.put _ _, fun j => ?_⟩, h6⟩
  dsimp only
  by_cases hj : j = k
  · subst hj
    rw [if_pos rfl, Go.Maps.atKey_put_same (k := .int .u64 j) h2 (show WideAt.IsKeyLit (.int .u64 j) from trivial)]
  · rw [if_neg hj, Go.Maps.atKey_put_other (by intro e; injection e with _ e; exact hj e), h3]
/-- a map of kinds -/
def MK (w : World) (b n : Nat) (f : Int → Int) : Prop := ∃ D : DataW Unit, w.ownsMap Try.prog 27 (plainElem Try.prog 56) b n D ∧ IsMap D ∧ ∀ k, D.atKey (.int .u64 k) (.lit (.int .i64 0)) = .lit (.int .i64 (f k))
theorem MK.made (w : World) : MK (w.alloc (.map #[] 0)) w.heap.size 0 (fun _ => 0) := ⟨.map [], World.ownsMap_made _ _ _ _, Go.Maps.isMap_empty, fun k => rfl⟩
theorem lit_inj {a b : Int} (h : (DataW.lit (.int .i64 a) : DataW Unit) = .lit (.int .i64 b)) : a = b := by cases h; rfl
set_option maxRecDepth 100000 in
theorem MK.look {w : World} {b n : Nat} {f : Int → Int} (h : MK w b n f) {k : Int} (hk : K64 k) : (Instr.lookup 97 (.map (some b)) (.int .u64 k) false).run Try.prog w = .ok (.int .i64 (f k)) w := by
  obtain ⟨D, h1, h2, h3⟩ := h
  obtain ⟨c, h4, h5, _⟩ := h1.lookup_int lawU Try.underlying97 Try.underlying56 (zero56 w) (keyU hk)
  rw [h3] at h5
  rw [h4, lit_inj h5]
theorem MK.lt {w : World} {b n : Nat} {f : Int → Int} (h : MK w b n f) : b < w.heap.size := by obtain ⟨D, h1, _⟩ := h; exact h1.lt
theorem MK.kept {w w' : World} {b n : Nat} {f : Int → Int} (h : MK w b n f) (hb : Below w.heap.size w w') : MK w' b n f := by
  obtain ⟨D, h1, h2⟩ := h
  exact ⟨D, h1.kept (row := none) ⟨hb.os, hb.tape, hb.output, hb.size, fun k hk _ => hb.block k hk⟩ (by simp), h2⟩
theorem MK.put {w : World} {b n : Nat} {f : Int → Int} (h : MK w b n f) {k : Int} (hk : K64 k) (x : Int) (hx : (Lit.int .i64 x).wf = true) (hn : n < 1000000) : ∃ w', (Instr.mapUpdate 97 (.map (some b)) (.int .u64 k) (.int .i64 x)).run Try.prog w = .ok () w' ∧ MK w' b (n + 1) (fun j => if j = k then x else f j) ∧ w.grownBy w' (some b) := by
  obtain ⟨D, h1, h2, h3⟩ := h
  obtain ⟨w', h4, h5, h6⟩ := h1.update lawU Try.underlying97 (by unfold maxLen; omega) (keyU hk) (plainElem_int Try.underlying56 hx)
  refine ⟨w', h4, ⟨_, h5, h2.put _ _, fun j => ?_⟩, h6⟩
  dsimp only
  by_cases hj : j = k
  · subst hj
    rw [if_pos rfl, Go.Maps.atKey_put_same (k := .int .u64 j) h2 (show WideAt.IsKeyLit (.int .u64 j) from trivial)]
  · rw [if_neg hj, Go.Maps.atKey_put_other (by intro e; injection e with _ e; exact hj e), h3]
theorem grown_above {w w' : World} {b L : Nat} (hg : w.grownBy w' (some b)) (hb : L ≤ b) (hs : L ≤ w.heap.size) : Below L w w' :=
  ⟨hg.os, hg.tape, hg.output, hg.size, fun k hk => hg.block k (Nat.lt_of_lt_of_le hk hs) (by intro e; injection e; omega)⟩
end Go.Proofs.Ytifenpmkbnohhaa
namespace Go.Proofs.Ytifenpmkbnohhaa
open Go.RowKit
open Go.Proofs.StackM
set_option linter.unusedVariables false
/-- a row of keys that was made -/
def KPost (w : World) (l : List Int) (e : Ending) (w' : World) : Prop := ∃ A n c, e = .returned (.slice A n c) ∧ n = l.length ∧ URow w' A c l ∧ Below w.heap.size w w'
set_option maxHeartbeats 1000000 in
set_option maxRecDepth 100000 in
theorem keysOf_at (l : List Pg) (A : Option Addr) (n cap : Nat) (hn : n = l.length) (hb : n ≤ 800000) (w : World) (hr : PRow w A cap l) :
    Calls Try.prog 52 #[.slice A n cap] w (KPost w (l.map Pg.key)) := by
  obtain ⟨i0, hi, hz0, hz1, hz2⟩ := info_parts infoU
  have HN := Lib.hid hn
  have HP := Lib.hid hr
  have hb2 : i0.bytes * n ≤ 281474976710656 := by rw [hz2]; omega
  clear hn hr
  show Calls Try.prog 52 #[.slice A n cap] w fun e w' => KPost w (l.map Pg.key) e w'
  go_enter Try.func52, Try.ntmps52
  go_wp2_with (first | (at_make; refine wpList_make_own _ rfl _ _ 26 rfl w.heap.size 27 i0 _ 1 Try.underlying26 hi hz0 hz1 .i64 .i64 (n : Int) n rfl rfl rfl hb2 (by unfold maxLen; omega) (Nat.le_refl _) ?_; intro w1 ho1 hg1))
  have HO1 := Lib.hid (And.intro ho1 hg1)
  clear ho1 hg1
  go_loopw [3, 5, 11] (fun v _ i wr => ∃ (m : Nat) (B : Option Addr) (c : Nat), m ≤ n ∧ i = .int .i64 (m : Int) ∧ v = .slice B m c ∧ Hid (wr.ownsRow w.heap.size 27 1 (.slice B m c) m (uvals ((l.take m).map Pg.key)) ∧ Below w.heap.size w wr)) (fun _ _ i _ => n - (intOf i).toNat)
  case atStart => exact ⟨0, some ⟨w.heap.size, 0, none⟩, n, by omega, by go_num, rfl, Lib.hid ⟨HO1.out.1, (Below.refl _ _).grown HO1.out.2 (Nat.le_refl _) (by intro k hk; cases hk)⟩⟩
  case round =>
    obtain ⟨m, B, c, hm, rfl, rfl, HB⟩ := hrel
    by_cases hlt : m < n
    · have hml : m < l.length := by have := HN.out; omega
      obtain ⟨b, off, rfl, hc⟩ := (PRow.kept HP.out HB.out.2).at hml
      obtain ⟨c0, c1, c2, c3⟩ := hc m hml
      obtain ⟨p, hp⟩ : ∃ p, p = l[m] := ⟨_, rfl⟩
      rw [← hp] at c0 c1 c2 c3
      have HY := Lib.hid hp
      have b2 := alloc_below wr (.cells #[.int .u64 p.key, .int .i64 p.kind, .bool p.test, .bool p.mark] 59)
      have hg := heap_alloc_new wr (.cells #[.int .u64 p.key, .int .i64 p.kind, .bool p.test, .bool p.mark] 59)
      obtain ⟨w2, hw2⟩ : ∃ w2, w2 = wr.alloc (.cells #[.int .u64 p.key, .int .i64 p.kind, .bool p.test, .bool p.mark] 59) := ⟨_, rfl⟩
      obtain ⟨g, hge⟩ : ∃ g, g = wr.heap.size := ⟨_, rfl⟩
      rw [← hw2, ← hge] at hg
      rw [← hw2] at b2
      have i0 : w2.cell? ⟨g, 0, none⟩ = some (.int .u64 p.key) := by rw [cell_of_head hg]; rfl
      have HW := Lib.hid (And.intro hw2 hge)
      have o2 := own_below HB.out.1 b2
      obtain ⟨g', cap', w5, hrun, ho5, hg5, hf5⟩ := appU1 p.key o2 (Nat.le_trans HB.out.2.size b2.size) (by omega)
      have HR := Lib.hid hrun
      have htk : (l.take (m + 1)).map Pg.key = (l.take m).map Pg.key ++ [p.key] := by rw [List.take_add_one, List.getElem?_eq_getElem hml, Option.toList_some, List.map_append, HY.out]; rfl
      have H5 := Lib.hid (And.intro (show w5.ownsRow w.heap.size 27 1 (.slice (some ⟨g', 0, none⟩) (m + 1) cap') (m + 1) (uvals ((l.take (m + 1)).map Pg.key)) by rw [htk]; exact ho5) ((HB.out.2.trans (b2.mono HB.out.2.size)).trans (grown_below o2 hg5 (Nat.le_trans HB.out.2.size b2.size))))
      clear hc hp b2 hg hw2 hge o2 hrun ho5 hg5 hf5 htk
      go_wp2_with (first | (at_builtin; refine append_run rfl (.tmp 15) (.tmp 18) 26 rfl rfl rfl HR.out ?_) | (refine st59n rfl (.tmp 5) (.tmp 14) rfl _ _ _ _ rfl rfl _ rfl ?_; rw [← HW.out.1, ← HW.out.2]))
      go_round
      case rel => exact ⟨m + 1, some ⟨g', 0, none⟩, cap', by omega, by go_num, rfl, H5⟩
      case measure => simp only [intOf]; omega
    · obtain rfl : m = n := by omega
      go_wp2_with fail
      go_ret
      obtain ⟨A', c', e, _, hv, _⟩ := owns_vrow HB.out.1
      injection e with e1 _ e2
      subst e1 e2
      have ht : l.take m = l := List.take_of_length_le (by have := HN.out; omega)
      refine ⟨_, _, _, rfl, by rw [List.length_map]; exact HN.out, ?_, HB.out.2⟩
      rw [ht] at hv
      exact hv
theorem run_makeMapN {P : Program} {t k e : TypeId} (hu : P.underlying t = some (.map k e)) (q : IntKind) (n : Int) (w : World) : (Instr.makeMap t (some (.int q n))).run P w = .ok (.map (some w.heap.size)) (w.alloc (.map #[] 0)) := by
  simp [Instr.makeMap, run_underlying hu, asInt, asIntOf, Result.andThen]
theorem take_mem {l : List Int} {m : Nat} (hm : m < l.length) (j : Int) : (j ∈ l.take (m + 1)) ↔ (j = l[m] ∨ j ∈ l.take m) := by
  rw [List.take_add_one, List.getElem?_eq_getElem hm, Option.toList_some, List.mem_append, List.mem_singleton]
  exact Or.comm
set_option maxHeartbeats 1000000 in
set_option maxRecDepth 100000 in
theorem unlike_at (l : List Int) (A : Option Addr) (n cap : Nat) (hn : n = l.length) (hb : n ≤ 800000) (hk : ∀ k ∈ l, K64 k) (w : World) (hr : URow w A cap l) :
    Calls Try.prog 51 #[.slice A n cap] w fun e w' => e = .returned (.bool (decide l.Nodup)) ∧ Below w.heap.size w w' := by
  obtain ⟨r, hrr⟩ : ∃ r, r = decide l.Nodup := ⟨_, rfl⟩
  rw [← hrr]
  have HR := Lib.hid hrr
  have HN := Lib.hid hn
  have HP := Lib.hid (And.intro hr hk)
  clear hrr hn hr hk
  have hmm := fun (n : Int) (w : World) => run_makeMapN (P := Try.prog) Try.underlying96 .i64 n w
  go_enter Try.func51, Try.ntmps51
  go_wp2_with fail
  have hb1 := alloc_below w (.map #[] 0)
  have hm1 := MB.made w
  go_loopw [5, 11] (fun _ i wr => ∃ m : Nat, m ≤ n ∧ i = .int .i64 (m : Int) ∧ Hid (MB wr w.heap.size m (fun j => decide (j ∈ l.take m)) ∧ Below w.heap.size w wr) ∧ Hid (l.take m).Nodup) (fun _ i _ => n - (intOf i).toNat)
  case atStart => exact ⟨0, by omega, by go_num, Lib.hid ⟨by simpa using hm1, hb1⟩, Lib.hid (by simp)⟩
  case round =>
    clear hb1 hm1 hmm
    obtain ⟨m, hm, rfl, HB, HD⟩ := hrel
    by_cases hlt : m < n
    · have hml : m < l.length := by have := HN.out; omega
      obtain ⟨b, off, rfl, hc⟩ := (URow.kept HP.out.1 HB.out.2).at hml
      have c0 := hc m hml
      obtain ⟨y, hy⟩ : ∃ y, y = l[m] := ⟨_, rfl⟩
      rw [← hy] at c0
      have HY := Lib.hid hy
      have hyk : K64 y := by rw [hy]; exact HP.out.2 _ (List.getElem_mem hml)
      have q1 := HB.out.1.look hyk
      try dsimp only at q1
      have hnd : (l.take (m + 1)).Nodup ↔ (y ∉ l.take m ∧ (l.take m).Nodup) := by
        rw [List.take_add_one, List.getElem?_eq_getElem hml, Option.toList_some, List.nodup_append, ← hy]
        constructor
        · rintro ⟨h1, _, h3⟩
          exact ⟨fun h => h3 y h y (by simp) rfl, h1⟩
        · rintro ⟨h1, h2⟩
          exact ⟨h2, by simp, fun a ha b hb e => h1 (by simp at hb; rw [← hb, ← e]; exact ha)⟩
      have HND := Lib.hid hnd
      obtain ⟨w2, q2, hm2, hg2⟩ := HB.out.1.put hyk true (by omega)
      have hm3 : MB w2 w.heap.size (m + 1) (fun j => decide (j ∈ l.take (m + 1))) := by
        have : (fun j => if j = y then true else decide (j ∈ l.take m)) = (fun j => decide (j ∈ l.take (m + 1))) := by
          funext j
          by_cases hj : j = y
          · rw [if_pos hj, decide_eq_true ((take_mem hml j).2 (.inl (by rw [← hy]; exact hj)))]
          · rw [if_neg hj]
            apply decide_eq_decide.2
            rw [take_mem hml j, ← hy]
            exact ⟨.inr, fun h => h.resolve_left hj⟩
        rw [← this]
        exact hm2
      have H2 := Lib.hid (And.intro hm3 (HB.out.2.trans (grown_above hg2 (Nat.le_refl _) HB.out.2.size)))
      clear hc hy hyk hnd hm2 hg2 hm3
      by_cases hin : y ∈ l.take m
      · rw [decide_eq_true hin] at q1
        have HE : Hid (r = false) := Lib.hid (by
          rw [HR.out]
          exact decide_eq_false (fun h => (HND.out.1 (h.sublist (List.take_sublist _ _))).1 hin))
        clear q2 hin
        go_wp2_with fail
        go_ret
        exact ⟨by rw [HE.out]; rfl, HB.out.2⟩
      · rw [decide_eq_false hin] at q1
        have HNI := Lib.hid hin
        clear hin
        go_wp2_with fail
        go_round
        case rel => exact ⟨m + 1, by omega, by go_num, H2, Lib.hid (HND.out.2 ⟨HNI.out, HD.out⟩)⟩
        case measure => simp only [intOf]; omega
    · obtain rfl : m = n := by omega
      go_wp2_with fail
      go_ret
      have ht : l.take m = l := List.take_of_length_le (by have := HN.out; omega)
      refine ⟨?_, HB.out.2⟩
      have : r = true := by rw [HR.out, ← ht]; exact decide_eq_true HD.out
      rw [this]
      rfl
end Go.Proofs.Ytifenpmkbnohhaa
namespace Go.Proofs.Ytifenpmkbnohhaa
open Go.RowKit
open Go.Proofs.StackM
set_option linter.unusedVariables false
def badq (s : St) (k : Int) : Prop := pkind s.pg k = 1 ∨ pkind s.pg k = 3
instance (s : St) (k : Int) : Decidable (badq s k) := by unfold badq; infer_instance
def colds (pg : List Pg) (l : List Int) : Nat := l.countP fun k => decide (pkind pg k = 2)
/-- do the rows agree, as the program asks it -/
def Ag (s : St) : Prop := (∀ k ∈ s.qu, ¬ badq s k) ∧ (∀ k ∈ s.gh, pkind s.pg k = 3) ∧ colds s.pg s.qu = many s.pg 2 ∧ s.gh.length = many s.pg 3
instance (s : St) : Decidable (Ag s) := by unfold Ag; infer_instance
theorem pkind_take {l : List Pg} (hn : (l.map Pg.key).Nodup) {m : Nat} (hm : m < l.length) (j : Int) : pkind (l.take (m + 1)) j = if j = l[m].key then l[m].kind else pkind (l.take m) j := by
  have hcat : l.take (m + 1) = l.take m ++ [l[m]] := by rw [List.take_add_one, List.getElem?_eq_getElem hm]; rfl
  unfold pkind
  rw [hcat, List.find?_append]
  by_cases hj : j = l[m].key
  · rw [if_pos hj]
    have hno : (l.take m).find? (fun p => decide (p.key = j)) = none := by
      rw [List.find?_eq_none]
      intro p hp
      obtain ⟨i, hi, e⟩ := List.mem_take_iff_getElem.1 hp
      simp only [decide_eq_true_eq]
      intro e2
      have := key_inj hn (show i < l.length by omega) hm (by rw [e, e2, hj])
      omega
    rw [hno]
    simp [hj]
  · rw [if_neg hj]
    cases h : (l.take m).find? (fun p => decide (p.key = j)) with
    | some p => rfl
    | none =>
      have h2 : ¬ l[m].key = j := fun e => hj e.symm
      simp [h2]
theorem Box.viaBlock {w w' : World} {b : Nat} {cs : Array Value} (h : Box w b cs) {g : Nat} (hg : w.grownBy w' (some g)) (hne : b ≠ g) : Box w' b cs :=
  ⟨by rw [hg.block b h.lt (by intro e; injection e with e; exact hne e)]; exact h.1, h.2⟩
set_option maxHeartbeats 1000000 in
set_option maxRecDepth 100000 in
theorem agree_at (s : St) (r : R3) (hl : Lim s 100000) (hn : (s.pg.map Pg.key).Nodup) (hkd : ∀ p ∈ s.pg, 1 ≤ p.kind ∧ p.kind ≤ 3) (hkp : ∀ p ∈ s.pg, K64 p.key) (hkq : ∀ k ∈ s.qu, K64 k) (hkg : ∀ k ∈ s.gh, K64 k) (w : World) (hr : SR w s r) :
    Calls Try.prog 53 #[sV s r] w fun e w' => e = .returned (.bool (decide (Ag s))) ∧ Below w.heap.size w w' := by
  obtain ⟨z, hz⟩ : ∃ z, z = decide (Ag s) := ⟨_, rfl⟩
  rw [← hz]
  have hmm := fun (n : Int) (w : World) => run_makeMapN (P := Try.prog) Try.underlying97 .i64 n w
  have b1 := alloc_below w (.cells (sA s r) 31)
  have x1 := box_alloc w (sA s r) (sA_len _ _)
  obtain ⟨w1, hw1⟩ : ∃ w1, w1 = w.alloc (.cells (sA s r) 31) := ⟨_, rfl⟩
  rw [← hw1] at b1 x1
  have hs1 : w1.heap.size = w.heap.size + 1 := by rw [hw1]; simp
  have b2 := alloc_below w1 (.map #[] 0)
  have x2 := x1.kept b2 x1.lt
  have m2 := MK.made w1
  obtain ⟨w2, hw2⟩ : ∃ w2, w2 = w1.alloc (.map #[] 0) := ⟨_, rfl⟩
  rw [← hw2] at b2 x2 m2
  obtain ⟨g, hg⟩ : ∃ g, g = w.heap.size := ⟨_, rfl⟩
  obtain ⟨gm, hgm⟩ : ∃ g, g = w1.heap.size := ⟨_, rfl⟩
  rw [← hg] at x1 x2
  rw [← hgm] at m2
  have d5 := at5 x1
  have e5 := at5 x2
  obtain ⟨pn, hpn⟩ : ∃ n : Nat, n = s.pg.length := ⟨_, rfl⟩
  obtain ⟨qn, hqn⟩ : ∃ n : Nat, n = s.qu.length := ⟨_, rfl⟩
  obtain ⟨gn, hgn⟩ : ∃ n : Nat, n = s.gh.length := ⟨_, rfl⟩
  rw [← hpn] at d5 e5
  have hpb : pn ≤ 100000 := by rw [hpn]; exact hl.1
  have hqb : qn ≤ 100000 := by rw [hqn]; exact hl.2.1
  have hgb : gn ≤ 100000 := by rw [hgn]; exact hl.2.2
  have hne : g ≠ gm := by omega
  have HZ := Lib.hid hz
  have HS := Lib.hid (And.intro hpn (And.intro hqn hgn))
  have HK := Lib.hid (And.intro hn (And.intro hkd (And.intro hkp (And.intro hkq hkg))))
  have HR := Lib.hid hr
  have HW := Lib.hid (And.intro hw1 (And.intro hg (And.intro hw2 hgm)))
  have H2 := Lib.hid (And.intro x2 (And.intro m2 (b1.trans (b2.mono b1.size))))
  have HG := Lib.hid (And.intro hne (show w.heap.size ≤ gm by omega))
  clear hz b1 x1 b2 x2 m2 hpn hqn hgn hn hkd hkp hkq hkg hr hw1 hw2 hg hgm hs1 hl hne
  go_enter Try.func53, Try.ntmps53
  go_wp2_with (first | fail | rw [← HW.out.1, ← HW.out.2.1] | rw [← HW.out.2.2.1, ← HW.out.2.2.2])
  go_loopw [5, 18] (fun _ i wr => ∃ m : Nat, m ≤ pn ∧ i = .int .i64 (m : Int) ∧ Hid (Box wr g (sA s r) ∧ MK wr gm m (pkind (s.pg.take m)) ∧ Below w.heap.size w wr)) (fun _ i _ => pn - (intOf i).toNat)
  case atStart => exact ⟨0, by omega, by go_num, Lib.hid ⟨H2.out.1, H2.out.2.1, H2.out.2.2⟩⟩
  case round =>
    obtain ⟨m, hm, rfl, HB⟩ := hrel
    clear d5 e5 hmm
    by_cases hlt : m < pn
    · have hml : m < s.pg.length := by have := HS.out.1; omega
      obtain ⟨b, off, ha, hc⟩ := (PRow.kept HR.out.pg.row HB.out.2.2).at hml
      obtain ⟨c0, c1, c2, c3⟩ := hc m hml
      obtain ⟨p, hp⟩ : ∃ p, p = s.pg[m] := ⟨_, rfl⟩
      rw [← hp] at c0 c1 c2 c3
      have HY := Lib.hid hp
      have HA := Lib.hid ha
      have hyk : K64 p.key := by rw [hp]; exact HK.out.2.2.1 _ (List.getElem_mem hml)
      have hyd := HK.out.2.1 _ (List.getElem_mem hml)
      rw [← hp] at hyd
      have b3 := alloc_below wr (.cells #[.int .u64 p.key, .int .i64 p.kind, .bool p.test, .bool p.mark] 59)
      have hg3 := heap_alloc_new wr (.cells #[.int .u64 p.key, .int .i64 p.kind, .bool p.test, .bool p.mark] 59)
      obtain ⟨w3, hw3⟩ : ∃ w3, w3 = wr.alloc (.cells #[.int .u64 p.key, .int .i64 p.kind, .bool p.test, .bool p.mark] 59) := ⟨_, rfl⟩
      obtain ⟨g3, hg3e⟩ : ∃ g, g = wr.heap.size := ⟨_, rfl⟩
      rw [← hw3, ← hg3e] at hg3
      rw [← hw3] at b3
      have i0 : w3.cell? ⟨g3, 0, none⟩ = some (.int .u64 p.key) := by rw [cell_of_head hg3]; rfl
      have i1 : w3.cell? ⟨g3, 1, none⟩ = some (.int .i64 p.kind) := by rw [cell_of_head hg3]; rfl
      have HW3 := Lib.hid (And.intro hw3 hg3e)
      have m3 := HB.out.2.1.kept b3
      have x3 := HB.out.1.kept b3 HB.out.1.lt
      obtain ⟨w4, q4, m4, hg4⟩ := m3.put hyk p.kind ((Lit.wf_int_iff .i64 p.kind).2 ⟨by show (-9223372036854775808 : Int) ≤ _; omega, by show _ ≤ (9223372036854775807 : Int); omega⟩) (by omega)
      have hf : (fun j => if j = p.key then p.kind else pkind (s.pg.take m) j) = pkind (s.pg.take (m + 1)) := by
        funext j
        rw [pkind_take HK.out.1 hml j, ← hp]
      rw [hf] at m4
      have H4 := Lib.hid (And.intro (x3.viaBlock hg4 HG.out.1) (And.intro m4 ((HB.out.2.2.trans (b3.mono HB.out.2.2.size)).trans (grown_above hg4 HG.out.2 (Nat.le_trans HB.out.2.2.size b3.size)))))
      clear hc hp hyk hyd b3 hg3 hw3 hg3e m3 x3 m4 hg4 hf
      rw [HA.out]
      clear ha
      go_wp2_with (first | fail | (refine st59n rfl (.tmp 5) (.tmp 21) rfl _ _ _ _ rfl rfl _ rfl ?_; rw [← HW3.out.1, ← HW3.out.2]))
      go_round
      case rel => exact ⟨m + 1, by omega, by go_num, H4⟩
      case measure => simp only [intOf]; omega
    · obtain rfl : m = pn := by omega
      have ht : s.pg.take m = s.pg := List.take_of_length_le (by have := HS.out.1; omega)
      have hB := HB.out
      rw [ht] at hB
      have H5 := Lib.hid hB
      have d6 := at6 H5.out.1
      rw [← HS.out.2.1] at d6
      clear hB ht
      go_wp2_with fail
      go_loopw [6, 8, 31] (fun c _ i wr2 => ∃ m2 : Nat, m2 ≤ qn ∧ i = .int .i64 (m2 : Int) ∧ c = .int .i64 (colds s.pg (s.qu.take m2) : Int) ∧ wr2 = wr ∧ Hid (∀ j (h1 : j < m2) (h2 : j < s.qu.length), ¬ badq s s.qu[j])) (fun _ _ i _ => qn - (intOf i).toNat)
      case atStart => exact ⟨0, by omega, by go_num, by simp [colds], by first | rfl | trivial, Lib.hid (fun j h1 => absurd h1 (by omega))⟩
      case round =>
        clear d6
        obtain ⟨m2, hm2, rfl, rfl, rfl, HQ⟩ := hrel
        obtain ⟨cn, hcn⟩ : ∃ c : Nat, c = colds s.pg (s.qu.take m2) := ⟨_, rfl⟩
        rw [← hcn]
        have hcb : cn ≤ 100000 := by rw [hcn]; unfold colds; have := List.countP_le_length (l := s.qu.take m2) (p := fun k => decide (pkind s.pg k = 2)); have := List.length_take_le m2 s.qu; omega
        have HCN := Lib.hid hcn
        clear hcn
        by_cases hlt2 : m2 < qn
        · have hml : m2 < s.qu.length := by have := HS.out.2.1; omega
          obtain ⟨b, off, ha, hc⟩ := (URow.kept HR.out.qu.row H5.out.2.2).at hml
          have c0 := hc m2 hml
          obtain ⟨y, hy⟩ : ∃ y, y = s.qu[m2] := ⟨_, rfl⟩
          rw [← hy] at c0
          have HY := Lib.hid hy
          have hyk : K64 y := by rw [hy]; exact HK.out.2.2.2.1 _ (List.getElem_mem hml)
          have q5 := H5.out.2.1.look hyk
          obtain ⟨kd, hkd⟩ : ∃ kd, kd = pkind s.pg y := ⟨_, rfl⟩
          rw [← hkd] at q5
          have HKD := Lib.hid hkd
          have hstep : colds s.pg (s.qu.take (m2 + 1)) = cn + if kd = 2 then 1 else 0 := by
            rw [HCN.out]
            unfold colds
            rw [List.take_add_one, List.getElem?_eq_getElem hml, Option.toList_some, List.countP_append, ← hy, hkd]
            simp [List.countP_cons]
          have HST := Lib.hid hstep
          clear hc hy hyk hkd hstep
          rw [ha]
          clear ha
          by_cases h2 : kd = 2
          · have hok : ¬ badq s s.qu[m2] := by rw [← HY.out]; unfold badq; rw [← HKD.out, h2]; decide
            have HO := Lib.hid hok
            have HST2 : Hid (colds s.pg (s.qu.take (m2 + 1)) = cn + 1) := Lib.hid (by rw [HST.out, if_pos h2])
            subst h2
            clear hok HST
            go_wp2_with fail
            go_round
            case rel => exact ⟨m2 + 1, by omega, by go_num, by rw [HST2.out]; go_num, by first | rfl | trivial, Lib.hid (fun j h1 h2 => by
              rcases Nat.lt_succ_iff_lt_or_eq.1 h1 with h | rfl
              · exact HQ.out j h h2
              · exact HO.out)⟩
            case measure => simp only [intOf]; omega
          · have e2 : (kd == 2) = false := by simpa using h2
            by_cases h1 : kd = 1
            · have HE : Hid (z = false) := Lib.hid (by
                rw [HZ.out]
                exact decide_eq_false (fun h => h.1 s.qu[m2] (List.getElem_mem hml) (by rw [← HY.out]; exact .inl (by rw [← HKD.out]; exact h1))))
              subst h1
              go_wp2_with fail
              go_ret
              exact ⟨by rw [HE.out]; rfl, H5.out.2.2⟩
            · have e1 : (kd == 1) = false := by simpa using h1
              by_cases h3 : kd = 3
              · have HE : Hid (z = false) := Lib.hid (by
                  rw [HZ.out]
                  exact decide_eq_false (fun h => h.1 s.qu[m2] (List.getElem_mem hml) (by rw [← HY.out]; exact .inr (by rw [← HKD.out]; exact h3))))
                subst h3
                go_wp2_with fail
                go_ret
                exact ⟨by rw [HE.out]; rfl, H5.out.2.2⟩
              · have e3 : (kd == 3) = false := by simpa using h3
                have hok : ¬ badq s s.qu[m2] := by rw [← HY.out]; unfold badq; rw [← HKD.out]; exact fun h => h.elim h1 h3
                have HO := Lib.hid hok
                have HST2 : Hid (colds s.pg (s.qu.take (m2 + 1)) = cn) := Lib.hid (by rw [HST.out, if_neg h2]; rfl)
                clear hok HST
                go_wp2_with fail
                go_round
                case rel => exact ⟨m2 + 1, by omega, by go_num, by rw [HST2.out], by first | rfl | trivial, Lib.hid (fun j h1 h2 => by
                  rcases Nat.lt_succ_iff_lt_or_eq.1 h1 with h | rfl
                  · exact HQ.out j h h2
                  · exact HO.out)⟩
                case measure => simp only [intOf]; omega
        · obtain rfl : m2 = qn := by omega
          have ht : s.qu.take m2 = s.qu := List.take_of_length_le (by have := HS.out.2.1; omega)
          have hcn2 : cn = colds s.pg s.qu := by rw [HCN.out, ht]
          have HCN2 := Lib.hid hcn2
          have d7 := at7 H5.out.1
          rw [← HS.out.2.2] at d7
          clear ht hcn2 HCN
          go_wp2_with fail
          go_loopw [10, 49] (fun _ i wr2 => ∃ m3 : Nat, m3 ≤ gn ∧ i = .int .i64 (m3 : Int) ∧ wr2 = wr ∧ Hid (∀ j (h1 : j < m3) (h2 : j < s.gh.length), pkind s.pg s.gh[j] = 3)) (fun _ i _ => gn - (intOf i).toNat)
          case atStart => exact ⟨0, by omega, by go_num, by first | rfl | trivial, Lib.hid (fun j h1 => absurd h1 (by omega))⟩
          case round =>
            clear d7
            obtain ⟨m3, hm3, rfl, rfl, HQ3⟩ := hrel
            by_cases hlt3 : m3 < gn
            · have hml : m3 < s.gh.length := by have := HS.out.2.2; omega
              obtain ⟨b, off, ha, hc⟩ := (URow.kept HR.out.gh.row H5.out.2.2).at hml
              have c0 := hc m3 hml
              obtain ⟨y, hy⟩ : ∃ y, y = s.gh[m3] := ⟨_, rfl⟩
              rw [← hy] at c0
              have HY := Lib.hid hy
              have hyk : K64 y := by rw [hy]; exact HK.out.2.2.2.2 _ (List.getElem_mem hml)
              have q5 := H5.out.2.1.look hyk
              obtain ⟨kd, hkd⟩ : ∃ kd, kd = pkind s.pg y := ⟨_, rfl⟩
              rw [← hkd] at q5
              have HKD := Lib.hid hkd
              clear hc hy hyk hkd
              rw [ha]
              clear ha
              by_cases h3 : kd = 3
              · have HO : Hid (pkind s.pg s.gh[m3] = 3) := Lib.hid (by rw [← HY.out, ← HKD.out]; exact h3)
                subst h3
                go_wp2_with fail
                go_round
                case rel => exact ⟨m3 + 1, by omega, by go_num, by first | rfl | trivial, Lib.hid (fun j h1 h2 => by
                  rcases Nat.lt_succ_iff_lt_or_eq.1 h1 with h | rfl
                  · exact HQ3.out j h h2
                  · exact HO.out)⟩
                case measure => simp only [intOf]; omega
              · have e3 : (kd == 3) = false := by simpa using h3
                have HE : Hid (z = false) := Lib.hid (by
                  rw [HZ.out]
                  exact decide_eq_false (fun h => h3 (by rw [HKD.out, HY.out]; exact h.2.1 s.gh[m3] (List.getElem_mem hml))))
                go_wp2_with fail
                go_ret
                exact ⟨by rw [HE.out]; rfl, H5.out.2.2⟩
            · obtain rfl : m3 = gn := by omega
              obtain ⟨k2, hk2⟩ : ∃ k2, k2 = many s.pg 2 := ⟨_, rfl⟩
              obtain ⟨k3, hk3⟩ : ∃ k3, k3 = many s.pg 3 := ⟨_, rfl⟩
              have hag : z = decide (cn = k2 ∧ m3 = k3) := by
                rw [HZ.out]
                apply decide_eq_decide.2
                unfold Ag
                rw [← HCN2.out, ← HS.out.2.2, ← hk2, ← hk3]
                constructor
                · exact fun h => h.2.2
                · refine fun h => ⟨fun k hk => ?_, fun k hk => ?_, h⟩
                  · obtain ⟨j, hj, rfl⟩ := List.getElem_of_mem hk
                    exact HQ.out j (by have := HS.out.2.1; omega) hj
                  · obtain ⟨j, hj, rfl⟩ := List.getElem_of_mem hk
                    exact HQ3.out j (by have := HS.out.2.2; omega) hj
              have hpr : ∀ V, Below wr.heap.size wr V → PRow V r.a1 r.c1 s.pg := fun V hV => PRow.kept (PRow.kept HR.out.pg.row H5.out.2.2) hV
              have C2 := Lib.hid (grown_call (w := wr) (f := 62) (args := #[.slice r.a1 m r.c1, .int .i64 2]) (fun V hV => count_at s.pg 2 r.a1 m r.c1 HS.out.1 (by omega) V (hpr V hV)))
              have C3 := Lib.hid (grown_call (w := wr) (f := 62) (args := #[.slice r.a1 m r.c1, .int .i64 3]) (fun V hV => count_at s.pg 3 r.a1 m r.c1 HS.out.1 (by omega) V (hpr V hV)))
              rw [← hk2] at C2
              rw [← hk3] at C3
              have hbx : ∀ V, Below wr.heap.size wr V → Box V g (sA s r) := fun V hV => H5.out.1.kept hV H5.out.1.lt
              have y5 : ∀ p : GrB wr, p.v.cell? ⟨g, 5, none⟩ = some (.slice r.a1 m r.c1) := fun p => by have := at5 (hbx _ p.h); rw [← HS.out.1] at this; exact this
              have y7 : ∀ p : GrB wr, p.v.cell? ⟨g, 7, none⟩ = some (.slice r.a3 m3 r.c3) := fun p => by have := at7 (hbx _ p.h); rw [← HS.out.2.2] at this; exact this
              have HAG := Lib.hid hag
              clear hk2 hk3 hag hpr hbx
              by_cases h2 : cn = k2
              · subst h2
                have hd : ((cn : Int) == (cn : Int)) = true := by simp
                by_cases h3 : m3 = k3
                · subst h3
                  have HE : Hid (z = true) := Lib.hid (by rw [HAG.out]; exact decide_eq_true ⟨rfl, rfl⟩)
                  go_wp2_with fail
                  refine region_grown (by kernel_rfl) (by kernel_rfl) ?_
                  repeat (go_big_quiet_step (first | (go_at_call 62; first | with_reducible exact C2.out _ | with_reducible exact C3.out _)))
                  refine wpQuiet_nil ?_
                  rintro w9 ⟨p9, hp9⟩
                  have hb9 : Below wr.heap.size wr w9 := hp9 ▸ p9.h
                  clear hp9 p9 y5 y7
                  go_wp2_with fail
                  go_ret
                  exact ⟨by rw [HE.out]; rfl, H5.out.2.2.trans (hb9.mono H5.out.2.2.size)⟩
                · have HE : Hid (z = false) := Lib.hid (by rw [HAG.out]; exact decide_eq_false (fun h => h3 h.2))
                  have hd3 : ((m3 : Int) == (k3 : Int)) = false := beq_eq_false_iff_ne.2 (by omega)
                  go_wp2_with fail
                  refine region_grown (by kernel_rfl) (by kernel_rfl) ?_
                  repeat (go_big_quiet_step (first | (go_at_call 62; first | with_reducible exact C2.out _ | with_reducible exact C3.out _)))
                  refine wpQuiet_nil ?_
                  rintro w9 ⟨p9, hp9⟩
                  have hb9 : Below wr.heap.size wr w9 := hp9 ▸ p9.h
                  clear hp9 p9 y5 y7
                  go_wp2_with fail
                  go_ret
                  exact ⟨by rw [HE.out]; rfl, H5.out.2.2.trans (hb9.mono H5.out.2.2.size)⟩
              · have HE : Hid (z = false) := Lib.hid (by rw [HAG.out]; exact decide_eq_false (fun h => h2 h.1))
                have hd2 : ((cn : Int) == (k2 : Int)) = false := beq_eq_false_iff_ne.2 (by omega)
                go_wp2_with fail
                refine region_grown (by kernel_rfl) (by kernel_rfl) ?_
                repeat (go_big_quiet_step (first | (go_at_call 62; first | with_reducible exact C2.out _ | with_reducible exact C3.out _)))
                refine wpQuiet_nil ?_
                rintro w9 ⟨p9, hp9⟩
                have hb9 : Below wr.heap.size wr w9 := hp9 ▸ p9.h
                clear hp9 p9 y5 y7
                go_wp2_with fail
                go_ret
                exact ⟨by rw [HE.out]; rfl, H5.out.2.2.trans (hb9.mono H5.out.2.2.size)⟩
end Go.Proofs.Ytifenpmkbnohhaa
