/-
  What the program asks of a state: is a hand at a place; does each page stand as one of its kind may; is no key there twice.
  What the program asks of a state: are no more pages hot, kept, gone than may be; is it right.
-/
import Derived.Test.YtejcahkkpednfaaG19
import Derived.Test.YtejcahkkpednfaaG20
import Derived.Test.YtejcahkkpednfaaG06
namespace Go.Proofs.Ytejcahkkpednfaa
open Go.RowKit
open Go.Proofs.StackM (Pg Cf Ct St up many fnd fnd_at fnd_no)
open Go.Proofs.WheelM
set_option linter.unusedVariables false
instance (a n : Int) : Decidable (Hd a n) := by unfold Hd; infer_instance
theorem isHand_at (a : Int) (A : Option Addr) (n cap : Nat) (w : World) : Calls Try.prog 49 #[.int .i64 a, .slice A n cap] w fun e w' => e = .returned (.bool (decide (Hd a n))) ∧ w' = w := by
  by_cases h0 : a = 0
  · subst h0
    rw [decide_eq_true (show Hd 0 n from ⟨by omega, .inr rfl⟩)]
    go_enter Try.func49, Try.ntmps49
    go_wp2_with fail
    go_ret
    exact ⟨rfl, by trivial⟩
  · have h0' : (a == 0) = false := by simpa using h0
    by_cases h1 : 0 < a
    · by_cases h2 : a < (n : Int)
      · rw [decide_eq_true (show Hd a n from ⟨by omega, .inl h2⟩)]
        go_enter Try.func49, Try.ntmps49
        go_wp2_with fail
        go_ret
        exact ⟨rfl, by trivial⟩
      · rw [decide_eq_false (show ¬ Hd a n from fun h => by have := h.2; omega)]
        go_enter Try.func49, Try.ntmps49
        go_wp2_with fail
        go_ret
        exact ⟨rfl, by trivial⟩
    · rw [decide_eq_false (show ¬ Hd a n from fun h => by have h1 := h.1; have h2 := h.2; omega)]
      go_enter Try.func49, Try.ntmps49
      go_wp2_with fail
      go_ret
      exact ⟨rfl, by trivial⟩
def okw (p : Pg) : Bool := decide (Pok p)
set_option maxHeartbeats 2000000 in
set_option maxRecDepth 100000 in
theorem plainW_at (l : List Pg) (A : Option Addr) (n cap : Nat) (hn : n = l.length) (hb : n ≤ 1000000) (w : World) (hr : PRow w A cap l) :
    Calls Try.prog 51 #[.slice A n cap] w fun e w' => e = .returned (.bool (l.all okw)) ∧ Below w.heap.size w w' := by
  obtain ⟨r, hrr⟩ : ∃ r, r = l.all okw := ⟨_, rfl⟩
  rw [← hrr]
  have HR := Lib.hid hrr
  have HN := Lib.hid hn
  have HP := Lib.hid hr
  clear hrr hn hr
  go_enter Try.func51, Try.ntmps51
  go_wp2
  go_loopw [4, 7] (fun _ i wr => ∃ m : Nat, m ≤ n ∧ i = .int .i64 (m : Int) ∧ Hid (Below w.heap.size w wr) ∧ Hid (∀ j (h1 : j < m) (h2 : j < l.length), okw l[j] = true)) (fun _ i _ => n - (intOf i).toNat)
  case atStart => exact ⟨0, by omega, by go_num, Lib.hid (Below.refl _ _), Lib.hid (fun j h1 => absurd h1 (by omega))⟩
  case round =>
    obtain ⟨m, hm, rfl, HB, HK⟩ := hrel
    by_cases hlt : m < n
    · have hml : m < l.length := by have := HN.out; omega
      obtain ⟨b, off, rfl, hc⟩ := (PRow.kept HP.out HB.out).at hml
      obtain ⟨c0, c1, c2, c3⟩ := hc m hml
      obtain ⟨p, hp⟩ : ∃ p, p = l[m] := ⟨_, rfl⟩
      rw [← hp] at c0 c1 c2 c3
      have HY := Lib.hid hp
      obtain ⟨p0, p1, p2, p3⟩ := p
      dsimp only at c0 c1 c2 c3
      have b2 := alloc_below wr (.cells #[.int .u64 p0, .int .i64 p1, .bool p2, .bool p3] 58)
      have HB2 := Lib.hid (HB.out.trans (b2.mono HB.out.size))
      have hg := heap_alloc_new wr (.cells #[.int .u64 p0, .int .i64 p1, .bool p2, .bool p3] 58)
      obtain ⟨w2, hw2⟩ : ∃ w2, w2 = wr.alloc (.cells #[.int .u64 p0, .int .i64 p1, .bool p2, .bool p3] 58) := ⟨_, rfl⟩
      obtain ⟨g, hge⟩ : ∃ g, g = wr.heap.size := ⟨_, rfl⟩
      rw [← hw2, ← hge] at hg
      rw [← hw2] at HB2
      have i1 : w2.cell? ⟨g, 1, none⟩ = some (.int .i64 p1) := by rw [cell_of_head hg]; rfl
      have i2 : w2.cell? ⟨g, 2, none⟩ = some (.bool p2) := by rw [cell_of_head hg]; rfl
      have i3 : w2.cell? ⟨g, 3, none⟩ = some (.bool p3) := by rw [cell_of_head hg]; rfl
      have HW := Lib.hid (And.intro hw2 hge)
      clear hc hp b2 hg hw2 hge
      have hbad : ¬ Pok ⟨p0, p1, p2, p3⟩ → Hid (r = false) := fun h => Lib.hid (by
        rw [HR.out, List.all_eq_false]
        exact ⟨l[m], List.getElem_mem hml, by rw [← HY.out]; unfold okw; simp [h]⟩)
      by_cases h1 : p1 = 1
      · subst h1
        cases p2
        · have hok : okw ⟨p0, 1, false, p3⟩ = true := decide_eq_true (.inl ⟨rfl, rfl⟩)
          have HO := Lib.hid hok
          clear hok hbad
          go_wp2_with (first | fail | (refine st59n rfl (.tmp 4) (.tmp 10) rfl _ _ _ _ rfl rfl _ rfl ?_; rw [← HW.out.1, ← HW.out.2]))
          go_round
          case rel => exact ⟨m + 1, by omega, by go_num, HB2, Lib.hid (fun j h1 h2 => by
            rcases Nat.lt_succ_iff_lt_or_eq.1 h1 with h | rfl
            · exact HK.out j h h2
            · rw [← HY.out]; exact HO.out)⟩
          case measure => simp only [intOf]; omega
        · have HE := hbad (fun h => by unfold Pok at h; simp at h)
          clear hbad
          go_wp2_with (first | fail | (refine st59n rfl (.tmp 4) (.tmp 10) rfl _ _ _ _ rfl rfl _ rfl ?_; rw [← HW.out.1, ← HW.out.2]))
          go_ret
          exact ⟨by rw [HE.out]; rfl, HB2.out⟩
      · have h1' : (p1 == 1) = false := by simpa using h1
        by_cases h2 : p1 = 2
        · subst h2
          clear h1 h1'
          have hok : okw ⟨p0, 2, p2, p3⟩ = true := decide_eq_true (.inr (.inl rfl))
          have HO := Lib.hid hok
          clear hok hbad
          go_wp2_with (first | fail | (refine st59n rfl (.tmp 4) (.tmp 10) rfl _ _ _ _ rfl rfl _ rfl ?_; rw [← HW.out.1, ← HW.out.2]))
          go_round
          case rel => exact ⟨m + 1, by omega, by go_num, HB2, Lib.hid (fun j h1 h2 => by
            rcases Nat.lt_succ_iff_lt_or_eq.1 h1 with h | rfl
            · exact HK.out j h h2
            · rw [← HY.out]; exact HO.out)⟩
          case measure => simp only [intOf]; omega
        · have h2' : (p1 == 2) = false := by simpa using h2
          by_cases h3 : p1 = 3
          · subst h3
            clear h1 h1' h2 h2'
            cases p2
            · have HE := hbad (fun h => by unfold Pok at h; simp at h)
              clear hbad
              go_wp2_with (first | fail | (refine st59n rfl (.tmp 4) (.tmp 10) rfl _ _ _ _ rfl rfl _ rfl ?_; rw [← HW.out.1, ← HW.out.2]))
              go_ret
              exact ⟨by rw [HE.out]; rfl, HB2.out⟩
            · cases p3
              · have hok : okw ⟨p0, 3, true, false⟩ = true := decide_eq_true (.inr (.inr ⟨rfl, rfl, rfl⟩))
                have HO := Lib.hid hok
                clear hok hbad
                go_wp2_with (first | fail | (refine st59n rfl (.tmp 4) (.tmp 10) rfl _ _ _ _ rfl rfl _ rfl ?_; rw [← HW.out.1, ← HW.out.2]))
                go_round
                case rel => exact ⟨m + 1, by omega, by go_num, HB2, Lib.hid (fun j h1 h2 => by
                  rcases Nat.lt_succ_iff_lt_or_eq.1 h1 with h | rfl
                  · exact HK.out j h h2
                  · rw [← HY.out]; exact HO.out)⟩
                case measure => simp only [intOf]; omega
              · have HE := hbad (fun h => by unfold Pok at h; simp at h)
                clear hbad
                go_wp2_with (first | fail | (refine st59n rfl (.tmp 4) (.tmp 10) rfl _ _ _ _ rfl rfl _ rfl ?_; rw [← HW.out.1, ← HW.out.2]))
                go_ret
                exact ⟨by rw [HE.out]; rfl, HB2.out⟩
          · have h3' : (p1 == 3) = false := by simpa using h3
            have HE := hbad (fun h => by unfold Pok at h; simp [h1, h2, h3] at h)
            clear hbad
            go_wp2_with (first | fail | (refine st59n rfl (.tmp 4) (.tmp 10) rfl _ _ _ _ rfl rfl _ rfl ?_; rw [← HW.out.1, ← HW.out.2]))
            go_ret
            exact ⟨by rw [HE.out]; rfl, HB2.out⟩
    · go_wp2
      go_ret
      refine ⟨?_, HB.out⟩
      have : r = true := by
        rw [HR.out, List.all_eq_true]
        intro x hx
        obtain ⟨j, hj, rfl⟩ := List.getElem_of_mem hx
        exact HK.out j (by have := HN.out; omega) hj
      rw [this]
      rfl
theorem run_makeMapN {P : Program} {t k e : TypeId} (hu : P.underlying t = some (.map k e)) (q : IntKind) (n : Int) (w : World) : (Instr.makeMap t (some (.int q n))).run P w = .ok (.map (some w.heap.size)) (w.alloc (.map #[] 0)) := by
  simp [Instr.makeMap, run_underlying hu, asInt, asIntOf, Result.andThen]
theorem take_mem {l : List Int} {m : Nat} (hm : m < l.length) (j : Int) : (j ∈ l.take (m + 1)) ↔ (j = l[m] ∨ j ∈ l.take m) := by
  rw [List.take_add_one, List.getElem?_eq_getElem hm, Option.toList_some, List.mem_append, List.mem_singleton]
  exact Or.comm
set_option maxHeartbeats 2000000 in
set_option maxRecDepth 100000 in
theorem unlikeW_at (pl : List Pg) (A : Option Addr) (n cap : Nat) (hn : n = pl.length) (hb : n ≤ 800000) (hk : ∀ p ∈ pl, K64 p.key) (w : World) (hr : PRow w A cap pl) :
    Calls Try.prog 52 #[.slice A n cap] w fun e w' => e = .returned (.bool (decide (pl.map Pg.key).Nodup)) ∧ Below w.heap.size w w' := by
  obtain ⟨l, hl⟩ : ∃ l, l = pl.map Pg.key := ⟨_, rfl⟩
  rw [← hl]
  obtain ⟨r, hrr⟩ : ∃ r, r = decide l.Nodup := ⟨_, rfl⟩
  rw [← hrr]
  have hll : l.length = pl.length := by rw [hl, List.length_map]
  have HR := Lib.hid hrr
  have HN : Hid (n = l.length) := Lib.hid (by rw [hll]; exact hn)
  have HP := Lib.hid (And.intro hr (And.intro hk (And.intro hl hll)))
  clear hrr hn hr hk hl hll
  have hmm := fun (n : Int) (w : World) => run_makeMapN (P := Try.prog) Try.underlying96 .i64 n w
  go_enter Try.func52, Try.ntmps52
  go_wp2_with fail
  have hb1 := alloc_below w (.map #[] 0)
  have hm1 := MB.made w
  go_loopw [5, 11] (fun _ i wr => ∃ m : Nat, m ≤ n ∧ i = .int .i64 (m : Int) ∧ Hid (MB wr w.heap.size m (fun j => decide (j ∈ l.take m)) ∧ Below w.heap.size w wr) ∧ Hid (l.take m).Nodup) (fun _ i _ => n - (intOf i).toNat)
  case atStart => exact ⟨0, by omega, by go_num, Lib.hid ⟨by simpa using hm1, hb1⟩, Lib.hid (by simp)⟩
  case round =>
    clear hb1 hm1
    obtain ⟨m, hm, rfl, HB, HD⟩ := hrel
    by_cases hlt : m < n
    · have hml : m < l.length := by have := HN.out; omega
      have hmp : m < pl.length := by have := HP.out.2.2.2; omega
      obtain ⟨b, off, rfl, hc⟩ := (PRow.kept HP.out.1 HB.out.2).at hmp
      obtain ⟨c0, c1, c2, c3⟩ := hc m hmp
      obtain ⟨y, hy⟩ : ∃ y, y = l[m] := ⟨_, rfl⟩
      have hyp : pl[m].key = y := by rw [hy]; have := HP.out.2.2.1; simp [this]
      have hyk : K64 y := by rw [← hyp]; exact HP.out.2.1 _ (List.getElem_mem hmp)
      obtain ⟨p, hp⟩ : ∃ p, p = pl[m] := ⟨_, rfl⟩
      rw [← hp] at c0 c1 c2 c3 hyp
      obtain ⟨p0, p1, p2, p3⟩ := p
      dsimp only at c0 c1 c2 c3 hyp
      subst hyp
      have HY := Lib.hid hy
      have b2 := alloc_below wr (.cells #[.int .u64 p0, .int .i64 p1, .bool p2, .bool p3] 58)
      have hmb := HB.out.1.kept b2
      have hbb := HB.out.2.trans (b2.mono HB.out.2.size)
      have hg := heap_alloc_new wr (.cells #[.int .u64 p0, .int .i64 p1, .bool p2, .bool p3] 58)
      obtain ⟨w2, hw2⟩ : ∃ w2, w2 = wr.alloc (.cells #[.int .u64 p0, .int .i64 p1, .bool p2, .bool p3] 58) := ⟨_, rfl⟩
      obtain ⟨g, hge⟩ : ∃ g, g = wr.heap.size := ⟨_, rfl⟩
      rw [← hw2, ← hge] at hg
      rw [← hw2] at hmb hbb
      have HB2 := Lib.hid (And.intro hmb hbb)
      have i0 : w2.cell? ⟨g, 0, none⟩ = some (.int .u64 p0) := by rw [cell_of_head hg]; rfl
      have HW := Lib.hid (And.intro hw2 hge)
      have q1 := hmb.look hyk
      try dsimp only at q1
      have hnd : (l.take (m + 1)).Nodup ↔ (p0 ∉ l.take m ∧ (l.take m).Nodup) := by
        rw [List.take_add_one, List.getElem?_eq_getElem hml, Option.toList_some, List.nodup_append, ← hy]
        constructor
        · rintro ⟨h1, _, h3⟩
          exact ⟨fun h => h3 p0 h p0 (by simp) rfl, h1⟩
        · rintro ⟨h1, h2⟩
          exact ⟨h2, by simp, fun a ha b hb e => h1 (by simp at hb; rw [← hb, ← e]; exact ha)⟩
      have HND := Lib.hid hnd
      obtain ⟨w3, q2, hm2, hg2⟩ := hmb.put hyk true (by omega)
      have hm3 : MB w3 w.heap.size (m + 1) (fun j => decide (j ∈ l.take (m + 1))) := by
        have : (fun j => if j = p0 then true else decide (j ∈ l.take m)) = (fun j => decide (j ∈ l.take (m + 1))) := by
          funext j
          by_cases hj : j = p0
          · rw [if_pos hj, decide_eq_true ((take_mem hml j).2 (.inl (by rw [← hy]; exact hj)))]
          · rw [if_neg hj]
            apply decide_eq_decide.2
            rw [take_mem hml j, ← hy]
            exact ⟨.inr, fun h => h.resolve_left hj⟩
        rw [← this]
        exact hm2
      have i0b : w3.cell? ⟨g, 0, none⟩ = some (.int .u64 p0) := by
        have hne : w.heap.size < g := by rw [hge]; exact HB.out.1.lt
        have h9 : w3.heap[g]? = w2.heap[g]? := hg2.block g (Array.getElem?_eq_some_iff.1 hg).1 (fun e => by injection e with e; omega)
        rw [cell_of_head (h9.trans hg)]; rfl
      have H2 := Lib.hid (And.intro hm3 (hbb.trans (grown_above hg2 (Nat.le_refl _) hbb.size)))
      clear hc hy hyk hnd hm2 hg2 hm3 hp b2 hmb hbb hg hw2 hge
      by_cases hin : p0 ∈ l.take m
      · rw [decide_eq_true hin] at q1
        have HE : Hid (r = false) := Lib.hid (by
          rw [HR.out]
          exact decide_eq_false (fun h => (HND.out.1 (h.sublist (List.take_sublist _ _))).1 hin))
        clear q2 hin i0b
        go_wp2_with (first | fail | (refine st59n rfl (.tmp 5) (.tmp 14) rfl _ _ _ _ rfl rfl _ rfl ?_; rw [← HW.out.1, ← HW.out.2]))
        go_ret
        exact ⟨by rw [HE.out]; rfl, HB2.out.2⟩
      · rw [decide_eq_false hin] at q1
        have HNI := Lib.hid hin
        clear hin
        go_wp2_with (first | fail | (refine st59n rfl (.tmp 5) (.tmp 14) rfl _ _ _ _ rfl rfl _ rfl ?_; rw [← HW.out.1, ← HW.out.2]))
        go_round
        case rel => exact ⟨m + 1, by omega, by go_num, H2, Lib.hid (HND.out.2 ⟨HNI.out, HD.out⟩)⟩
        case measure => simp only [intOf]; omega
    · obtain rfl : m = n := by omega
      go_wp2_with fail
      go_ret
      have ht : l.take m = l := List.take_of_length_le (by have := HN.out; omega)
      refine ⟨?_, HB.out.2⟩
      have : r = true := by rw [HR.out, ← ht]; exact decide_eq_true HD.out
      rw [this]
      rfl
end Go.Proofs.Ytejcahkkpednfaa
namespace Go.Proofs.Ytejcahkkpednfaa
open Go.RowKit
open Go.Proofs.StackM (Pg Cf Ct St up many fnd fnd_at fnd_no)
open Go.Proofs.WheelM
set_option linter.unusedVariables false
def ftw (s : St) : Bool := decide ((many s.pg 1 : Int) ≤ s.cf.c - s.tg) && (decide ((kps s.pg : Int) ≤ s.cf.c) && decide ((many s.pg 3 : Int) ≤ s.cf.g))
set_option maxHeartbeats 4000000 in
set_option maxRecDepth 100000 in
theorem fitsW_at (s : St) (r : R3) (hl : Lim s 100000) (ht : 0 ≤ s.tg ∧ s.tg ≤ 1000) (hc : 0 ≤ s.cf.c ∧ s.cf.c ≤ 1000) (w : World) (hr : SR w s r) : Calls Try.prog 50 #[sV s r] w fun e w' => e = .returned (.bool (ftw s)) ∧ Below w.heap.size w w' := by
  have x := Fr.start1 hr
  obtain ⟨w1, hw1⟩ : ∃ w1, w1 = w.alloc (.cells (sA s r) 31) := ⟨_, rfl⟩
  rw [← hw1] at x
  have HW := Lib.hid hw1
  have d5 : ∀ W : GrB w1, W.v.cell? ⟨w.heap.size, 5, none⟩ = some (.slice r.a1 s.pg.length r.c1) := fun W => at5 (x.keep W.h).box
  have d1 : ∀ W : GrB w1, W.v.cell? ⟨w.heap.size, 1, none⟩ = some (.int .i64 s.cf.c) := fun W => at1 (x.keep W.h).box
  have d3 : ∀ W : GrB w1, W.v.cell? ⟨w.heap.size, 3, none⟩ = some (.int .i64 s.cf.g) := fun W => at3 (x.keep W.h).box
  have hbx : ∀ W : World, (∃ p : GrB w1, W = p.v) → Box W w.heap.size (sA s r) := fun W ⟨p, e⟩ => e ▸ (x.keep p.h).box
  have hb : s.pg.length ≤ 1000000 := by have := hl.1; omega
  have C1 := Lib.hid (grown_call (w := w1) (f := 60) (args := #[.slice r.a1 s.pg.length r.c1, .int .i64 1]) (fun V hV => count_at s.pg 1 r.a1 s.pg.length r.c1 rfl hb V (x.keep hV).rows.pg.row))
  have C3 := Lib.hid (grown_call (w := w1) (f := 60) (args := #[.slice r.a1 s.pg.length r.c1, .int .i64 3]) (fun V hV => count_at s.pg 3 r.a1 s.pg.length r.c1 rfl hb V (x.keep hV).rows.pg.row))
  have C63 := Lib.hid (grown_call (w := w1) (f := 63) (args := #[.slice r.a1 s.pg.length r.c1]) (fun V hV => pkepts_at s.pg r.a1 s.pg.length r.c1 rfl hb V (x.keep hV).rows.pg.row))
  have C61 := Lib.hid (grown_call (w := w1) (f := 61) (args := #[sV s r]) (fun V hV => roomH_at s r ht hc V))
  obtain ⟨mm, hmm⟩ : ∃ z, z = (many s.pg 1 : Int) := ⟨_, rfl⟩
  obtain ⟨mk, hmk⟩ : ∃ z, z = (kps s.pg : Int) := ⟨_, rfl⟩
  obtain ⟨mg, hmg⟩ : ∃ z, z = (many s.pg 3 : Int) := ⟨_, rfl⟩
  obtain ⟨rm', hrm⟩ : ∃ z, z = s.cf.c - s.tg := ⟨_, rfl⟩
  obtain ⟨cc, hcc⟩ : ∃ z, z = s.cf.c := ⟨_, rfl⟩
  obtain ⟨cg, hcg⟩ : ∃ z, z = s.cf.g := ⟨_, rfl⟩
  rw [← hmm] at C1
  rw [← hmg] at C3
  rw [← hmk] at C63
  rw [← hrm] at C61
  have hf : ftw s = (decide (mm ≤ rm') && (decide (mk ≤ cc) && decide (mg ≤ cg))) := by unfold ftw; rw [hmm, hmk, hmg, hrm, hcc, hcg]
  rw [hf]
  have d1' : ∀ W : GrB w1, W.v.cell? ⟨w.heap.size, 1, none⟩ = some (.int .i64 cc) := by rw [hcc]; exact d1
  have d3' : ∀ W : GrB w1, W.v.cell? ⟨w.heap.size, 3, none⟩ = some (.int .i64 cg) := by rw [hcg]; exact d3
  have HX := Lib.hid (And.intro x hbx)
  clear hf hmm hmk hmg hrm hcc hcg d1 d3 hbx hb x hw1 hr hl ht hc
  by_cases h1 : mm ≤ rm'
  · rw [decide_eq_true h1, Bool.true_and]
    by_cases h2 : mk ≤ cc
    · rw [decide_eq_true h2, Bool.true_and]
      by_cases h3 : mg ≤ cg
      · rw [decide_eq_true h3]
        go_enter Try.func50, Try.ntmps50
        go_wp2_with fail
        rw [← HW.out]
        refine region_grown (by kernel_rfl) (by kernel_rfl) ?_
        repeat (first | (refine qld31q (.tmp 1) rfl rfl _ rfl _ HX.out.2 ?_; (try simp only [put_laws])) | go_big_quiet_step (first | (go_at_call 60; with_reducible (first | exact C1.out _ | exact C3.out _)) | (go_at_call 61; exact C61.out _) | (go_at_call 63; exact C63.out _)))
        refine wpQuiet_nil ?_
        rintro w' ⟨⟨w9, hgl⟩, rfl⟩
        go_wp2
        go_ret
        exact ⟨rfl, (HX.out.1.keep hgl).bel⟩
      · have hd := decide_eq_false h3
        rw [hd]
        go_enter Try.func50, Try.ntmps50
        go_wp2_with fail
        rw [← HW.out]
        refine region_grown (by kernel_rfl) (by kernel_rfl) ?_
        repeat (first | (refine qld31q (.tmp 1) rfl rfl _ rfl _ HX.out.2 ?_; (try simp only [put_laws])) | go_big_quiet_step (first | (go_at_call 60; with_reducible (first | exact C1.out _ | exact C3.out _)) | (go_at_call 61; exact C61.out _) | (go_at_call 63; exact C63.out _)))
        refine wpQuiet_nil ?_
        rintro w' ⟨⟨w9, hgl⟩, rfl⟩
        go_wp2
        go_ret
        exact ⟨rfl, (HX.out.1.keep hgl).bel⟩
    · have hd := decide_eq_false h2
      rw [hd, Bool.false_and]
      go_enter Try.func50, Try.ntmps50
      go_wp2_with fail
      rw [← HW.out]
      refine region_grown (by kernel_rfl) (by kernel_rfl) ?_
      repeat (first | (refine qld31q (.tmp 1) rfl rfl _ rfl _ HX.out.2 ?_; (try simp only [put_laws])) | go_big_quiet_step (first | (go_at_call 60; with_reducible (first | exact C1.out _ | exact C3.out _)) | (go_at_call 61; exact C61.out _) | (go_at_call 63; exact C63.out _)))
      refine wpQuiet_nil ?_
      rintro w' ⟨⟨w9, hgl⟩, rfl⟩
      go_wp2
      go_ret
      exact ⟨rfl, (HX.out.1.keep hgl).bel⟩
  · have hd := decide_eq_false h1
    rw [hd, Bool.false_and]
    go_enter Try.func50, Try.ntmps50
    go_wp2_with fail
    rw [← HW.out]
    refine region_grown (by kernel_rfl) (by kernel_rfl) ?_
    repeat (first | (refine qld31q (.tmp 1) rfl rfl _ rfl _ HX.out.2 ?_; (try simp only [put_laws])) | go_big_quiet_step (first | (go_at_call 60; with_reducible (first | exact C1.out _ | exact C3.out _)) | (go_at_call 61; exact C61.out _) | (go_at_call 63; exact C63.out _)))
    refine wpQuiet_nil ?_
    rintro w' ⟨⟨w9, hgl⟩, rfl⟩
    go_wp2
    go_ret
    exact ⟨rfl, (HX.out.1.keep hgl).bel⟩
set_option maxHeartbeats 4000000 in
set_option maxRecDepth 100000 in
theorem right_any (s : St) (r : R3) (hl : Lim s 100000) (hk : Kw s) (w : World) (hr : SR w s r) : Calls Try.prog 22 #[sV s r] w fun e w' => (∃ b, e = .returned (.bool b) ∧ (b = true ↔ Rg s)) ∧ Below w.heap.size w w' := by
  have x := Fr.start1 hr
  obtain ⟨w1, hw1⟩ : ∃ w1, w1 = w.alloc (.cells (sA s r) 31) := ⟨_, rfl⟩
  rw [← hw1] at x
  obtain ⟨g, hg⟩ : ∃ g, g = w.heap.size := ⟨_, rfl⟩
  have HW := Lib.hid (And.intro hw1 hg)
  have KB : Hid (∀ V, Below w1.heap.size w1 V → Box V g (sA s r) ∧ SR V s r ∧ Below w.heap.size w V) := Lib.hid (fun V hV => ⟨by rw [hg]; exact (x.keep hV).box, (x.keep hV).rows, (x.keep hV).bel⟩)
  have HL := Lib.hid (And.intro hl hk)
  have CK := fun V => clock_at s.cf.p s.cf.c s.cf.q s.cf.g V
  obtain ⟨b0, hb0⟩ : ∃ b, b = decide (Clk ⟨s.cf.p, s.cf.c, s.cf.q, s.cf.g⟩) := ⟨_, rfl⟩
  rw [← hb0] at CK
  have CC := Lib.hid CK
  have H1 : Hid (Below w1.heap.size w1 w1) := Lib.hid (Below.refl _ _)
  have d0 := at0 (KB.out w1 H1.out).1
  have d1 := at1 (KB.out w1 H1.out).1
  have d2 := at2 (KB.out w1 H1.out).1
  have d3 := at3 (KB.out w1 H1.out).1
  have HB0 := Lib.hid hb0
  clear hw1 hg x hb0 hr hl hk CK
  have HN0 : Hid (b0 = false → ¬ Rg s) := Lib.hid (fun e h => by rw [HB0.out] at e; exact absurd h.w.ck (of_decide_eq_false e))
  go_enter Try.func22, Try.ntmps22
  go_wp2_with (first | fail | rw [← HW.out.1, ← HW.out.2])
  refine Calls.mono (CC.out w1) ?_
  rintro e w2 ⟨rfl, hb⟩
  have H2 := Lib.hid (H1.out.trans (hb.mono H1.out.size))
  have e4 := at4 (KB.out w2 H2.out).1
  have e1 := at1 (KB.out w2 H2.out).1
  have e5 := at5 (KB.out w2 H2.out).1
  have e6 := at6 (KB.out w2 H2.out).1
  have e7 := at7 (KB.out w2 H2.out).1
  have e8 := at8 (KB.out w2 H2.out).1
  have e9 := at9 (KB.out w2 H2.out).1
  clear hb d0 d1 d2 d3
  cases b0
  · have hn := HN0.out rfl
    clear e1 e4 e5 e6 e7 e8 e9
    go_wp2_with fail
    go_ret
    exact ⟨⟨false, rfl, ⟨fun h => (by cases h), fun h => absurd h hn⟩⟩, (KB.out w2 H2.out).2.2⟩
  · have HCK : Hid (Clk s.cf) := Lib.hid (of_decide_eq_true HB0.out.symm)
    obtain ⟨tg, htg⟩ : ∃ t, t = s.tg := ⟨_, rfl⟩
    obtain ⟨cc, hcc⟩ : ∃ t, t = s.cf.c := ⟨_, rfl⟩
    obtain ⟨qn, hqn⟩ : ∃ t, t = s.qu.length := ⟨_, rfl⟩
    obtain ⟨gn, hgn⟩ : ∃ t, t = s.gh.length := ⟨_, rfl⟩
    have CH1 := fun V => isHand_at s.co r.a1 s.pg.length r.c1 V
    have CH2 := fun V => isHand_at s.te r.a1 s.pg.length r.c1 V
    obtain ⟨b1, hb1⟩ : ∃ b, b = decide (Hd s.co s.pg.length) := ⟨_, rfl⟩
    obtain ⟨b2, hb2⟩ : ∃ b, b = decide (Hd s.te s.pg.length) := ⟨_, rfl⟩
    rw [← hb1] at CH1
    rw [← hb2] at CH2
    have CHH := Lib.hid (And.intro CH1 CH2)
    rw [← htg] at e4
    rw [← hcc] at e1
    rw [← hqn] at e6
    rw [← hgn] at e7
    have HT := Lib.hid (And.intro htg (And.intro hcc (And.intro hqn (And.intro hgn (And.intro hb1 hb2)))))
    clear htg hcc hqn hgn CH1 CH2 hb1 hb2
    by_cases z1 : 1 ≤ tg
    · by_cases z2 : tg < cc
      · by_cases z3 : qn = 0
        · subst z3
          by_cases z4 : gn = 0
          · subst z4
            go_wp2_with fail
            refine Calls.mono (CHH.out.1 w2) ?_
            rintro e w' ⟨rfl, hw'⟩
            subst hw'
            cases b1
            · have hn : ¬ Rg s := fun h => by have h9 := HT.out.2.2.2.2.1; rw [decide_eq_true h.w.hc] at h9; cases h9
              clear e1 e4 e5 e6 e7 e8 e9
              go_wp2_with fail
              go_ret
              exact ⟨⟨false, rfl, ⟨fun h => (by cases h), fun h => absurd h hn⟩⟩, (KB.out w' H2.out).2.2⟩
            · go_wp2_with fail
              refine Calls.mono (CHH.out.2 w') ?_
              rintro e w'' ⟨rfl, hw''⟩
              subst hw''
              cases b2
              · have hn : ¬ Rg s := fun h => by have h9 := HT.out.2.2.2.2.2; rw [decide_eq_true h.w.ht] at h9; cases h9
                clear e1 e4 e5 e6 e7 e8 e9
                go_wp2_with fail
                go_ret
                exact ⟨⟨false, rfl, ⟨fun h => (by cases h), fun h => absurd h hn⟩⟩, (KB.out w'' H2.out).2.2⟩
              · have CF := fitsW_at s r HL.out.1 (by have h1 := HT.out.1; have h2 := HT.out.2.1; have h3 := HCK.out.2.1; omega) (by have h3 := HCK.out.2.1; omega) w'' (KB.out w'' H2.out).2.1
                obtain ⟨b3, hb3⟩ : ∃ b, b = ftw s := ⟨_, rfl⟩
                rw [← hb3] at CF
                have CFF := Lib.hid CF
                have HB3 := Lib.hid hb3
                clear CF hb3
                go_wp2_with (first | fail | refine ld31g rfl (.tmp 1) rfl _ rfl _ (KB.out w'' H2.out).1 ?_)
                refine Calls.mono CFF.out ?_
                rintro e w3 ⟨rfl, hb⟩
                have H3 := Lib.hid (H2.out.trans (hb.mono H2.out.size))
                have f5 := at5 (KB.out w3 H3.out).1
                clear hb e1 e4 e5 e6 e7 e8 e9
                cases b3
                · have hn : ¬ Rg s := fun h => by
                    have h9 := HB3.out
                    unfold ftw at h9
                    have hg := h.r
                    unfold Gc at hg
                    rw [decide_eq_true (show (many s.pg 1 : Int) ≤ s.cf.c - s.tg by omega), decide_eq_true h.k, decide_eq_true h.g] at h9
                    cases h9
                  go_wp2_with fail
                  go_ret
                  exact ⟨⟨false, rfl, ⟨fun h => (by cases h), fun h => absurd h hn⟩⟩, (KB.out w3 H3.out).2.2⟩
                · have CP := plainW_at s.pg r.a1 s.pg.length r.c1 rfl (by have := HL.out.1.1; omega) w3 (KB.out w3 H3.out).2.1.pg.row
                  obtain ⟨b4, hb4⟩ : ∃ b, b = s.pg.all okw := ⟨_, rfl⟩
                  rw [← hb4] at CP
                  have CPP := Lib.hid CP
                  have HB4 := Lib.hid hb4
                  clear CP hb4
                  go_wp2_with fail
                  refine Calls.mono CPP.out ?_
                  rintro e w4 ⟨rfl, hb⟩
                  have H4 := Lib.hid (H3.out.trans (hb.mono H3.out.size))
                  have k5 := at5 (KB.out w4 H4.out).1
                  clear hb f5
                  cases b4
                  · have hn : ¬ Rg s := fun h => by
                      have h9 := HB4.out
                      rw [show s.pg.all okw = true from List.all_eq_true.2 (fun p hp => decide_eq_true (h.w.pk p hp))] at h9
                      cases h9
                    go_wp2_with fail
                    go_ret
                    exact ⟨⟨false, rfl, ⟨fun h => (by cases h), fun h => absurd h hn⟩⟩, (KB.out w4 H4.out).2.2⟩
                  · have CU := unlikeW_at s.pg r.a1 s.pg.length r.c1 rfl (by have := HL.out.1.1; omega) HL.out.2.1 w4 (KB.out w4 H4.out).2.1.pg.row
                    obtain ⟨b5, hb5⟩ : ∃ b, b = decide (s.pg.map Pg.key).Nodup := ⟨_, rfl⟩
                    rw [← hb5] at CU
                    have CUU := Lib.hid CU
                    have HB5 := Lib.hid hb5
                    clear CU hb5
                    go_wp2_with fail
                    refine Calls.mono CUU.out ?_
                    rintro e w5 ⟨rfl, hb⟩
                    have H5 := Lib.hid (H4.out.trans (hb.mono H4.out.size))
                    clear hb k5
                    go_wp2_with fail
                    go_ret
                    refine ⟨⟨b5, rfl, ?_⟩, (KB.out w5 H5.out).2.2⟩
                    constructor
                    · intro h
                      have h9 := HB3.out
                      unfold ftw at h9
                      have h10 := h9.symm
                      rw [Bool.and_eq_true, Bool.and_eq_true, decide_eq_true_eq, decide_eq_true_eq, decide_eq_true_eq] at h10
                      have h11 := HT.out.1
                      have h12 := HT.out.2.1
                      exact ⟨⟨HCK.out, ⟨by omega, by omega⟩, of_decide_eq_true (HB5.out.symm.trans h), fun p hp => of_decide_eq_true (List.all_eq_true.1 HB4.out.symm p hp), List.length_eq_zero_iff.1 HT.out.2.2.1.symm, List.length_eq_zero_iff.1 HT.out.2.2.2.1.symm, of_decide_eq_true HT.out.2.2.2.2.1.symm, of_decide_eq_true HT.out.2.2.2.2.2.symm⟩, by unfold Gc; omega, h10.2.1, h10.2.2⟩
                    · exact fun h => HB5.out.trans (decide_eq_true h.w.nk)
          · have z4' : ((gn : Int) == 0) = false := by simpa using z4
            have hn : ¬ Rg s := fun h => z4 (by rw [HT.out.2.2.2.1, h.w.gh]; rfl)
            go_wp2_with fail
            go_ret
            exact ⟨⟨false, rfl, ⟨fun h => (by cases h), fun h => absurd h hn⟩⟩, (KB.out w2 H2.out).2.2⟩
        · have z3' : ((qn : Int) == 0) = false := by simpa using z3
          have hn : ¬ Rg s := fun h => z3 (by rw [HT.out.2.2.1, h.w.qu]; rfl)
          go_wp2_with fail
          go_ret
          exact ⟨⟨false, rfl, ⟨fun h => (by cases h), fun h => absurd h hn⟩⟩, (KB.out w2 H2.out).2.2⟩
      · have hn : ¬ Rg s := fun h => z2 (by rw [HT.out.1, HT.out.2.1]; have := h.w.tg; omega)
        have hd := decide_eq_false z2
        go_wp2_with fail
        go_ret
        exact ⟨⟨false, rfl, ⟨fun h => (by cases h), fun h => absurd h hn⟩⟩, (KB.out w2 H2.out).2.2⟩
    · have hn : ¬ Rg s := fun h => z1 (by rw [HT.out.1]; have := h.w.tg; omega)
      have hd := decide_eq_false z1
      go_wp2_with fail
      go_ret
      exact ⟨⟨false, rfl, ⟨fun h => (by cases h), fun h => absurd h hn⟩⟩, (KB.out w2 H2.out).2.2⟩
theorem right_yes (s : St) (r : R3) (h : Rg s) (hl : Lim s 100000) (hk : Kw s) (w : World) (hr : SR w s r) : Calls Try.prog 22 #[sV s r] w fun e w' => e = .returned (.bool true) ∧ Below w.heap.size w w' :=
  (right_any s r hl hk w hr).mono fun e w' ⟨⟨b, h1, h2⟩, h3⟩ => ⟨by rw [h1, h2.2 h], h3⟩
theorem right_no (s : St) (r : R3) (h : ¬ Rg s) (hl : Lim s 100000) (hk : Kw s) (w : World) (hr : SR w s r) : Calls Try.prog 22 #[sV s r] w fun e w' => e = .returned (.bool false) ∧ Below w.heap.size w w' :=
  (right_any s r hl hk w hr).mono fun e w' ⟨⟨b, h1, h2⟩, h3⟩ => ⟨by
    cases b with
    | true => exact absurd (h2.1 rfl) h
    | false => exact h1, h3⟩
end Go.Proofs.Ytejcahkkpednfaa
