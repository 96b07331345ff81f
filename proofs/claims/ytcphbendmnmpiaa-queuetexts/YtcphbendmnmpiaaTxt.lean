/-
  The same functions over a queue of texts: the texts for numbers, with their numbers of functions and types turned by program.
-/
import Derived.Test.YtcphbendmnmpiaaOps
namespace Go.Proofs.Ytcphbendmnmpiaa.Txt
open Go.ChangeShapes Go.WideShapes Go.ChangeAt Go.RowKit
set_option linter.unusedVariables false
set_option maxRecDepth 100000
/-! ### Reads -/

section
variable {w : World} {lo b : Nat} {og : Option Nat} {g : Nat} {Q : Qu} {l : List Value}
theorem len_at (x : QAt 62 9 w lo b og Q) : Calls Try.prog 27 #[.pointer (some ⟨b, 0, none⟩)] w fun e w' => e = .returned (.int .i64 (Q.cnt : Int)) ∧ w = w' := by
  have c := x.c3
  go_enter Try.func27, Try.ntmps27
  go_wp2
  go_ret
  exact ⟨rfl, rfl⟩
theorem len_nil (w : World) : Calls Try.prog 27 #[.pointer none] w fun e w' => e = .returned (.int .i64 0) ∧ w = w' := by
  go_enter Try.func27, Try.ntmps27
  go_wp2
  go_ret
  exact ⟨rfl, rfl⟩
theorem total_at (x : QAt 62 9 w lo b og Q) : Calls Try.prog 16 #[.pointer (some ⟨b, 0, none⟩)] w fun e w' => e = .returned (.int .u64 (Q.tot : Int)) ∧ w = w' := by
  have c := x.c4
  go_enter Try.func16, Try.ntmps16
  go_wp2
  go_ret
  exact ⟨rfl, rfl⟩
theorem total_nil (w : World) : Calls Try.prog 16 #[.pointer none] w fun e w' => e = .returned (.int .u64 0) ∧ w = w' := by
  go_enter Try.func16, Try.ntmps16
  go_wp2
  go_ret
  exact ⟨rfl, rfl⟩
set_option maxHeartbeats 1000000 in
theorem spot_at (x : QAt 62 9 w lo b (some g) Q) (h6 : Q.R.length ≤ 65536) (hf : Q.first < Q.R.length) (p : Nat) (hp : p ≤ 65536) :
    Calls Try.prog 26 #[.pointer (some ⟨b, 0, none⟩), .int .i64 (p : Int)] w fun e w' => e = .returned (.int .i64 (((Q.first + p) % Q.R.length : Nat) : Int)) ∧ ∃ q, w' = w.drewN q := by
  have c1 := x.c1
  have c2 := x.c2
  unfold ringV at c1
  obtain ⟨n, hn⟩ : ∃ n, Q.R.length = n := ⟨_, rfl⟩
  obtain ⟨f, hq⟩ : ∃ f, Q.first = f := ⟨_, rfl⟩
  rw [hn] at c1 h6 hf ⊢
  rw [hq] at c2 hf ⊢
  obtain ⟨r, hr⟩ : ∃ r, (f + p) % n = r := ⟨_, rfl⟩
  have e1 : ((f : Int) + (p : Int)) % (n : Int) = (r : Int) := by rw [← hr, Int.natCast_emod, Int.natCast_add]
  have k0 : ¬ (n : Int) = 0 := by omega
  have k1 : (0 : Int) ≤ (f : Int) + (p : Int) := by omega
  rw [hr]
  clear x hn hq hr
  go_enter Try.func26, Try.ntmps26
  go_wp2_with fail
  go_quiet (fail)
  go_wp2
  rw [e1]
  go_ret
  exact ⟨rfl, nq, rfl⟩
theorem new_bad (m : Int) (h : m < 1 ∨ 65536 < m) (w : World) : Calls Try.prog 18 #[.int .i64 m] w fun e w' => e = .returned (.tuple #[.pointer none, .int .i64 1]) ∧ w = w' := by
  by_cases h1 : m < 1
  · go_enter Try.func18, Try.ntmps18
    go_wp2
    go_ret2
    exact ⟨rfl, rfl⟩
  · have h2 : 65536 < m := by omega
    clear h
    go_enter Try.func18, Try.ntmps18
    go_wp2
    go_ret2
    exact ⟨rfl, rfl⟩
/-- a queue, with all that it has -/
def IsQ (w : World) (lo b : Nat) (og : Option Nat) (l : List Value) (most tot : Nat) : Prop := ∃ Q, QAt 62 9 w lo b og Q ∧ Has Q l ∧ Q.most = most ∧ Q.tot = tot
theorem new_at (m : Nat) (h1 : 1 ≤ m) (h2 : m ≤ 65536) (w : World) : Calls Try.prog 18 #[.int .i64 (m : Int)] w fun e w' => e = .returned (.tuple #[.pointer (some ⟨w.heap.size, 0, none⟩), .int .i64 0]) ∧ w.grownBy w' none ∧ IsQ w' w.heap.size w.heap.size none [] m 0 := by
  have k1 : ¬ (m : Int) < 1 := by omega
  have k2 : ¬ (65536 : Int) < (m : Int) := by omega
  have HFin : Hid (IsQ (w.alloc (.cells #[.int .i64 (m : Int), .slice none 0 0, .int .i64 0, .int .i64 0, .int .u64 0] 62)) w.heap.size w.heap.size none [] m 0) := Lib.hid
    ⟨⟨m, [], 0, 0, 0⟩, ⟨by decide, Nat.le_refl _, heap_alloc_new w _, fun _ e => (by cases e), fun _ => rfl, fun _ e => (by cases e)⟩, has_new h1 h2, rfl, rfl⟩
  go_enter Try.func18, Try.ntmps18
  go_wp2
  go_ret2
  exact ⟨rfl, World.grownBy_alloc _ _ none, HFin.out⟩
/-- At of a thing that is there -/
theorem at_yes (x : QAt 62 9 w lo b (some g) Q) (hh : Has Q l) {i : Nat} {v : Value} (hv : l[i]? = some v) :
    Calls Try.prog 20 #[.pointer (some ⟨b, 0, none⟩), .int .i64 (i : Int)] w fun e w' => e = .returned (.tuple #[v, .bool true]) ∧ ∃ q, w' = w.drewN q := by
  have hi : i < l.length := (List.getElem?_eq_some_iff.1 hv).1
  obtain ⟨hf, hg⟩ := hh.get hi
  have h1 := hh.room
  have h2 := hh.m2
  have h3 := hh.cnt
  have h4 := hh.fits
  rw [hv] at hg
  have hcell := x.rc ((Q.first + i) % Q.R.length)
  rw [hg] at hcell
  have c1 := x.c1
  unfold ringV at c1
  have HL := Lib.hid (len_at x)
  have HS := Lib.hid (fun q => spot_at (x.kept (grown_drewN w q none)) (by omega) hf i (by omega))
  have hlt : (Q.first + i) % Q.R.length < Q.R.length := Nat.mod_lt _ (by omega)
  obtain ⟨n, hn⟩ : ∃ n, Q.R.length = n := ⟨_, rfl⟩
  obtain ⟨r, hr⟩ : ∃ r, (Q.first + i) % Q.R.length = r := ⟨_, rfl⟩
  obtain ⟨c, hc⟩ : ∃ c, Q.cnt = c := ⟨_, rfl⟩
  rw [hr] at hlt HS hcell
  rw [hn] at c1 hlt
  rw [hc] at HL
  have k0 : ¬ (i : Int) < 0 := by omega
  have k1 : ¬ (c : Int) ≤ (i : Int) := by omega
  clear hi hv h1 h2 h3 h4 hg hh hf hn hr hc x
  go_enter Try.func20, Try.ntmps20
  go_wp2_with (go_at_call 27; refine HL.out.mono ?_; rintro e w' ⟨rfl, rfl⟩)
  go_quiet (first | (go_at_call 26; exact quiet_drew (HS.out _)))
  go_wp2
  go_ret2
  exact ⟨rfl, nq, rfl⟩
theorem at_no (x : QAt 62 9 w lo b og Q) (hh : Has Q l) {i : Int} (hi : i < 0 ∨ (l.length : Int) ≤ i) :
    Calls Try.prog 20 #[.pointer (some ⟨b, 0, none⟩), .int .i64 i] w fun e w' => e = .returned (.tuple #[.string ⟨#[]⟩, .bool false]) ∧ w.grownBy w' none := by
  have h3 := hh.cnt
  have HL := Lib.hid (len_at x)
  obtain ⟨c, hc⟩ : ∃ c, Q.cnt = c := ⟨_, rfl⟩
  rw [hc] at HL
  by_cases h0 : i < 0
  · clear hi h3 hc hh x
    go_enter Try.func20, Try.ntmps20
    go_wp2_with (go_at_call 27; refine HL.out.mono ?_; rintro e w' ⟨rfl, rfl⟩)
    go_ret2
    exact ⟨rfl, World.grownBy_alloc _ _ none⟩
  · have h1 : (c : Int) ≤ i := by omega
    clear hi h3 hc hh x
    go_enter Try.func20, Try.ntmps20
    go_wp2_with (go_at_call 27; refine HL.out.mono ?_; rintro e w' ⟨rfl, rfl⟩)
    go_ret2
    exact ⟨rfl, World.grownBy_alloc _ _ none⟩
theorem at_nil (i : Int) (w : World) : Calls Try.prog 20 #[.pointer none, .int .i64 i] w fun e w' => e = .returned (.tuple #[.string ⟨#[]⟩, .bool false]) ∧ w.grownBy w' none := by
  by_cases h0 : i < 0
  · go_enter Try.func20, Try.ntmps20
    go_wp2_with (go_at_call 27; refine (len_nil _).mono ?_; rintro e w' ⟨rfl, rfl⟩)
    go_ret2
    exact ⟨rfl, World.grownBy_alloc _ _ none⟩
  · have h1 : 0 ≤ i := by omega
    go_enter Try.func20, Try.ntmps20
    go_wp2_with (go_at_call 27; refine (len_nil _).mono ?_; rintro e w' ⟨rfl, rfl⟩)
    go_ret2
    exact ⟨rfl, World.grownBy_alloc _ _ none⟩
end

/-! ### Pop -/

section
variable {w : World} {lo b : Nat} {og : Option Nat} {g : Nat} {Q : Qu} {l : List Value}
def PopPost (w : World) (lo b g : Nat) (Q : Qu) (v : Value) (t : List Value) (e : Ending) (w' : World) : Prop :=
  e = .returned (.tuple #[v, .bool true]) ∧ ∃ Q', QAt 62 9 w' lo b (some g) Q' ∧ Has Q' t ∧ Q'.most = Q.most ∧ Q'.tot = Q.tot ∧ Q'.R.length = Q.R.length ∧ Stp b (some g) (some g) w w'
set_option maxHeartbeats 1000000 in
theorem pop_some {v : Value} {t : List Value} (x : QAt 62 9 w lo b (some g) Q) (hh : Has Q (v :: t)) : Calls Try.prog 30 #[.pointer (some ⟨b, 0, none⟩)] w (PopPost w lo b g Q v t) := by
  have HA := Lib.hid (at_yes x hh (i := 0) (v := v) rfl)
  have HX := Lib.hid x
  have HH := Lib.hid hh
  obtain ⟨hf, hv⟩ := hh.head rfl
  have hr6 := hh.room
  have hm6 := hh.m2
  have HP := Lib.hid (hh.pop (z := .string ⟨#[]⟩) rfl)
  have hcnt := hh.cnt
  have HFt := Lib.hid hh.fits
  simp only [List.length_cons] at hcnt
  have HL6 : Hid (Q.R.length ≤ 65536) := Lib.hid (by omega)
  obtain ⟨n, hn⟩ : ∃ n, Hid (Q.R.length = n) := ⟨_, Lib.hid rfl⟩
  obtain ⟨f, hq⟩ : ∃ f, Hid (Q.first = f) := ⟨_, Lib.hid rfl⟩
  rw [hn.out, hq.out] at hf
  clear x hh hr6 hm6
  go_enter Try.func30, Try.ntmps30
  go_wp2_with (go_at_call 20; refine HA.out.mono ?_; rintro e w' ⟨rfl, q, rfl⟩)
  have HX1 := Lib.hid (HX.out.kept (grown_drewN w q none))
  have HG1 := Lib.hid (grown_drewN w q none)
  generalize w.drewN q = w1 at *
  have c1 := HX1.out.c1
  have c2 := HX1.out.c2
  unfold ringV at c1
  rw [hn.out] at c1
  rw [hq.out] at c2
  have hc := HX1.out.rc f
  rw [← hq.out, hv, hq.out] at hc
  have hfr := HX1.out.rfree f
  have hA := HX1.out.kept (World.grownBy_alloc w1 (.cells #[.string ⟨#[]⟩] 9) none)
  have a1 := hA.c1
  have a2 := hA.c2
  unfold ringV at a1
  rw [hn.out] at a1
  rw [hq.out] at a2
  have ac := hA.rc f
  rw [← hq.out, hv, hq.out] at ac
  have afr := hA.rfree f
  have HA2 := Lib.hid hA
  have HGA := Lib.hid (grown_trans HG1.out (World.grownBy_alloc w1 (.cells #[.string ⟨#[]⟩] 9) none))
  clear hA
  go_region
  obtain ⟨x2, s2⟩ := HA2.out.setR f (.string ⟨#[]⟩)
  have HX2 := Lib.hid (x2.kept (grown_drewN _ 1 none))
  have HS2 := Lib.hid (((Stp.of_new (b := b) (h := some g) HGA.out).trans s2).trans (Stp.of_new (grown_drewN _ 1 none)))
  have e1 : (((w1.alloc (.cells #[.string ⟨#[]⟩] 9)).setCell ⟨g, f, none⟩ (.string ⟨#[]⟩)).drewN 1) = ((w1.alloc (.cells #[.string ⟨#[]⟩] 9)).setCell ⟨g, f, none⟩ (.string ⟨#[]⟩)).drew := rfl
  rw [e1] at HX2 HS2
  clear x2 s2 e1 a1 a2 ac afr c1 c2 hc hfr HA2 HGA
  generalize ((w1.alloc (.cells #[.string ⟨#[]⟩] 9)).setCell ⟨g, f, none⟩ (.string ⟨#[]⟩)).drew = w2 at *
  have HC := Lib.hid (spot_at HX2.out (by rw [List.length_set]; exact HL6.out) (by dsimp only; rw [List.length_set, hn.out, hq.out]; exact hf) 1 (by decide))
  dsimp only at HC
  rw [List.length_set] at HC
  obtain ⟨f', hf'⟩ : ∃ f', Hid ((Q.first + 1) % Q.R.length = f') := ⟨_, Lib.hid rfl⟩
  obtain ⟨c, hc⟩ : ∃ c, Hid (Q.cnt = c) := ⟨_, Lib.hid rfl⟩
  have hc1 : 1 ≤ c := by rw [← hc.out]; omega
  have hc6 : c ≤ 65536 := by have := HFt.out; have := HL6.out; rw [← hc.out]; omega
  rw [hf'.out] at HC
  clear hcnt
  go_wp2_with (go_at_call 26; refine HC.out.mono ?_; rintro e w' ⟨rfl, q2, rfl⟩; obtain ⟨x3, s3⟩ := (HX2.out.kept (grown_drewN w2 q2 none)).setF f'; have HX3 := Lib.hid x3; have HS3 := Lib.hid ((HS2.out.trans (Stp.of_new (grown_drewN w2 q2 none))).trans s3); have d2 := (HX2.out.kept (grown_drewN w2 q2 none)).c2; have d3 := HX3.out.c3; dsimp only at d2 d3; rw [hc.out] at d3; have df := (HX2.out.kept (grown_drewN w2 q2 none)).free 2; have df3 := HX3.out.free 3; clear x3 s3)
  have hw : (c : Int) - 1 = ((c - 1 : Nat) : Int) := by omega
  rw [hw]
  clear hw d2 df d3 df3
  obtain ⟨x4, s4⟩ := HX3.out.setC (c - 1)
  have HF : Hid (PopPost w lo b g Q v t (.returned (.tuple #[v, .bool true])) (((w2.drewN q2).setCell ⟨b, 2, none⟩ (.int .i64 (f' : Int))).setCell ⟨b, 3, none⟩ (.int .i64 ((c - 1 : Nat) : Int)))) := Lib.hid ⟨rfl, _, x4, by
    have := HP.out
    rw [hq.out] at this
    rw [← hq.out, hf'.out, hc.out, hq.out] at this
    exact this, rfl, rfl, by dsimp only; rw [List.length_set], HS3.out.trans s4⟩
  go_ret2
  exact HF.out
theorem pop_none (x : QAt 62 9 w lo b og Q) (hh : Has Q []) : Calls Try.prog 30 #[.pointer (some ⟨b, 0, none⟩)] w fun e w' => e = .returned (.tuple #[.string ⟨#[]⟩, .bool false]) ∧ w.grownBy w' none := by
  have HA := Lib.hid (at_no x hh (i := 0) (.inr (by simp)))
  clear x hh
  go_enter Try.func30, Try.ntmps30
  go_wp2_with (go_at_call 20; refine HA.out.mono ?_; rintro e w' ⟨rfl, hg⟩; have HG := Lib.hid hg; clear hg)
  go_ret2
  exact ⟨rfl, HG.out⟩
theorem pop_nil (w : World) : Calls Try.prog 30 #[.pointer none] w fun e w' => e = .returned (.tuple #[.string ⟨#[]⟩, .bool false]) ∧ w.grownBy w' none := by
  go_enter Try.func30, Try.ntmps30
  go_wp2_with (go_at_call 20; refine (at_nil 0 _).mono ?_; rintro e w' ⟨rfl, hg⟩; have HG := Lib.hid hg; clear hg)
  go_ret2
  exact ⟨rfl, HG.out⟩
end

/-! ### Copy -/

theorem size9 : (Try.prog.info? 9).map (·.size) = some 1 := by kernel_rfl
theorem grown_setRow {w : World} {g : Nat} (cs : Array Value) : w.grownBy (w.setRow g cs) (some g) := ⟨rfl, rfl, rfl, by simp, fun k _ hk => setRow_other w g k _ (fun e => hk (by simp [e]))⟩
/-- what a row of m places holds behind it -/
def over (R : List Value) (f : Nat) (old : List Value) : List Value := (rotl R f).take old.length ++ old.drop R.length
theorem over_length (R : List Value) (f : Nat) (old : List Value) : (over R f old).length = old.length := by
  unfold over; rw [List.length_append, List.length_take, List.length_drop, rotl_length]; omega
section
variable {w : World} {lo b : Nat} {og : Option Nat} {g : Nat} {Q : Qu} {l : List Value}
def CopyPost (w : World) (q : Nat) (new : List Value) (e : Ending) (w' : World) : Prop := (∃ v, e = .returned v) ∧ w.grownBy w' (some q) ∧ w'.heap[q]? = some (.cells new.toArray 9 (0, 0))
theorem copy_nil (m c : Nat) (A : Option Addr) (w : World) : Calls Try.prog 31 #[.pointer none, .slice A m c] w fun e w' => (∃ v, e = .returned v) ∧ w = w' := by
  go_enter Try.func31, Try.ntmps31
  go_wp2
  refine bodyPost_ret (results_none rfl _ _ _) rfl ?_
  exact ⟨⟨_, rfl⟩, rfl⟩
/-- a queue that never had a thing -/
theorem copy_none (x : QAt 62 9 w lo b none Q) (h0 : Q.first = 0) {q m : Nat} {old : List Value} (hq : w.heap[q]? = some (.cells old.toArray 9 (0, 0))) (hm : old.length = m) (hm6 : m ≤ 1000000) :
    Calls Try.prog 31 #[.pointer (some ⟨b, 0, none⟩), .slice (some ⟨q, 0, none⟩) m m] w fun e w' => (∃ v, e = .returned v) ∧ ∃ n, w' = w.drewN n := by
  have c1 := x.c1
  have c2 := x.c2
  unfold ringV at c1
  rw [h0] at c2
  dsimp only at c1
  have hr1 := fun w ty => run_copy_none (P := Try.prog) w 44 44 ty 9 (some ⟨q, 0, none⟩) none m m 0 0 Try.underlying44 size9 (by show min 0 m = 0; omega)
  have k0 : (0 : Int) ≤ 0 := Int.le_refl 0
  clear x hq hm
  go_enter Try.func31, Try.ntmps31
  go_wp2_with fail
  refine region_tail 10 (by kernel_rfl) (by kernel_rfl) ?_
  intro w3 hw3
  have g1 : w3.cell? ⟨b, 1, none⟩ = some (.slice none 0 0) := by rw [hw3]; exact c1
  have g2 : w3.cell? ⟨b, 2, none⟩ = some (.int .i64 0) := by rw [hw3]; exact c2
  simp only [List.take_succ_cons, List.take_zero, List.drop_succ_cons, List.drop_zero]
  repeat still_step
  refine wpStill_nil ?_
  go_wp2_with fail
  refine region_tail 12 (by kernel_rfl) (by kernel_rfl) ?_
  intro w4 hw4
  have f1 : w4.cell? ⟨b, 1, none⟩ = some (.slice none 0 0) := by rw [hw4]; exact c1
  have f2 : w4.cell? ⟨b, 2, none⟩ = some (.int .i64 0) := by rw [hw4]; exact c2
  simp only [List.take_succ_cons, List.take_zero, List.drop_succ_cons, List.drop_zero]
  repeat still_step
  refine wpStill_nil ?_
  go_wp2_with fail
  go_end0
  exact ⟨⟨_, rfl⟩, 2, rfl⟩
theorem setRow_same {w : World} {q : Nat} {cur cs : Array Value} {t : TypeId} (h : w.heap[q]? = some (.cells cur t (0, 0))) : (w.setRow q cs).heap[q]? = some (.cells cs t (0, 0)) := setRow_heap w q cur cs t _ h
set_option maxHeartbeats 1000000 in
theorem copy_some (x : QAt 62 9 w lo b (some g) Q) (h1 : ∀ v ∈ Q.R, v.oneCell' = true) (hf : Q.first < Q.R.length) (hn6 : Q.R.length ≤ 65536) {q m : Nat} {old : List Value} (hq : w.heap[q]? = some (.cells old.toArray 9 (0, 0))) (hm : old.length = m) (hm6 : m ≤ 65536) (hqb : ¬ own b (some g) q) :
    Calls Try.prog 31 #[.pointer (some ⟨b, 0, none⟩), .slice (some ⟨q, 0, none⟩) m m] w (CopyPost w q (over Q.R Q.first old)) := by
  have HX := Lib.hid x
  have HQ := Lib.hid hqb
  have HQ0 := Lib.hid hq
  have H1 := Lib.hid h1
  have HM := Lib.hid hm
  have c1 := x.c1
  have c2 := x.c2
  unfold ringV at c1
  dsimp only at c1
  obtain ⟨n, HN⟩ : ∃ n, Hid (Q.R.length = n) := ⟨_, Lib.hid rfl⟩
  obtain ⟨f, HF⟩ : ∃ f, Hid (Q.first = f) := ⟨_, Lib.hid rfl⟩
  rw [HN.out] at c1 hf hn6
  rw [HF.out] at c2 hf ⊢
  have k0 : (0 : Int) ≤ (f : Int) := by omega
  have k1 : (f : Int) ≤ (n : Int) := by omega
  have k2 : ¬ (n : Int) = (f : Int) := by omega
  -- the first copy
  have hl1 : ((Q.R.drop f).take m).length = min (n - f) m := by rw [List.length_take, List.length_drop, HN.out, Nat.min_comm]
  have hr1 := fun ty c c' => run_copy_row (P := Try.prog) (w.drewN 1) 44 44 ty 9 q 0 m c ⟨g, f, none⟩ (n - f) c' old.toArray 9 ((Q.R.drop f).take m) Try.underlying44 size9 hq hl1 (fun j v hv => by
    have := HX.out.rc (f + j)
    rw [List.getElem?_take] at hv
    split at hv
    · rw [List.getElem?_drop] at hv
      rw [hv] at this
      rw [Addr.add_mid]
      exact this
    · cases hv) (by rw [hl1]; simp; omega) (fun v hv => h1 v (List.mem_of_mem_drop (List.mem_of_mem_take hv)))
  rw [hl1] at hr1
  obtain ⟨s1, hs1⟩ : ∃ s1, Hid ((old.toArray.toList.take 0 ++ (Q.R.drop f).take m ++ old.toArray.toList.drop (0 + min (n - f) m)) = s1) := ⟨_, Lib.hid rfl⟩
  rw [hs1.out] at hr1
  obtain ⟨kk, hkk⟩ : ∃ kk, Hid (min (n - f) m = kk) := ⟨_, Lib.hid rfl⟩
  rw [hkk.out] at hr1 hl1 hs1
  have HL1 := Lib.hid hl1
  clear x hqb hq h1 hl1 hm
  go_enter Try.func31, Try.ntmps31
  go_wp2_with fail
  refine region_tail 10 (by kernel_rfl) (by kernel_rfl) ?_
  intro w3 hw3
  rw [← hw3] at hr1
  have g1 : w3.cell? ⟨b, 1, none⟩ = some (.slice (some ⟨g, 0, none⟩) n n) := by rw [hw3]; exact c1
  have g2 : w3.cell? ⟨b, 2, none⟩ = some (.int .i64 (f : Int)) := by rw [hw3]; exact c2
  have HG3 : Hid (w.grownBy w3 none) := Lib.hid (by rw [hw3]; exact grown_drewN w 1 none)
  have HX3 := Lib.hid (HX.out.kept HG3.out)
  have HQ3 : Hid (w3.heap[q]? = some (.cells old.toArray 9 (0, 0))) := Lib.hid (by rw [hw3]; exact HQ0.out)
  clear hw3 c1 c2
  simp only [List.take_succ_cons, List.take_zero, List.drop_succ_cons, List.drop_zero]
  repeat still_step
  refine wpStill_nil ?_
  go_wp2_with fail
  have HG4 : Hid (w3.grownBy (w3.setRow q s1.toArray) (some q)) := Lib.hid (grown_setRow _)
  have HQ4 : Hid ((w3.setRow q s1.toArray).heap[q]? = some (.cells s1.toArray 9 (0, 0))) := Lib.hid (setRow_same HQ3.out)
  have HX4 : Hid (QAt 62 9 (w3.setRow q s1.toArray) lo b (some g) Q) := Lib.hid (HX3.out.stay fun k hk => HG4.out.block k (HX3.out.own_lo hk).2 (fun e => HQ.out (by injection e with e; rw [← e]; exact hk)))
  clear hr1 g1 g2
  generalize w3.setRow q s1.toArray = w4 at *
  have hkm : kk ≤ m := by rw [← hkk.out]; exact Nat.min_le_right _ _
  have hkn : kk ≤ n - f := by rw [← hkk.out]; exact Nat.min_le_left _ _
  have j0 : (0 : Int) ≤ (kk : Int) := by omega
  have j1 : (kk : Int) ≤ (m : Int) := by omega
  have hsl : s1.length = m := by rw [← hs1.out]; simp [HL1.out, HM.out]; omega
  -- the second copy
  by_cases hcase : kk = m
  · obtain rfl := hcase
    have hfin : s1 = over Q.R f old := by
      have hol := HM.out
      rw [← hs1.out]
      unfold over rotl
      rw [HM.out, HN.out, List.drop_of_length_le (show old.length ≤ n by omega), List.drop_of_length_le (show old.length ≤ 0 + kk by omega), List.take_append_of_le_length (by rw [List.length_drop, HN.out]; exact hkn)]
      simp
    have hr2 := fun w ty d dc cc => run_copy_none (P := Try.prog) w 44 44 ty 9 d (some ⟨g, 0, none⟩) 0 dc f cc Try.underlying44 size9 (by show min f 0 = 0; omega)
    have HFin : Hid (CopyPost w q (over Q.R f old) (.returned (.tuple #[])) (w4.drewN 1)) := Lib.hid ⟨⟨_, rfl⟩, grown_trans (grown_any HG3.out _) (grown_trans HG4.out (grown_drewN _ 1 _)), by rw [← hfin]; exact HQ4.out⟩
    clear hfin hsl
    refine region_tail 12 (by kernel_rfl) (by kernel_rfl) ?_
    intro w5 hw5
    have X5 := HX4.out.kept (grown_drewN w4 1 none)
    rw [← hw5] at HFin X5
    have g1 := X5.c1
    have g2 := X5.c2
    unfold ringV at g1
    dsimp only at g1
    rw [HN.out] at g1
    rw [HF.out] at g2
    clear X5 hw5
    simp only [List.take_succ_cons, List.take_zero, List.drop_succ_cons, List.drop_zero]
    repeat still_step
    refine wpStill_nil ?_
    go_wp2_with fail
    go_end0
    exact ⟨⟨_, rfl⟩, HFin.out.2⟩
  · have hkk2 : kk = n - f := by rw [← hkk.out]; have := hkk.out; omega
    have hl2 : ((Q.R.take f).take (m - kk)).length = min f (m - kk) := by rw [List.length_take, List.length_take, HN.out]; omega
    have hq4 : (w4.drewN 1).heap[q]? = some (.cells s1.toArray 9 (0, 0)) := HQ4.out
    have hr2 := fun ty c c' => run_copy_row (P := Try.prog) (w4.drewN 1) 44 44 ty 9 q kk (m - kk) c ⟨g, 0, none⟩ f c' s1.toArray 9 ((Q.R.take f).take (m - kk)) Try.underlying44 size9 hq4 hl2 (fun j v hv => by
      have := HX4.out.rc j
      rw [List.getElem?_take] at hv
      split at hv
      · rw [List.getElem?_take] at hv
        split at hv
        · rw [hv] at this
          rw [Addr.add_mid, Nat.zero_add]
          exact this
        · cases hv
      · cases hv) (by rw [hl2]; simp; omega) (fun v hv => H1.out v (List.mem_of_mem_take (List.mem_of_mem_take hv)))
    rw [hl2] at hr2
    have hfin : s1.toArray.toList.take kk ++ (Q.R.take f).take (m - kk) ++ s1.toArray.toList.drop (kk + min f (m - kk)) = over Q.R f old := by
      have hol := HM.out
      have e1 : (Q.R.drop f).take m = Q.R.drop f := List.take_of_length_le (by rw [List.length_drop, HN.out]; omega)
      have e2 : s1 = Q.R.drop f ++ old.drop kk := by rw [← hs1.out, e1]; simp
      have e3 : (Q.R.drop f).length = kk := by rw [List.length_drop, HN.out, hkk2]
      have e4 : s1.take kk = Q.R.drop f := by rw [e2, List.take_append_of_le_length (by omega), List.take_of_length_le (by omega)]
      have e5 : s1.drop (kk + min f (m - kk)) = old.drop n := by
        rw [e2, List.drop_append, List.drop_of_length_le (by omega), List.nil_append, e3, List.drop_drop]
        by_cases h : f ≤ m - kk
        · congr 1; omega
        · rw [List.drop_of_length_le (by omega), List.drop_of_length_le (by omega)]
      show s1.take kk ++ (Q.R.take f).take (m - kk) ++ s1.drop (kk + min f (m - kk)) = over Q.R f old
      rw [e4, e5]
      unfold over rotl
      rw [HM.out, HN.out, List.take_append, List.take_of_length_le (show (Q.R.drop f).length ≤ m by omega), e3]
    rw [hfin] at hr2
    have HFin : Hid (CopyPost w q (over Q.R f old) (.returned (.tuple #[])) ((w4.drewN 1).setRow q (over Q.R f old).toArray)) := Lib.hid ⟨⟨_, rfl⟩, grown_trans (grown_any HG3.out _) (grown_trans HG4.out (grown_trans (grown_drewN _ 1 _) (grown_setRow _))), setRow_same hq4⟩
    have j2 : ¬ (m : Int) = (kk : Int) := by omega
    clear hfin hsl hl2 hq4 hkk2
    refine region_tail 12 (by kernel_rfl) (by kernel_rfl) ?_
    intro w5 hw5
    have X5 := HX4.out.kept (grown_drewN w4 1 none)
    rw [← hw5] at HFin X5 hr2
    have g1 := X5.c1
    have g2 := X5.c2
    unfold ringV at g1
    dsimp only at g1
    rw [HN.out] at g1
    rw [HF.out] at g2
    clear X5 hw5
    simp only [List.take_succ_cons, List.take_zero, List.drop_succ_cons, List.drop_zero]
    repeat still_step
    refine wpStill_nil ?_
    go_wp2_with fail
    go_end0
    exact ⟨⟨_, rfl⟩, HFin.out.2⟩
end

/-! ### Push -/

theorem info9 : (Try.prog.info? 9).map (fun i => (i.zero, i.size, i.bytes)) = some (some (.string ⟨#[]⟩), 1, 16) := by kernel_rfl
theorem made_eq (z : Value) (n : Nat) : madeCells #[z] n = (List.replicate n z).toArray := by
  apply Array.ext
  · simp [madeCells]
  · intro i h1 h2
    simp [madeCells, Nat.mod_one]
section
variable {w : World} {lo b : Nat} {og : Option Nat} {g : Nat} {Q : Qu} {l : List Value}
def RoomPost (w : World) (lo b : Nat) (og : Option Nat) (Q : Qu) (l' : List Value) (v : Value) (goes : Bool) (e : Ending) (w' : World) : Prop :=
  e = .returned (.tuple #[v, .bool goes]) ∧ ∃ g' Q', QAt 62 9 w' lo b (some g') Q' ∧ Has Q' l' ∧ l'.length < Q'.R.length ∧ Q'.most = Q.most ∧ Q'.tot = Q.tot ∧ Stp b og (some g') w w'
set_option maxHeartbeats 1000000 in
/-- the queue is full -/
theorem room_full {v : Value} {t : List Value} (x : QAt 62 9 w lo b (some g) Q) (hh : Has Q (v :: t)) (hfull : (v :: t).length = Q.most) :
    Calls Try.prog 25 #[.pointer (some ⟨b, 0, none⟩)] w (RoomPost w lo b (some g) Q t v true) := by
  have c0 := x.c0
  have c3 := x.c3
  have hc : Q.cnt = Q.most := by rw [← hfull]; exact hh.cnt.symm
  rw [hc] at c3
  have HX := Lib.hid x
  have HH := Lib.hid hh
  have hlen := hh.lenR
  simp only [List.length_cons] at hlen
  have HLen := Lib.hid hlen
  obtain ⟨m, hm⟩ : ∃ m, Q.most = m := ⟨_, rfl⟩
  rw [hm] at c0 c3
  have hd : ((m : Int) == (m : Int)) = true := by simp
  clear x hh hfull hc hlen hm
  go_enter Try.func25, Try.ntmps25
  go_wp2_with fail
  go_quiet (fail)
  have HP := Lib.hid (pop_some (HX.out.kept (grown_drewN w nq none)) HH.out)
  have HG := Lib.hid (grown_drewN w nq none)
  clear c0 c3
  generalize w.drewN nq = w1 at *
  go_wp2_with (go_at_call 30; refine HP.out.mono ?_; rintro e w2 ⟨rfl, Q', x2, h2, e1, e2, e3, s2⟩; have HF : Hid (RoomPost w lo b (some g) Q t v true (.returned (.tuple #[v, .bool true])) w2) := Lib.hid ⟨rfl, g, Q', x2, h2, by have := HLen.out; omega, e1, e2, (Stp.of_new HG.out).trans s2⟩; clear x2 h2 e1 e2 e3 s2)
  go_ret2
  exact HF.out
set_option maxHeartbeats 1000000 in
/-- there is room in the ring -/
theorem room_there (x : QAt 62 9 w lo b (some g) Q) (hh : Has Q l) (hnot : l.length < Q.most) (hthere : l.length < Q.R.length) :
    Calls Try.prog 25 #[.pointer (some ⟨b, 0, none⟩)] w (RoomPost w lo b (some g) Q l (.string ⟨#[]⟩) false) := by
  have c0 := x.c0
  have c1 := x.c1
  have c3 := x.c3
  unfold ringV at c1
  dsimp only at c1
  have hc := hh.cnt
  have h6 := hh.room
  have h7 := hh.m2
  have HX := Lib.hid x
  have HH := Lib.hid hh
  have HT := Lib.hid hthere
  obtain ⟨m, hm⟩ : ∃ m, Q.most = m := ⟨_, rfl⟩
  obtain ⟨n, hn⟩ : ∃ n, Q.R.length = n := ⟨_, rfl⟩
  obtain ⟨c, hcc⟩ : ∃ c, Q.cnt = c := ⟨_, rfl⟩
  rw [hm] at c0
  rw [hn] at c1
  rw [hcc] at c3
  have hd : ((c : Int) == (m : Int)) = false := by simp; omega
  have hd2 : ((c : Int) == (n : Int)) = false := by simp; omega
  clear x hh hnot hthere hc h6 h7 hm hn hcc
  go_enter Try.func25, Try.ntmps25
  go_wp2_with fail
  go_quiet (fail)
  have HG1 := Lib.hid (grown_drewN w nq none)
  have d1 : (w.drewN nq).cell? ⟨b, 1, none⟩ = some (.slice (some ⟨g, 0, none⟩) n n) := c1
  have d3 : (w.drewN nq).cell? ⟨b, 3, none⟩ = some (.int .i64 (c : Int)) := c3
  clear c0 c1 c3
  generalize w.drewN nq = w1 at *
  go_wp2_with fail
  go_quiet (fail)
  have HG2 := Lib.hid (grown_trans HG1.out (grown_drewN w1 nq none))
  clear HG1 d1 d3
  generalize w1.drewN nq = w2 at *
  go_wp2_with fail
  have hfin : ∀ W, w.grownBy W none → RoomPost w lo b (some g) Q l (.string ⟨#[]⟩) false (.returned (.tuple #[.string ⟨#[]⟩, .bool false])) W := fun W hW => ⟨rfl, g, Q, HX.out.kept hW, HH.out, HT.out, rfl, rfl, Stp.of_new hW⟩
  have HFin := Lib.hid hfin
  clear hfin
  go_ret2
  exact HFin.out _ (grown_trans HG2.out (World.grownBy_alloc _ _ none))
set_option maxHeartbeats 1000000 in
/-- the ring grows -/
theorem room_grow (x : QAt 62 9 w lo b og Q) (hh : Has Q l) (hnot : l.length < Q.most) (hthere : l.length = Q.R.length) (hlo : lo ≤ w.heap.size)
    (hcp : ∀ W q n, w.grownBy W none → W.heap[q]? = some (.cells (List.replicate n (.string ⟨#[]⟩)).toArray 9 (0, 0)) → w.heap.size ≤ q → n ≤ 65536 → Calls Try.prog 31 #[.pointer (some ⟨b, 0, none⟩), .slice (some ⟨q, 0, none⟩) n n] W (CopyPost W q (over Q.R Q.first (List.replicate n (.string ⟨#[]⟩))))) :
    Calls Try.prog 25 #[.pointer (some ⟨b, 0, none⟩)] w (RoomPost w lo b og Q l (.string ⟨#[]⟩) false) := by
  have c0 := x.c0
  have c1 := x.c1
  have c3 := x.c3
  have hc := hh.cnt
  have h6 := hh.room
  have h7 := hh.m2
  have HX := Lib.hid x
  have HH := Lib.hid hh
  have HCP := Lib.hid hcp
  have HLO := Lib.hid hlo
  have HRN := Lib.hid x.nor
  obtain ⟨m, hm⟩ : ∃ m, Hid (Q.most = m) := ⟨_, Lib.hid rfl⟩
  obtain ⟨c, hcc⟩ : ∃ c, Hid (Q.cnt = c) := ⟨_, Lib.hid rfl⟩
  have HR : Hid (Q.R.length = c) := Lib.hid (by rw [← hcc.out]; omega)
  have HLc : Hid (l.length = c) := Lib.hid (by rw [← hcc.out]; omega)
  rw [hm.out] at c0 hnot h7
  rw [hcc.out] at c3
  rw [HLc.out] at hnot
  obtain ⟨A, hA⟩ : ∃ A, ringV og Q.R.length = .slice A c c := by
    cases og with
    | none =>
      have := HR.out
      rw [HRN.out rfl] at this
      exact ⟨none, by unfold ringV; rw [← this]; rfl⟩
    | some g => exact ⟨_, by unfold ringV; rw [HR.out]⟩
  rw [hA] at c1
  obtain ⟨n, hn⟩ : ∃ n, Hid (min (2 * c + 1) m = n) := ⟨_, Lib.hid rfl⟩
  have hn1 : c < n := by rw [← hn.out]; omega
  have hn2 : n ≤ m := by rw [← hn.out]; omega
  have hmin : (if (m : Int) < 2 * (c : Int) + 1 then (m : Int) else 2 * (c : Int) + 1) = (n : Int) := by rw [← hn.out]; split <;> omega
  have hd : ((c : Int) == (m : Int)) = false := by simp; omega
  have hd2 : ((c : Int) == (c : Int)) = true := by simp
  have hmk := fun w => run_make_row' (P := Try.prog) 44 9 (.string ⟨#[]⟩) 16 Try.underlying44 info9 rfl .i64 .i64 n (by omega) (by omega) w
  rw [made_eq] at hmk
  clear x hh hthere hc h6 hcp hA hlo
  go_enter Try.func25, Try.ntmps25
  go_wp2_with fail
  go_quiet (fail)
  have HG1 := Lib.hid (grown_drewN w nq none)
  have d0 : (w.drewN nq).cell? ⟨b, 0, none⟩ = some (.int .i64 (m : Int)) := c0
  have d1 : (w.drewN nq).cell? ⟨b, 1, none⟩ = some (.slice A c c) := c1
  have d3 : (w.drewN nq).cell? ⟨b, 3, none⟩ = some (.int .i64 (c : Int)) := c3
  clear c0 c1 c3
  generalize w.drewN nq = w1 at *
  go_wp2_with fail
  go_quiet (fail)
  have HG2 := Lib.hid (grown_trans HG1.out (grown_drewN w1 nq none))
  have c0 : (w1.drewN nq).cell? ⟨b, 0, none⟩ = some (.int .i64 (m : Int)) := d0
  have c3 : (w1.drewN nq).cell? ⟨b, 3, none⟩ = some (.int .i64 (c : Int)) := d3
  clear HG1 d0 d1 d3
  generalize w1.drewN nq = w2 at *
  go_wp2_with fail
  go_region
  have HB3 : Hid ((w2.alloc (.cells (Array.replicate n (.string ⟨#[]⟩)) 9)).drew.heap[w2.heap.size]? = some (.cells (List.replicate n (.string ⟨#[]⟩)).toArray 9 (0, 0))) := Lib.hid (by rw [List.toArray_replicate]; exact heap_alloc_new w2 _)
  have HG3 : Hid (w.grownBy (w2.alloc (.cells (Array.replicate n (.string ⟨#[]⟩)) 9)).drew none) := Lib.hid (grown_trans HG2.out (grown_trans (World.grownBy_alloc _ _ none) (grown_drewN _ 1 none)))
  have HBz : Hid (w.heap.size ≤ w2.heap.size) := Lib.hid HG2.out.size
  have HBl : Hid (w2.heap.size < (w2.alloc (.cells (Array.replicate n (.string ⟨#[]⟩)) 9)).drew.heap.size) := Lib.hid (by show w2.heap.size < (w2.alloc (.cells (Array.replicate n (.string ⟨#[]⟩)) 9)).heap.size; simp)
  clear c0 c3 HG2 hmk
  generalize (w2.alloc (.cells (Array.replicate n (.string ⟨#[]⟩)) 9)).drew = w3 at *
  generalize w2.heap.size = q at *
  have HC := Lib.hid (HCP.out w3 q n HG3.out HB3.out HBz.out (by omega))
  have hov : over Q.R Q.first (List.replicate n (Value.string ⟨#[]⟩)) = rotl Q.R Q.first ++ List.replicate (n - Q.R.length) (.string ⟨#[]⟩) := by
    unfold over
    rw [List.length_replicate, List.take_of_length_le (by rw [rotl_length, HR.out]; omega), List.drop_replicate]
  have hov2 : (rotl Q.R Q.first ++ List.replicate (n - Q.R.length) (Value.string ⟨#[]⟩)).length = n := by rw [List.length_append, rotl_length, List.length_replicate, HR.out]; omega
  have HGr := Lib.hid (HH.out.grow (z := .string ⟨#[]⟩) (n := n) rfl (by rw [hcc.out, HR.out]) (by rw [hcc.out]; exact hn1) (by rw [hm.out]; exact hn2)).1
  rw [hov] at HC
  obtain ⟨R', HR'⟩ : ∃ R', Hid (rotl Q.R Q.first ++ List.replicate (n - Q.R.length) (Value.string ⟨#[]⟩) = R') := ⟨_, Lib.hid rfl⟩
  rw [HR'.out] at HC HGr hov2
  have HL' := Lib.hid hov2
  clear hov hov2 HB3
  go_wp2_with fail
  refine HC.out.mono ?_
  rintro e w4 ⟨⟨v, rfl⟩, hg4, hb4⟩
  have HX4 : Hid (QAt 62 9 w4 lo b og Q) := Lib.hid (HX.out.stay fun k hk => by
    have hk2 := (HX.out.own_lo hk).2
    have hz3 := HG3.out.size
    exact (hg4.block k (by omega) (fun e => by injection e with e; have := HBz.out; omega)).trans (HG3.out.block k hk2 (by simp)))
  have hqb : q ≠ b := fun e => by have := HX.out.blt; have := HBz.out; omega
  have c1 := HX4.out.c1
  have c2 := HX4.out.c2
  have f1 := HX4.out.free 1
  have f2 := HX4.out.free 2
  have x5 := HX4.out.setV (g := q) (R := R') (by have := HLO.out; have := HBz.out; omega) hb4 hqb (fun e => by have := HL'.out; rw [e] at this; simp at this; omega)
  rw [HL'.out] at x5
  have s5 : Stp b og (some q) w ((w4.setCell ⟨b, 1, none⟩ (.slice (some ⟨q, 0, none⟩) n n)).setCell ⟨b, 2, none⟩ (.int .i64 0)) := by
    have hb : But (own b og) w4 ((w4.setCell ⟨b, 1, none⟩ (.slice (some ⟨q, 0, none⟩) n n)).setCell ⟨b, 2, none⟩ (.int .i64 0)) := (But.of_set w4 b 1 _ (.inl rfl)).trans (But.of_set _ b 2 _ (.inl rfl))
    have h4 : w.grownBy w4 none := ⟨hg4.os.trans HG3.out.os, hg4.tape.trans HG3.out.tape, hg4.output.trans HG3.out.output, Nat.le_trans HG3.out.size hg4.size, fun k hk _ => (hg4.block k (Nat.lt_of_lt_of_le hk HG3.out.size) (fun e => by injection e with e; have := HBz.out; omega)).trans (HG3.out.block k hk (by simp))⟩
    refine ⟨(But.of_new h4).trans hb, fun k hk => ?_⟩
    rcases hk with rfl | hk
    · exact .inl (.inl rfl)
    · injection hk with hk
      rw [← hk]; exact .inr HBz.out
  have HX5 := Lib.hid x5
  have HS5 := Lib.hid s5
  have HF : Hid (∀ W, ((w4.setCell ⟨b, 1, none⟩ (.slice (some ⟨q, 0, none⟩) n n)).setCell ⟨b, 2, none⟩ (.int .i64 0)).grownBy W none → RoomPost w lo b og Q l (.string ⟨#[]⟩) false (.returned (.tuple #[.string ⟨#[]⟩, .bool false])) W) := Lib.hid fun W hW =>
    ⟨rfl, q, _, HX5.out.kept hW, HGr.out, by dsimp only; rw [HL'.out, HLc.out]; exact hn1, rfl, rfl, HS5.out.trans (Stp.of_new hW)⟩
  clear x5 s5 hg4 hb4 hqb HX5 HS5 HX4 HGr HR' HC
  go_wp2
  go_ret2
  exact HF.out _ (World.grownBy_alloc _ _ none)
def PushPost (w : World) (lo b : Nat) (og : Option Nat) (Q : Qu) (l' : List Value) (v : Value) (goes : Bool) (e : Ending) (w' : World) : Prop :=
  e = .returned (.tuple #[v, .bool goes]) ∧ ∃ g' Q', QAt 62 9 w' lo b (some g') Q' ∧ Has Q' l' ∧ Q'.most = Q.most ∧ Q'.tot = Q.tot + 1 ∧ Stp b og (some g') w w'
set_option maxHeartbeats 1000000 in
theorem push_of {l' : List Value} {v : Value} {a : ByteArray} {goes : Bool} (hr : Calls Try.prog 25 #[.pointer (some ⟨b, 0, none⟩)] w (RoomPost w lo b og Q l' v goes)) (ht : Q.tot ≤ 1000000000) :
    Calls Try.prog 19 #[.pointer (some ⟨b, 0, none⟩), .string a] w (PushPost w lo b og Q (l' ++ [.string a]) v goes) := by
  have HR := Lib.hid hr
  clear hr
  go_enter Try.func19, Try.ntmps19
  go_wp2_with fail
  refine HR.out.mono ?_
  rintro e w2 ⟨rfl, g, Q', x2, h2, hlt, e1, e2, s2⟩
  obtain ⟨m, hm⟩ : ∃ m, Hid (Q.most = m) := ⟨_, Lib.hid rfl⟩
  have h6 := h2.room
  have h7 := h2.m2
  have h8 := h2.cnt
  have hf := h2.nonempty (fun e => by rw [e] at hlt; simp at hlt)
  have HS := Lib.hid (fun q => spot_at (x2.kept (grown_drewN w2 q none)) (by omega) hf Q'.cnt (by omega))
  have c1 := x2.c1
  have c3 := x2.c3
  unfold ringV at c1
  dsimp only at c1
  have hlt2 : (Q'.first + Q'.cnt) % Q'.R.length < Q'.R.length := Nat.mod_lt _ (by omega)
  have hcell := x2.rc ((Q'.first + Q'.cnt) % Q'.R.length)
  have hfr := x2.rfree ((Q'.first + Q'.cnt) % Q'.R.length)
  rw [List.getElem?_eq_getElem hlt2] at hcell
  obtain ⟨u, hu⟩ : ∃ u, Q'.R[(Q'.first + Q'.cnt) % Q'.R.length] = u := ⟨_, rfl⟩
  rw [hu] at hcell
  have HP := Lib.hid (h2.put (v := .string a) hlt rfl)
  have HX2 := Lib.hid x2
  have HS2 := Lib.hid s2
  have HE1 := Lib.hid e1
  have HE2 := Lib.hid e2
  obtain ⟨r, hr⟩ : ∃ r, Hid ((Q'.first + Q'.cnt) % Q'.R.length = r) := ⟨_, Lib.hid rfl⟩
  obtain ⟨n, hn⟩ : ∃ n, Hid (Q'.R.length = n) := ⟨_, Lib.hid rfl⟩
  obtain ⟨c, hc⟩ : ∃ c, Hid (Q'.cnt = c) := ⟨_, Lib.hid rfl⟩
  rw [hr.out] at HS hcell hfr hlt2
  rw [hn.out] at c1 hlt2 h6 hlt
  rw [hc.out] at HS c3 h8
  have hc6 : c ≤ 65536 := by omega
  clear x2 h2 e1 e2 s2 hu h6 h8 hf hlt h7
  go_wp2_with fail
  go_region_with (go_at_call 26; refine (HS.out _).mono ?_; rintro e w' ⟨rfl, q, rfl⟩)
  all_goals
    obtain ⟨x3, s3⟩ := (HX2.out.kept (grown_drewN w2 (1 + q) none)).setR r (.string a)
    have HX3 := Lib.hid x3
    have HS3 := Lib.hid ((HS2.out.trans (Stp.of_new (grown_drewN w2 (1 + q) none))).trans s3)
    clear x3 s3 c1 c3 hcell hfr
    generalize (w2.drewN (1 + q)).setCell ⟨g, r, none⟩ (.string a) = w3 at *
    have d3 := HX3.out.c3
    have d4 := HX3.out.c4
    have f3 := HX3.out.free 3
    have f4 := HX3.out.free 4
    dsimp only at d3 d4
    rw [hc.out] at d3
    obtain ⟨t, htt⟩ : ∃ t, Hid (Q'.tot = t) := ⟨_, Lib.hid rfl⟩
    rw [htt.out] at d4
    have ht2 : t ≤ 1000000000 := by rw [← htt.out, HE2.out]; exact ht
    obtain ⟨x4, s4⟩ := HX3.out.setC (c + 1)
    obtain ⟨x5, s5⟩ := x4.setT (t + 1)
    rw [show ((c + 1 : Nat) : Int) = (c : Int) + 1 by omega, show ((t + 1 : Nat) : Int) = (t : Int) + 1 by omega] at x5 s5
    rw [show ((c + 1 : Nat) : Int) = (c : Int) + 1 by omega] at s4
    have HF : Hid (PushPost w lo b og Q (l' ++ [.string a]) v goes (.returned (.tuple #[v, .bool goes])) ((w3.setCell ⟨b, 3, none⟩ (.int .i64 ((c : Int) + 1))).setCell ⟨b, 4, none⟩ (.int .u64 ((t : Int) + 1)))) := Lib.hid ⟨rfl, g, _, x5, by
      have := HP.out
      rw [hr.out, hc.out, htt.out] at this
      exact this, HE1.out, by dsimp only; rw [← htt.out, HE2.out], (HS3.out.trans s4).trans s5⟩
    clear x4 s4 x5 s5
    go_wp2
    go_ret2
    exact HF.out
end

/-! ### Ops -/

abbrev z0 : Value := .string ⟨#[]⟩
theorem over_nil (old : List Value) : over [] 0 old = old := by simp [over, rotl]
/-- what copyTo leaves -/
theorem copy_any {w : World} {lo b : Nat} {og : Option Nat} {Q : Qu} {l : List Value} (x : QAt 62 9 w lo b og Q) (hh : Has Q l) {q m : Nat} {old : List Value} (hq : w.heap[q]? = some (.cells old.toArray 9 (0, 0))) (hm : old.length = m) (hm6 : m ≤ 65536) (hqb : ¬ own b og q) :
    Calls Try.prog 31 #[.pointer (some ⟨b, 0, none⟩), .slice (some ⟨q, 0, none⟩) m m] w (CopyPost w q (over Q.R Q.first old)) := by
  have h6 := hh.room
  have h7 := hh.m2
  rcases hh.fst with hf | ⟨hR, hf⟩
  · cases og with
    | none => have := x.nor rfl; rw [this] at hf; simp at hf
    | some g => exact copy_some x hh.one hf (by omega) hq hm hm6 hqb
  · cases og with
    | none =>
      refine (copy_none x hf hq hm (by omega)).mono ?_
      rintro e w' ⟨he, n, rfl⟩
      refine ⟨he, grown_drewN _ _ _, ?_⟩
      rw [hR, hf, over_nil]
      exact hq
    | some g => exact absurd hR (x.yes g rfl)
/-- what a Push makes of the things, and tells -/
def pushed (z : Value) (m : Nat) (l : List Value) (y : Value) : Value × Bool × List Value := if l.length = m then (l.head?.getD z, true, l.tail ++ [y]) else (z, false, l ++ [y])
def popped (z : Value) (l : List Value) : Value × Bool × List Value := match l with
  | [] => (z, false, [])
  | v :: t => (v, true, t)
section
variable {w : World} {lo b : Nat} {og : Option Nat} {l : List Value} {most tot : Nat}
theorem IsQ.kept {w' : World} (h : IsQ w lo b og l most tot) (hg : w.grownBy w' none) : IsQ w' lo b og l most tot := by
  obtain ⟨Q, x, hh, e1, e2⟩ := h
  exact ⟨Q, x.kept hg, hh, e1, e2⟩
theorem IsQ.own_lo (h : IsQ w lo b og l most tot) {k : Nat} (hk : own b og k) : lo ≤ k ∧ k < w.heap.size := by
  obtain ⟨Q, x, hh, e1, e2⟩ := h
  exact x.own_lo hk
theorem IsQ.stay {w' : World} (h : IsQ w lo b og l most tot) (hs : ∀ k, k < w.heap.size → own b og k → w'.heap[k]? = w.heap[k]?) : IsQ w' lo b og l most tot := by
  obtain ⟨Q, x, hh, e1, e2⟩ := h
  exact ⟨Q, x.stay fun k hk => hs k (x.own_lo hk).2 hk, hh, e1, e2⟩
theorem IsQ.few (h : IsQ w lo b og l most tot) : l.length ≤ most ∧ most ≤ 65536 ∧ 1 ≤ most := by
  obtain ⟨Q, x, hh, e1, e2⟩ := h
  have := hh.lenR
  have := hh.room
  exact ⟨by omega, by have := hh.m2; omega, by have := hh.m1; omega⟩
def OpPost (w : World) (lo b : Nat) (og : Option Nat) (most tot : Nat) (p : Value × Bool × List Value) (e : Ending) (w' : World) : Prop :=
  e = .returned (.tuple #[p.1, .bool p.2.1]) ∧ ∃ og', IsQ w' lo b og' p.2.2 most tot ∧ Stp b og og' w w'
theorem push_is (h : IsQ w lo b og l most tot) (hlo : lo ≤ w.heap.size) (a : ByteArray) (ht : tot ≤ 1000000000) :
    Calls Try.prog 19 #[.pointer (some ⟨b, 0, none⟩), .string a] w (OpPost w lo b og most (tot + 1) (pushed z0 most l (.string a))) := by
  obtain ⟨Q, x, hh, rfl, rfl⟩ := h
  have h1 := hh.m1
  have h2 := hh.m2
  unfold pushed
  have hL := hh.lenR
  have hR := hh.room
  by_cases hfull : l.length = Q.most
  · rw [if_pos hfull]
    obtain ⟨v, t, rfl⟩ : ∃ v t, l = v :: t := by
      cases l with
      | nil => simp at hfull; omega
      | cons v t => exact ⟨v, t, rfl⟩
    cases og with
    | none => rw [x.nor rfl] at hL; simp at hL
    | some g =>
      refine (push_of (room_full x hh hfull) ht).mono ?_
      rintro e w' ⟨he, g', Q', x', h', e1, e2, s⟩
      exact ⟨he, some g', ⟨Q', x', h', e1, e2⟩, s⟩
  · rw [if_neg hfull]
    by_cases hthere : l.length < Q.R.length
    · cases og with
      | none => rw [x.nor rfl] at hthere; simp at hthere
      | some g =>
        refine (push_of (room_there x hh (by omega) hthere) ht).mono ?_
        rintro e w' ⟨he, g', Q', x', h', e1, e2, s⟩
        exact ⟨he, some g', ⟨Q', x', h', e1, e2⟩, s⟩
    · refine (push_of (room_grow x hh (by omega) (by omega) hlo fun W q n hW hq hqz hn6 => copy_any (x.kept hW) hh hq (by simp) hn6 (fun hk => by have := (x.own_lo hk).2; omega)) ht).mono ?_
      rintro e w' ⟨he, g', Q', x', h', e1, e2, s⟩
      exact ⟨he, some g', ⟨Q', x', h', e1, e2⟩, s⟩
theorem push_nil (a : ByteArray) (w : World) : Calls Try.prog 19 #[.pointer none, .string a] w fun e w' => e = .returned (.tuple #[z0, .bool false]) ∧ w.grownBy w' none := by
  go_enter Try.func19, Try.ntmps19
  go_wp2
  go_ret2
  exact ⟨rfl, World.grownBy_alloc _ _ none⟩
theorem pop_is (h : IsQ w lo b og l most tot) : Calls Try.prog 30 #[.pointer (some ⟨b, 0, none⟩)] w (OpPost w lo b og most tot (popped z0 l)) := by
  obtain ⟨Q, x, hh, rfl, rfl⟩ := h
  unfold popped
  cases l with
  | nil =>
    refine (pop_none x hh).mono ?_
    rintro e w' ⟨he, hg⟩
    exact ⟨he, og, ⟨Q, x.kept hg, hh, rfl, rfl⟩, Stp.of_new hg⟩
  | cons v t =>
    have hL := hh.lenR
    cases og with
    | none => rw [x.nor rfl] at hL; simp at hL
    | some g =>
      refine (pop_some x hh).mono ?_
      rintro e w' ⟨he, Q', x', h', e1, e2, e3, s⟩
      exact ⟨he, some g, ⟨Q', x', h', e1, e2⟩, s⟩
/-- what At tells -/
def atOf (z : Value) (l : List Value) (i : Int) : Value × Bool := if 0 ≤ i ∧ i < (l.length : Int) then (l[i.toNat]?.getD z, true) else (z, false)
theorem at_is (h : IsQ w lo b og l most tot) (i : Int) : Calls Try.prog 20 #[.pointer (some ⟨b, 0, none⟩), .int .i64 i] w fun e w' => e = .returned (.tuple #[(atOf z0 l i).1, .bool (atOf z0 l i).2]) ∧ w.grownBy w' none := by
  obtain ⟨Q, x, hh, rfl, rfl⟩ := h
  unfold atOf
  by_cases hi : 0 ≤ i ∧ i < (l.length : Int)
  · rw [if_pos hi]
    obtain ⟨k, rfl⟩ := Int.eq_ofNat_of_zero_le hi.1
    have hk : k < l.length := by omega
    have hL := hh.lenR
    cases og with
    | none => rw [x.nor rfl] at hL; simp only [List.length_nil] at hL; omega
    | some g =>
      have hv : l[k]? = some l[k] := List.getElem?_eq_getElem hk
      refine (at_yes x hh hv).mono ?_
      rintro e w' ⟨he, q, rfl⟩
      refine ⟨?_, grown_drewN _ _ _⟩
      rw [Int.toNat_natCast, hv]
      exact he
  · rw [if_neg hi]
    exact at_no x hh (by omega)
theorem len_is (h : IsQ w lo b og l most tot) : Calls Try.prog 27 #[.pointer (some ⟨b, 0, none⟩)] w fun e w' => e = .returned (.int .i64 (l.length : Int)) ∧ w = w' := by
  obtain ⟨Q, x, hh, rfl, rfl⟩ := h
  rw [hh.cnt]
  exact len_at x
theorem total_is (h : IsQ w lo b og l most tot) : Calls Try.prog 16 #[.pointer (some ⟨b, 0, none⟩)] w fun e w' => e = .returned (.int .u64 (tot : Int)) ∧ w = w' := by
  obtain ⟨Q, x, hh, rfl, rfl⟩ := h
  exact total_at x
/-- the things in a row that is as long as there are things -/
theorem copy_is (h : IsQ w lo b og l most tot) {q : Nat} {old : List Value} (hq : w.heap[q]? = some (.cells old.toArray 9 (0, 0))) (hm : old.length = l.length) (hqb : ¬ own b og q) :
    Calls Try.prog 31 #[.pointer (some ⟨b, 0, none⟩), .slice (some ⟨q, 0, none⟩) l.length l.length] w (CopyPost w q l) := by
  have hf := h.few
  obtain ⟨Q, x, hh, rfl, rfl⟩ := h
  have := copy_any x hh hq hm (by omega) hqb
  have e : over Q.R Q.first old = l := by
    unfold over
    rw [hm, List.drop_of_length_le (by have := hh.lenR; omega), List.append_nil]
    have := hh.are
    rw [← hh.cnt] at this
    exact this
  rw [e] at this
  exact this
end
end Go.Proofs.Ytcphbendmnmpiaa.Txt
