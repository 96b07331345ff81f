/-
  A thing comes: makeRoom and Push.
-/
import Derived.Test.YtcphbendmnmpiaaCopy
import Derived.Deep.RegionWith
namespace Go.Proofs.Ytcphbendmnmpiaa
open Go.ChangeShapes Go.WideShapes Go.ChangeAt Go.RowKit
set_option linter.unusedVariables false
set_option maxRecDepth 100000

theorem info2 : (Try.prog.info? 2).map (fun i => (i.zero, i.size, i.bytes)) = some (some (.int .i64 0), 1, 8) := by kernel_rfl
theorem made_eq (z : Value) (n : Nat) : madeCells #[z] n = (List.replicate n z).toArray := by
  apply Array.ext
  · simp [madeCells]
  · intro i h1 h2
    simp [madeCells, Nat.mod_one]
section
variable {w : World} {lo b : Nat} {og : Option Nat} {g : Nat} {Q : Qu} {l : List Value}
def RoomPost (w : World) (lo b : Nat) (og : Option Nat) (Q : Qu) (l' : List Value) (v : Value) (goes : Bool) (e : Ending) (w' : World) : Prop :=
  e = .returned (.tuple #[v, .bool goes]) ∧ ∃ g' Q', QAt 54 2 w' lo b (some g') Q' ∧ Has Q' l' ∧ l'.length < Q'.R.length ∧ Q'.most = Q.most ∧ Q'.tot = Q.tot ∧ Stp b og (some g') w w'
set_option maxHeartbeats 1000000 in
/-- the queue is full -/
theorem room_full {v : Value} {t : List Value} (x : QAt 54 2 w lo b (some g) Q) (hh : Has Q (v :: t)) (hfull : (v :: t).length = Q.most) :
    Calls Try.prog 22 #[.pointer (some ⟨b, 0, none⟩)] w (RoomPost w lo b (some g) Q t v true) := by
  have c0 := x.c0
  have c3 := x.c3
  have hc : Q.cnt = Q.most := by rw [← hfull]; exact hh.cnt.symm
  rw [hc] at c3
  have HX := Lib.hid x
  have HH := Lib.hid hh
  have hlen := hh.lenR
  simp only [List.length_cons] at hlen
  have HLen := Lib.hid hlen
  obtain ⟨m, hm⟩ : ∃ m, Q.most = m := ⟨_, rfl⟩
  rw [hm] at c0 c3
  have hd : ((m : Int) == (m : Int)) = true := by simp
  clear x hh hfull hc hlen hm
  go_enter Try.func22, Try.ntmps22
  go_wp2_with fail
  go_quiet (fail)
  have HP := Lib.hid (pop_some (HX.out.kept (grown_drewN w nq none)) HH.out)
  have HG := Lib.hid (grown_drewN w nq none)
  clear c0 c3
  generalize w.drewN nq = w1 at *
  go_wp2_with (go_at_call 10; refine HP.out.mono ?_; rintro e w2 ⟨rfl, Q', x2, h2, e1, e2, e3, s2⟩; have HF : Hid (RoomPost w lo b (some g) Q t v true (.returned (.tuple #[v, .bool true])) w2) := Lib.hid ⟨rfl, g, Q', x2, h2, by have := HLen.out; omega, e1, e2, (Stp.of_new HG.out).trans s2⟩; clear x2 h2 e1 e2 e3 s2)
  go_ret2
  exact HF.out
set_option maxHeartbeats 1000000 in
/-- there is room in the ring -/
theorem room_there (x : QAt 54 2 w lo b (some g) Q) (hh : Has Q l) (hnot : l.length < Q.most) (hthere : l.length < Q.R.length) :
    Calls Try.prog 22 #[.pointer (some ⟨b, 0, none⟩)] w (RoomPost w lo b (some g) Q l (.int .i64 0) false) := by
  have c0 := x.c0
  have c1 := x.c1
  have c3 := x.c3
  unfold ringV at c1
  dsimp only at c1
  have hc := hh.cnt
  have h6 := hh.room
  have h7 := hh.m2
  have HX := Lib.hid x
  have HH := Lib.hid hh
  have HT := Lib.hid hthere
  obtain ⟨m, hm⟩ : ∃ m, Q.most = m := ⟨_, rfl⟩
  obtain ⟨n, hn⟩ : ∃ n, Q.R.length = n := ⟨_, rfl⟩
  obtain ⟨c, hcc⟩ : ∃ c, Q.cnt = c := ⟨_, rfl⟩
  rw [hm] at c0
  rw [hn] at c1
  rw [hcc] at c3
  have hd : ((c : Int) == (m : Int)) = false := by simp; omega
  have hd2 : ((c : Int) == (n : Int)) = false := by simp; omega
  clear x hh hnot hthere hc h6 h7 hm hn hcc
  go_enter Try.func22, Try.ntmps22
  go_wp2_with fail
  go_quiet (fail)
  have HG1 := Lib.hid (grown_drewN w nq none)
  have d1 : (w.drewN nq).cell? ⟨b, 1, none⟩ = some (.slice (some ⟨g, 0, none⟩) n n) := c1
  have d3 : (w.drewN nq).cell? ⟨b, 3, none⟩ = some (.int .i64 (c : Int)) := c3
  clear c0 c1 c3
  generalize w.drewN nq = w1 at *
  go_wp2_with fail
  go_quiet (fail)
  have HG2 := Lib.hid (grown_trans HG1.out (grown_drewN w1 nq none))
  clear HG1 d1 d3
  generalize w1.drewN nq = w2 at *
  go_wp2_with fail
  have hfin : ∀ W, w.grownBy W none → RoomPost w lo b (some g) Q l (.int .i64 0) false (.returned (.tuple #[.int .i64 0, .bool false])) W := fun W hW => ⟨rfl, g, Q, HX.out.kept hW, HH.out, HT.out, rfl, rfl, Stp.of_new hW⟩
  have HFin := Lib.hid hfin
  clear hfin
  go_ret2
  exact HFin.out _ (grown_trans HG2.out (World.grownBy_alloc _ _ none))
set_option maxHeartbeats 1000000 in
/-- the ring grows -/
theorem room_grow (x : QAt 54 2 w lo b og Q) (hh : Has Q l) (hnot : l.length < Q.most) (hthere : l.length = Q.R.length) (hlo : lo ≤ w.heap.size)
    (hcp : ∀ W q n, w.grownBy W none → W.heap[q]? = some (.cells (List.replicate n (.int .i64 0)).toArray 2 (0, 0)) → w.heap.size ≤ q → n ≤ 65536 → Calls Try.prog 28 #[.pointer (some ⟨b, 0, none⟩), .slice (some ⟨q, 0, none⟩) n n] W (CopyPost W q (over Q.R Q.first (List.replicate n (.int .i64 0))))) :
    Calls Try.prog 22 #[.pointer (some ⟨b, 0, none⟩)] w (RoomPost w lo b og Q l (.int .i64 0) false) := by
  have c0 := x.c0
  have c1 := x.c1
  have c3 := x.c3
  have hc := hh.cnt
  have h6 := hh.room
  have h7 := hh.m2
  have HX := Lib.hid x
  have HH := Lib.hid hh
  have HCP := Lib.hid hcp
  have HLO := Lib.hid hlo
  have HRN := Lib.hid x.nor
  obtain ⟨m, hm⟩ : ∃ m, Hid (Q.most = m) := ⟨_, Lib.hid rfl⟩
  obtain ⟨c, hcc⟩ : ∃ c, Hid (Q.cnt = c) := ⟨_, Lib.hid rfl⟩
  have HR : Hid (Q.R.length = c) := Lib.hid (by rw [← hcc.out]; omega)
  have HLc : Hid (l.length = c) := Lib.hid (by rw [← hcc.out]; omega)
  rw [hm.out] at c0 hnot h7
  rw [hcc.out] at c3
  rw [HLc.out] at hnot
  obtain ⟨A, hA⟩ : ∃ A, ringV og Q.R.length = .slice A c c := by
    cases og with
    | none =>
      have := HR.out
      rw [HRN.out rfl] at this
      exact ⟨none, by unfold ringV; rw [← this]; rfl⟩
    | some g => exact ⟨_, by unfold ringV; rw [HR.out]⟩
  rw [hA] at c1
  obtain ⟨n, hn⟩ : ∃ n, Hid (min (2 * c + 1) m = n) := ⟨_, Lib.hid rfl⟩
  have hn1 : c < n := by rw [← hn.out]; omega
  have hn2 : n ≤ m := by rw [← hn.out]; omega
  have hmin : (if (m : Int) < 2 * (c : Int) + 1 then (m : Int) else 2 * (c : Int) + 1) = (n : Int) := by rw [← hn.out]; split <;> omega
  have hd : ((c : Int) == (m : Int)) = false := by simp; omega
  have hd2 : ((c : Int) == (c : Int)) = true := by simp
  have hmk := fun w => run_make_row' (P := Try.prog) 22 2 (.int .i64 0) 8 Try.underlying22 info2 rfl .i64 .i64 n (by omega) (by omega) w
  rw [made_eq] at hmk
  clear x hh hthere hc h6 hcp hA hlo
  go_enter Try.func22, Try.ntmps22
  go_wp2_with fail
  go_quiet (fail)
  have HG1 := Lib.hid (grown_drewN w nq none)
  have d0 : (w.drewN nq).cell? ⟨b, 0, none⟩ = some (.int .i64 (m : Int)) := c0
  have d1 : (w.drewN nq).cell? ⟨b, 1, none⟩ = some (.slice A c c) := c1
  have d3 : (w.drewN nq).cell? ⟨b, 3, none⟩ = some (.int .i64 (c : Int)) := c3
  clear c0 c1 c3
  generalize w.drewN nq = w1 at *
  go_wp2_with fail
  go_quiet (fail)
  have HG2 := Lib.hid (grown_trans HG1.out (grown_drewN w1 nq none))
  have c0 : (w1.drewN nq).cell? ⟨b, 0, none⟩ = some (.int .i64 (m : Int)) := d0
  have c3 : (w1.drewN nq).cell? ⟨b, 3, none⟩ = some (.int .i64 (c : Int)) := d3
  clear HG1 d0 d1 d3
  generalize w1.drewN nq = w2 at *
  go_wp2_with fail
  go_region
  have HB3 : Hid ((w2.alloc (.cells (Array.replicate n (.int .i64 0)) 2)).drew.heap[w2.heap.size]? = some (.cells (List.replicate n (.int .i64 0)).toArray 2 (0, 0))) := Lib.hid (by rw [List.toArray_replicate]; exact heap_alloc_new w2 _)
  have HG3 : Hid (w.grownBy (w2.alloc (.cells (Array.replicate n (.int .i64 0)) 2)).drew none) := Lib.hid (grown_trans HG2.out (grown_trans (World.grownBy_alloc _ _ none) (grown_drewN _ 1 none)))
  have HBz : Hid (w.heap.size ≤ w2.heap.size) := Lib.hid HG2.out.size
  have HBl : Hid (w2.heap.size < (w2.alloc (.cells (Array.replicate n (.int .i64 0)) 2)).drew.heap.size) := Lib.hid (by show w2.heap.size < (w2.alloc (.cells (Array.replicate n (.int .i64 0)) 2)).heap.size; simp)
  clear c0 c3 HG2 hmk
  generalize (w2.alloc (.cells (Array.replicate n (.int .i64 0)) 2)).drew = w3 at *
  generalize w2.heap.size = q at *
  have HC := Lib.hid (HCP.out w3 q n HG3.out HB3.out HBz.out (by omega))
  have hov : over Q.R Q.first (List.replicate n (Value.int .i64 0)) = rotl Q.R Q.first ++ List.replicate (n - Q.R.length) (.int .i64 0) := by
    unfold over
    rw [List.length_replicate, List.take_of_length_le (by rw [rotl_length, HR.out]; omega), List.drop_replicate]
  have hov2 : (rotl Q.R Q.first ++ List.replicate (n - Q.R.length) (Value.int .i64 0)).length = n := by rw [List.length_append, rotl_length, List.length_replicate, HR.out]; omega
  have HGr := Lib.hid (HH.out.grow (z := .int .i64 0) (n := n) rfl (by rw [hcc.out, HR.out]) (by rw [hcc.out]; exact hn1) (by rw [hm.out]; exact hn2)).1
  rw [hov] at HC
  obtain ⟨R', HR'⟩ : ∃ R', Hid (rotl Q.R Q.first ++ List.replicate (n - Q.R.length) (Value.int .i64 0) = R') := ⟨_, Lib.hid rfl⟩
  rw [HR'.out] at HC HGr hov2
  have HL' := Lib.hid hov2
  clear hov hov2 HB3
  go_wp2_with fail
  refine HC.out.mono ?_
  rintro e w4 ⟨⟨v, rfl⟩, hg4, hb4⟩
  have HX4 : Hid (QAt 54 2 w4 lo b og Q) := Lib.hid (HX.out.stay fun k hk => by
    have hk2 := (HX.out.own_lo hk).2
    have hz3 := HG3.out.size
    exact (hg4.block k (by omega) (fun e => by injection e with e; have := HBz.out; omega)).trans (HG3.out.block k hk2 (by simp)))
  have hqb : q ≠ b := fun e => by have := HX.out.blt; have := HBz.out; omega
  have c1 := HX4.out.c1
  have c2 := HX4.out.c2
  have f1 := HX4.out.free 1
  have f2 := HX4.out.free 2
  have x5 := HX4.out.setV (g := q) (R := R') (by have := HLO.out; have := HBz.out; omega) hb4 hqb (fun e => by have := HL'.out; rw [e] at this; simp at this; omega)
  rw [HL'.out] at x5
  have s5 : Stp b og (some q) w ((w4.setCell ⟨b, 1, none⟩ (.slice (some ⟨q, 0, none⟩) n n)).setCell ⟨b, 2, none⟩ (.int .i64 0)) := by
    have hb : But (own b og) w4 ((w4.setCell ⟨b, 1, none⟩ (.slice (some ⟨q, 0, none⟩) n n)).setCell ⟨b, 2, none⟩ (.int .i64 0)) := (But.of_set w4 b 1 _ (.inl rfl)).trans (But.of_set _ b 2 _ (.inl rfl))
    have h4 : w.grownBy w4 none := ⟨hg4.os.trans HG3.out.os, hg4.tape.trans HG3.out.tape, hg4.output.trans HG3.out.output, Nat.le_trans HG3.out.size hg4.size, fun k hk _ => (hg4.block k (Nat.lt_of_lt_of_le hk HG3.out.size) (fun e => by injection e with e; have := HBz.out; omega)).trans (HG3.out.block k hk (by simp))⟩
    refine ⟨(But.of_new h4).trans hb, fun k hk => ?_⟩
    rcases hk with rfl | hk
    · exact .inl (.inl rfl)
    · injection hk with hk
      rw [← hk]; exact .inr HBz.out
  have HX5 := Lib.hid x5
  have HS5 := Lib.hid s5
  have HF : Hid (∀ W, ((w4.setCell ⟨b, 1, none⟩ (.slice (some ⟨q, 0, none⟩) n n)).setCell ⟨b, 2, none⟩ (.int .i64 0)).grownBy W none → RoomPost w lo b og Q l (.int .i64 0) false (.returned (.tuple #[.int .i64 0, .bool false])) W) := Lib.hid fun W hW =>
    ⟨rfl, q, _, HX5.out.kept hW, HGr.out, by dsimp only; rw [HL'.out, HLc.out]; exact hn1, rfl, rfl, HS5.out.trans (Stp.of_new hW)⟩
  clear x5 s5 hg4 hb4 hqb HX5 HS5 HX4 HGr HR' HC
  go_wp2
  go_ret2
  exact HF.out _ (World.grownBy_alloc _ _ none)
def PushPost (w : World) (lo b : Nat) (og : Option Nat) (Q : Qu) (l' : List Value) (v : Value) (goes : Bool) (e : Ending) (w' : World) : Prop :=
  e = .returned (.tuple #[v, .bool goes]) ∧ ∃ g' Q', QAt 54 2 w' lo b (some g') Q' ∧ Has Q' l' ∧ Q'.most = Q.most ∧ Q'.tot = Q.tot + 1 ∧ Stp b og (some g') w w'
set_option maxHeartbeats 1000000 in
theorem push_of {l' : List Value} {v : Value} {a : Int} {goes : Bool} (hr : Calls Try.prog 22 #[.pointer (some ⟨b, 0, none⟩)] w (RoomPost w lo b og Q l' v goes)) (ht : Q.tot ≤ 1000000000) :
    Calls Try.prog 11 #[.pointer (some ⟨b, 0, none⟩), .int .i64 a] w (PushPost w lo b og Q (l' ++ [.int .i64 a]) v goes) := by
  have HR := Lib.hid hr
  clear hr
  go_enter Try.func11, Try.ntmps11
  go_wp2_with fail
  refine HR.out.mono ?_
  rintro e w2 ⟨rfl, g, Q', x2, h2, hlt, e1, e2, s2⟩
  obtain ⟨m, hm⟩ : ∃ m, Hid (Q.most = m) := ⟨_, Lib.hid rfl⟩
  have h6 := h2.room
  have h7 := h2.m2
  have h8 := h2.cnt
  have hf := h2.nonempty (fun e => by rw [e] at hlt; simp at hlt)
  have HS := Lib.hid (fun q => spot_at (x2.kept (grown_drewN w2 q none)) (by omega) hf Q'.cnt (by omega))
  have c1 := x2.c1
  have c3 := x2.c3
  unfold ringV at c1
  dsimp only at c1
  have hlt2 : (Q'.first + Q'.cnt) % Q'.R.length < Q'.R.length := Nat.mod_lt _ (by omega)
  have hcell := x2.rc ((Q'.first + Q'.cnt) % Q'.R.length)
  have hfr := x2.rfree ((Q'.first + Q'.cnt) % Q'.R.length)
  rw [List.getElem?_eq_getElem hlt2] at hcell
  obtain ⟨u, hu⟩ : ∃ u, Q'.R[(Q'.first + Q'.cnt) % Q'.R.length] = u := ⟨_, rfl⟩
  rw [hu] at hcell
  have HP := Lib.hid (h2.put (v := .int .i64 a) hlt rfl)
  have HX2 := Lib.hid x2
  have HS2 := Lib.hid s2
  have HE1 := Lib.hid e1
  have HE2 := Lib.hid e2
  obtain ⟨r, hr⟩ : ∃ r, Hid ((Q'.first + Q'.cnt) % Q'.R.length = r) := ⟨_, Lib.hid rfl⟩
  obtain ⟨n, hn⟩ : ∃ n, Hid (Q'.R.length = n) := ⟨_, Lib.hid rfl⟩
  obtain ⟨c, hc⟩ : ∃ c, Hid (Q'.cnt = c) := ⟨_, Lib.hid rfl⟩
  rw [hr.out] at HS hcell hfr hlt2
  rw [hn.out] at c1 hlt2 h6 hlt
  rw [hc.out] at HS c3 h8
  have hc6 : c ≤ 65536 := by omega
  clear x2 h2 e1 e2 s2 hu h6 h8 hf hlt h7
  go_wp2_with fail
  go_region_with (go_at_call 21; refine (HS.out _).mono ?_; rintro e w' ⟨rfl, q, rfl⟩)
  all_goals
    obtain ⟨x3, s3⟩ := (HX2.out.kept (grown_drewN w2 (1 + q) none)).setR r (.int .i64 a)
    have HX3 := Lib.hid x3
    have HS3 := Lib.hid ((HS2.out.trans (Stp.of_new (grown_drewN w2 (1 + q) none))).trans s3)
    clear x3 s3 c1 c3 hcell hfr
    generalize (w2.drewN (1 + q)).setCell ⟨g, r, none⟩ (.int .i64 a) = w3 at *
    have d3 := HX3.out.c3
    have d4 := HX3.out.c4
    have f3 := HX3.out.free 3
    have f4 := HX3.out.free 4
    dsimp only at d3 d4
    rw [hc.out] at d3
    obtain ⟨t, htt⟩ : ∃ t, Hid (Q'.tot = t) := ⟨_, Lib.hid rfl⟩
    rw [htt.out] at d4
    have ht2 : t ≤ 1000000000 := by rw [← htt.out, HE2.out]; exact ht
    obtain ⟨x4, s4⟩ := HX3.out.setC (c + 1)
    obtain ⟨x5, s5⟩ := x4.setT (t + 1)
    rw [show ((c + 1 : Nat) : Int) = (c : Int) + 1 by omega, show ((t + 1 : Nat) : Int) = (t : Int) + 1 by omega] at x5 s5
    rw [show ((c + 1 : Nat) : Int) = (c : Int) + 1 by omega] at s4
    have HF : Hid (PushPost w lo b og Q (l' ++ [.int .i64 a]) v goes (.returned (.tuple #[v, .bool goes])) ((w3.setCell ⟨b, 3, none⟩ (.int .i64 ((c : Int) + 1))).setCell ⟨b, 4, none⟩ (.int .u64 ((t : Int) + 1)))) := Lib.hid ⟨rfl, g, _, x5, by
      have := HP.out
      rw [hr.out, hc.out, htt.out] at this
      exact this, HE1.out, by dsimp only; rw [← htt.out, HE2.out], (HS3.out.trans s4).trans s5⟩
    clear x4 s4 x5 s5
    go_wp2
    go_ret2
    exact HF.out
end
end Go.Proofs.Ytcphbendmnmpiaa
