/-
  The state that is worked on: the cold hand's page is spared.
  The state that is worked on: the cold hand's page is evicted.
-/
import Derived.Test.YtejcahkkpednfaaG15
namespace Go.Proofs.Ytejcahkkpednfaa
open Go.RowKit
open Go.Proofs.StackM (Pg Cf Ct St up many fnd fnd_at fnd_no)
open Go.Proofs.WheelM
set_option linter.unusedVariables false
theorem hd_nat {a : Int} {n : Nat} (h : Hd a n) : a = (a.toNat : Int) := by have := h.1; omega
section
variable {lo B c : Nat} {w : World} {s : St} {r : R3} {A : Option Addr} {ev : List Int}
/-- the cells of a page in a block of its own -/
abbrev pgc (p : Pg) : Array Value := #[.int .u64 p.key, .int .i64 p.kind, .bool p.test, .bool p.mark]
abbrev pg0 : Array Value := #[.int .u64 0, .int .i64 0, .bool false, .bool false]
theorem raw_rises (s : St) (i : Nat) : raW (rises (leave (setc s (cClr s)) i)) = rises (leave (setc s (cClRa s)) i) := by
  unfold rises
  by_cases h : (leave (setc s (cClr s)) i).tg < (leave (setc s (cClr s)) i).cf.c - 1
  · rw [if_pos h, if_pos (show (leave (setc s (cClRa s)) i).tg < (leave (setc s (cClRa s)) i).cf.c - 1 from h)]; rfl
  · rw [if_neg h, if_neg (show ¬ (leave (setc s (cClRa s)) i).tg < (leave (setc s (cClRa s)) i).cf.c - 1 from h)]; rfl
theorem mkR_is {s : St} {p : Pg} (ht : p.test = true) : mkS s p = cool (mkR s p) := by
  unfold mkS mkR
  rw [if_neg (by rw [ht]; decide)]
theorem row_aside {e sz n : Nat} {xs : List Value} {A0 : Option Addr} {c0 b t k : Nat} {v : Value} {cs : Array Value} (h : w.ownsRow lo e sz (.slice A0 n c0) n xs) (hb : w.heap[b]? = some (.cells cs t (0, 0))) (hne : e ≠ t) : (w.setCell ⟨b, k, none⟩ v).ownsRow lo e sz (.slice A0 n c0) n xs :=
  owns_grown h (grown_setCell w b k v) (fun a e1 e2 => by
    subst e1
    injection e2 with e2
    obtain ⟨_, cur, hc⟩ := owns_type h (k := a.block) rfl
    rw [e2] at hc
    exact hne (type_eq hc hb))
/-- a cell of a page that stands aside is written -/
theorem WK.aside (h : WK lo w B s r A c ev) {b : Nat} {cs : Array Value} (hb : w.heap[b]? = some (.cells cs 58 (0, 0))) (hne : ∀ a, r.a1 = some a → a.block ≠ b) (k : Nat) (v : Value) : WK lo (w.setCell ⟨b, k, none⟩ v) B s r A c ev := by
  have hB : B ≠ b := fun e => by subst e; exact absurd (type_eq h.box hb) (by decide)
  refine ⟨?_, h.hlo, ⟨owns_grown h.rows.pg (grown_setCell w b k v) (fun a e1 e2 => hne a e1 (by injection e2)), row_aside h.rows.qu hb (by decide), row_aside h.rows.gh hb (by decide), row_aside h.rows.ev hb (by decide), h.rows.qg, h.rows.qe, h.rows.ge⟩⟩
  rw [Below.heap_setCell w ⟨b, k, none⟩ v B hB]
  exact h.box
theorem leave_set (s : St) (i : Nat) (y : Pg) : leave { s with pg := s.pg.set i y } i = leave s i := by
  unfold leave
  dsimp only
  rw [List.length_set, List.eraseIdx_set_eq]
set_option maxHeartbeats 4000000 in
set_option maxRecDepth 100000 in
theorem pspare_at (h : WK lo w B s r A c ev) (i : Nat) (p : Pg) (hi : s.co = (i : Int)) (hp : s.pg[i]? = some p) (hk : p.kind = 2) (hm : p.mark = true) (hw : Ww s) (hl : s.pg.length ≤ 1000) : Calls Try.prog 80 #[.pointer (some ⟨B, 0, none⟩)] w fun e w' => e = .returned (.tuple #[]) ∧ WP lo w B (mkS s p) ev w' := by
  obtain ⟨hlt, hpi⟩ := List.getElem?_eq_some_iff.1 hp
  have d8 := h.at8
  rw [hi] at d8
  have C1 := Lib.hid (clearM_at h i p hp hl)
  have HP := Lib.hid (And.intro hi (And.intro hp (And.intro hk (And.intro hm (And.intro hw (And.intro hl hlt))))))
  clear h hp hk hm hw hl hlt hpi hi
  go_enter Try.func80, Try.ntmps80
  go_wp2_with fail
  refine C1.out.mono ?_
  rintro e w1 ⟨rfl, r1, A1, c1, h1, hb1⟩
  have hl1 : ({ s with pg := s.pg.set i { p with mark := false }, ct := { s.ct with cl := up s.ct.cl } } : St).pg.length = s.pg.length := List.length_set
  obtain ⟨g, ha, hcap, q0, q1, q2, q3, fz⟩ := h1.page (i := i) (by rw [hl1]; exact HP.out.2.2.2.2.2.2)
  have h1z := h1.kept (alloc_below w1 (.cells pg0 58))
  obtain ⟨g', ha', _, y0, y1, y2, y3, fz0⟩ := h1z.page (i := i) (by rw [hl1]; exact HP.out.2.2.2.2.2.2)
  obtain rfl : g = g' := by rw [ha] at ha'; injection ha' with h; injection h
  dsimp only at q0 q1 q2 q3 y0 y1 y2 y3
  rw [List.getElem_set_self] at q0 q1 q2 q3 y0 y1 y2 y3
  have x5 := h1.at5
  have x8 := h1.at8
  have z5 := h1z.at5
  have z8 := h1z.at8
  dsimp only at x5 x8 z5 z8
  rw [List.length_set, ha] at x5 z5
  rw [HP.out.1] at x8 z8
  obtain ⟨w2, hw2⟩ : ∃ w2, w2 = w1.alloc (.cells (pgc { p with mark := false }) 58) := ⟨_, rfl⟩
  have hb2 : Below w1.heap.size w1 w2.drew := by rw [hw2]; exact below_drew (alloc_below w1 _) 1
  have h2 := h1.kept hb2
  have he : w2.drew.heap[w1.heap.size]? = some (.cells (pgc { p with mark := false }) 58 (0, 0)) := by rw [hw2]; exact Array.getElem?_push_size
  have t8 := h2.at8
  dsimp only at t8
  rw [HP.out.1] at t8
  have CL := Lib.hid (pleave_fr h2 i (by rw [hl1]; exact HP.out.2.2.2.2.2.2) (by rw [hl1]; exact HP.out.2.2.2.2.2.1) (by rw [hl1]; exact HP.out.2.2.2.2.1.hc) (by rw [hl1]; exact HP.out.2.2.2.2.1.ht))
  have H2 := Lib.hid (And.intro h2 (And.intro (hb1.trans (hb2.mono h1.low)) (And.intro he ha)))
  have HW := Lib.hid hw2
  obtain ⟨n, hn⟩ : ∃ n, n = s.pg.length := ⟨_, rfl⟩
  rw [← hn] at x5 z5
  have z0 : (0 : Int) ≤ (i : Int) := by omega
  have z1 : (i : Int) < (n : Int) := by have := HP.out.2.2.2.2.2.2; omega
  have hB1 : B < w1.heap.size := h1.lt
  have hg1 : g ≠ w1.heap.size := by have := (h1.rows.pg.lt g (by rw [ha]; rfl)).2; omega
  have HBG := Lib.hid (And.intro hB1 hg1)
  clear h1 hb1 h1z fz fz0 hw2 hb2 h2 he hn ha ha' hcap C1 hl1 hB1 hg1
  obtain ⟨p0, p1, p2, p3⟩ := p
  dsimp only at q0 q1 q2 q3 y0 y1 y2 y3
  go_wp2_with fail
  go_region
  rw [← HW.out]
  clear q0 q1 q2 q3 y0 y1 y2 y3 x5 x8 z5 z8
  go_wp2_with fail
  refine CL.out.mono ?_
  rintro e w3 ⟨rfl, h3, hb3, hf3⟩
  have hs3 : leave { s with pg := s.pg.set i ⟨p0, p1, p2, false⟩, ct := { s.ct with cl := up s.ct.cl } } i = leave (setc s (cClr s)) i := leave_set (setc s (cClr s)) i _
  rw [hs3] at h3
  have he3 : w3.heap[w1.heap.size]? = some (.cells (pgc ⟨p0, p1, p2, false⟩) 58 (0, 0)) := by
    rw [hf3.block w1.heap.size (Array.getElem?_eq_some_iff.1 H2.out.2.2.1).1 (fun e => ?_)]
    · exact H2.out.2.2.1
    · rcases e with e | e
      · have := HBG.out.1; omega
      · rw [H2.out.2.2.2] at e
        injection e with e
        exact HBG.out.2 e.symm
  have e0 : w3.cell? ⟨w1.heap.size, 0, none⟩ = some (.int .u64 p0) := by rw [cell_of_head he3]; rfl
  have e1 : w3.cell? ⟨w1.heap.size, 1, none⟩ = some (.int .i64 p1) := by rw [cell_of_head he3]; rfl
  have e2 : w3.cell? ⟨w1.heap.size, 2, none⟩ = some (.bool p2) := by rw [cell_of_head he3]; rfl
  have e3 : w3.cell? ⟨w1.heap.size, 3, none⟩ = some (.bool false) := by rw [cell_of_head he3]; rfl
  have H3 := Lib.hid (And.intro h3 (And.intro (H2.out.2.1.trans hb3) he3))
  have hit : i = s.co.toNat := by have := HP.out.1; omega
  have HIT := Lib.hid hit
  clear h3 hb3 hf3 hs3 he3 hit CL
  cases p2
  · have ffp : w3.frozen? ⟨w1.heap.size, 2, none⟩ = false := frozen_of_head H3.out.2.2 2
    obtain ⟨w4, hw4⟩ : ∃ w4, w4 = w3.setCell ⟨w1.heap.size, 2, none⟩ (.bool true) := ⟨_, rfl⟩
    have h4 := H3.out.1.aside H3.out.2.2 (fun a e => by rw [H2.out.2.2.2] at e; injection e with e; subst e; exact HBG.out.2) 2 (.bool true)
    rw [← hw4] at h4
    have hb4 : Below lo w w4 := by rw [hw4]; exact below_setCell H3.out.2.1 (by have := H3.out.1.hlo; have := HBG.out.1; show lo ≤ w1.heap.size; omega)
    have hp9 : p3 = true := HP.out.2.2.2.1
    subst hp9
    have hmk : head (leave (setc s (cClr s)) i) ⟨p0, p1, true, false⟩ = mkS s ⟨p0, p1, false, true⟩ := by rw [mkS_T rfl, HIT.out]; rfl
    have C5 := phead_at h4 p0 p1 true false (by show (s.pg.eraseIdx i).length ≤ 2000; rw [List.length_eraseIdx_of_lt HP.out.2.2.2.2.2.2]; have := HP.out.2.2.2.2.2.1; omega)
    rw [hmk] at C5
    have C := Lib.hid C5
    have HB := Lib.hid hb4
    have HW4 := Lib.hid hw4
    clear h4 hb4 hw4 hmk C5
    go_wp2_with fail
    rw [← HW4.out]
    refine C.out.mono ?_
    rintro e w5 ⟨rfl, h5⟩
    have H5 := Lib.hid (WP.trans HB.out h5)
    clear h5
    go_wp2_with fail
    go_end0
    exact ⟨rfl, H5.out⟩
  · have htg := HP.out.2.2.2.2.1.tg
    have hck := HP.out.2.2.2.2.1.ck.2.1
    have C4 := Lib.hid (raiT_fr H3.out.1 htg.1 htg.2 (by show s.cf.c ≤ 1000; omega))
    clear htg hck
    go_wp2_with fail
    refine C4.out.mono ?_
    rintro e w4 ⟨rfl, ⟨r4, A4, c4, h4, hb4⟩, hf4⟩
    have he4 : w4.heap[w1.heap.size]? = some (.cells (pgc ⟨p0, p1, true, false⟩) 58 (0, 0)) := by
      rw [hf4.block w1.heap.size (Array.getElem?_eq_some_iff.1 H3.out.2.2).1 (fun e => ?_)]
      · exact H3.out.2.2
      · have := HBG.out.1; omega
    have v0 : w4.cell? ⟨w1.heap.size, 0, none⟩ = some (.int .u64 p0) := by rw [cell_of_head he4]; rfl
    have hmk : head (raW (rises (leave (setc s (cClr s)) i))) ⟨p0, 1, false, false⟩ = mkR s ⟨p0, p1, true, true⟩ := by rw [raw_rises, HIT.out]; rfl
    have hp9 : p3 = true := HP.out.2.2.2.1
    subst hp9
    have hwr := mkR_ww HP.out.2.2.2.2.1 (p := ⟨p0, p1, true, true⟩) (by rw [← HIT.out]; exact HP.out.2.1)
    rw [← hmk] at hwr
    have hwh : Ww (head (rises (leave (setc s (cClr s)) i)) ⟨p0, 1, false, false⟩) := hwr.setc (rises (leave (setc s (cClr s)) i)).ct
    have C5 := praise_at h4 p0 hwh (by rw [rises_pg]; show (s.pg.eraseIdx i).length + 1 ≤ 1000; rw [List.length_eraseIdx_of_lt HP.out.2.2.2.2.2.2]; have := HP.out.2.2.2.2.2.1; omega)
    rw [hmk, ← mkR_is rfl] at C5
    have C := Lib.hid C5
    have HB := Lib.hid (H3.out.2.1.trans hb4)
    clear h4 hb4 hf4 he4 hmk hwr hwh C5 C4
    go_wp2_with fail
    refine C.out.mono ?_
    rintro e w5 ⟨rfl, h5⟩
    have H5 := Lib.hid (WP.trans HB.out h5)
    clear h5
    go_wp2_with fail
    (try simp only [Exit.inBlock, Exit.then])
    refine bodyPost_ret (results_none rfl _ _ _) rfl ?_
    exact ⟨rfl, H5.out⟩
end
end Go.Proofs.Ytejcahkkpednfaa
namespace Go.Proofs.Ytejcahkkpednfaa
open Go.RowKit
open Go.Proofs.StackM (Pg Cf Ct St up many fnd fnd_at fnd_no)
open Go.Proofs.WheelM
set_option linter.unusedVariables false
def cEv1 (s : St) : Ct := { s.ct with ev := up s.ct.ev }
/-- the cold hand's page is taken from what is kept -/
def evS (s : St) (p : Pg) : St :=
  if p.test = false then leave (setc s (cEv1 s)) s.co.toNat
  else { setc s (cEv1 s) with pg := s.pg.set s.co.toNat { p with kind := 3 }, co := onw s.co s.pg.length }
section
variable {lo B c : Nat} {w : World} {s : St} {r : R3} {A : Option Addr} {ev : List Int}
set_option maxHeartbeats 4000000 in
set_option maxRecDepth 100000 in
theorem pevict_at (h : WK lo w B s r A c ev) (i : Nat) (p : Pg) (hi : s.co = (i : Int)) (hp : s.pg[i]? = some p) (hw : Ww s) (hl : s.pg.length ≤ 1000) (hev : ev.length ≤ 5000) : Calls Try.prog 81 #[.pointer (some ⟨B, 0, none⟩)] w fun e w' => e = .returned (.tuple #[]) ∧ WP lo w B (evS s p) (ev ++ [p.key]) w' := by
  obtain ⟨hlt, hpi⟩ := List.getElem?_eq_some_iff.1 hp
  obtain ⟨g, ha, hcap, q0, q1, q2, q3, fz⟩ := h.page (i := i) hlt
  have hz := h.kept (alloc_below w (.cells pg0 58))
  obtain ⟨g', ha', _, y0, y1, y2, y3, fz0⟩ := hz.page (i := i) hlt
  obtain rfl : g = g' := by rw [ha] at ha'; injection ha' with h; injection h
  rw [hpi] at q0 q1 q2 q3 y0 y1 y2 y3
  have x5 := h.at5
  have x8 := h.at8
  have z5 := hz.at5
  have z8 := hz.at8
  rw [ha] at x5 z5
  rw [hi] at x8 z8
  obtain ⟨w2, hw2⟩ : ∃ w2, w2 = (w.alloc (.cells (pgc p) 58)).drew := ⟨_, rfl⟩
  have hb2 : Below w.heap.size w w2 := by rw [hw2]; exact below_drew (alloc_below w _) 1
  have h2 := h.kept hb2
  have he : w2.heap[w.heap.size]? = some (.cells (pgc p) 58 (0, 0)) := by rw [hw2]; exact Array.getElem?_push_size
  have hs2 : w2.heap.size = w.heap.size + 1 := by rw [hw2]; show (w.alloc _).heap.size = _; simp
  -- the key is noted
  have hd3 : Below w2.heap.size w2 w2.drew := below_drew (Below.refl _ _) 1
  have hD := h2.kept hd3
  obtain ⟨g3, cap3, w3, hrun, ho3, hg3, hn3⟩ := appU1 p.key hD.rows.ev hD.low (by omega)
  have hrun' : (Builtin.append_ #[26, 26] 26 #[.slice A ev.length c, .slice (some ⟨w2.heap.size, 0, none⟩) 1 1]).run Try.prog ((w2.alloc (.cells #[.int .u64 p.key] 27)).drew) = .ok (.slice (some ⟨g3, 0, none⟩) (ev.length + 1) cap3) w3 := hrun
  have hgr : w2.drew.grownBy w3 (ob A) := by rw [← ob_eq]; exact hg3
  have hlen : ev.length + 1 = (ev ++ [p.key]).length := by simp
  have hfr : Fr2 w2.drew A (some ⟨g3, 0, none⟩) := fun a e => by
    injection e with e
    subst e
    rcases hn3 with h9 | h9
    · obtain ⟨a, e1, e2⟩ := ob_some h9
      exact .inl ⟨a, e1, e2⟩
    · exact .inr h9
  have h4 := hD.evTo (l := ev ++ [p.key]) (A' := some ⟨g3, 0, none⟩) (c' := cap3) (n := ev.length + 1) hgr (by rw [← hlen]; exact ho3) hfr hlen
  have hbx := box_grown hD.box hD.rows.ev (by decide) hgr
  have f20 : w3.frozen? ⟨B, 20, none⟩ = false := frozen_of_head hbx 20
  have v20 : w3.cell? ⟨B, 20, none⟩ = some (.slice A ev.length c) := by rw [cell_of_head hbx]; rfl
  have d20 := h2.at20
  have d20b := (h2.kept (alloc_below w2 (.cells #[.int .u64 p.key] 27))).at20
  have e0 : w2.cell? ⟨w.heap.size, 0, none⟩ = some (.int .u64 p.key) := by rw [cell_of_head he]; rfl
  have heb : (w2.alloc (.cells #[.int .u64 p.key] 27)).heap[w.heap.size]? = some (.cells (pgc p) 58 (0, 0)) := by
    rw [(alloc_below w2 (.cells #[.int .u64 p.key] 27)).block w.heap.size (by omega)]; exact he
  have e0b : (w2.alloc (.cells #[.int .u64 p.key] 27)).cell? ⟨w.heap.size, 0, none⟩ = some (.int .u64 p.key) := by rw [cell_of_head heb]; rfl
  have hBb : B ≠ w.heap.size := by have := h.lt; omega
  have hBb2 : B ≠ w2.heap.size := by have := h.lt; omega
  have he3 : w3.heap[w.heap.size]? = some (.cells (pgc p) 58 (0, 0)) := by
    rw [hgr.block w.heap.size (by show w.heap.size < w2.heap.size; omega) (fun e => ?_)]
    · exact he
    · obtain ⟨a, e1, e2⟩ := ob_some e.symm
      have := hD.rows.ev
      rw [e1] at this
      obtain ⟨_, cur, hc⟩ := owns_type this (k := a.block) rfl
      rw [e2] at hc
      exact absurd (type_eq hc he) (by decide)
  obtain ⟨w4, hw4⟩ : ∃ w4, w4 = w3.setCell ⟨B, 20, none⟩ (.slice (some ⟨g3, 0, none⟩) (ev.length + 1) cap3) := ⟨_, rfl⟩
  rw [← hw4] at h4
  have he4 : w4.heap[w.heap.size]? = some (.cells (pgc p) 58 (0, 0)) := by
    rw [hw4, Below.heap_setCell w3 ⟨B, 20, none⟩ _ w.heap.size (fun e => hBb e.symm)]; exact he3
  have hb4 : Below lo w w4 := by rw [hw4]; exact below_setCell (((hb2.mono h.low).trans (hd3.mono h2.low)).trans (grown_lo hD.rows.ev hgr hD.low)) h.hlo
  have d15 := h4.at15
  have f15 := h4.free 15
  have hup := wrap_up s.ct.ev
  have e2 : w4.cell? ⟨w.heap.size, 2, none⟩ = some (.bool p.test) := by rw [cell_of_head he4]; rfl
  have h5 := h4.ct15 (up s.ct.ev)
  obtain ⟨w5, hw5⟩ : ∃ w5, w5 = w4.setCell ⟨B, 15, none⟩ (.int .u64 (up s.ct.ev)) := ⟨_, rfl⟩
  rw [← hw5] at h5
  have hb5 : Below lo w w5 := by rw [hw5]; exact below_setCell hb4 h.hlo
  have u8 := h4.at8
  rw [hi] at u8
  have H5 := Lib.hid (And.intro h5 hb5)
  have H4 := Lib.hid (And.intro h4 hb4)
  have HW := Lib.hid (And.intro hw2 (And.intro hw4 hw5))
  have HR := Lib.hid hrun'
  have HP := Lib.hid (And.intro hi (And.intro hp (And.intro hw (And.intro hl (And.intro hlt ha)))))
  obtain ⟨n, hn⟩ : ∃ n, n = s.pg.length := ⟨_, rfl⟩
  rw [← hn] at x5 z5
  have z0 : (0 : Int) ≤ (i : Int) := by omega
  have z1 : (i : Int) < (n : Int) := by omega
  have HN := Lib.hid hn
  clear h hz fz fz0 hw2 hb2 h2 he hs2 hd3 hD hrun ho3 hg3 hn3 hrun' hgr hfr h4 hbx heb he3 hw4 he4 hb4 h5 hw5 hb5 hpi hp hw hl hlt ha ha' hcap hi hn
  obtain ⟨m, hm⟩ : ∃ m, m = ev.length := ⟨_, rfl⟩
  rw [← hm] at v20 d20 d20b HR HW
  clear hm hlen hev
  have CLV := Lib.hid (pleave_at H5.out.1 i HP.out.2.2.2.2.1 HP.out.2.2.2.1 HP.out.2.2.1.hc HP.out.2.2.1.ht)
  have u5 := H4.out.1.at5
  rw [HP.out.2.2.2.2.2, ← HN.out] at u5
  obtain ⟨g9, ha9, _, _, u1', _, _, fz4⟩ := H4.out.1.page (i := i) HP.out.2.2.2.2.1
  obtain rfl : g = g9 := by have := HP.out.2.2.2.2.2; rw [this] at ha9; injection ha9 with h; injection h
  have fg1 := fz4 (i * 4 + 1)
  obtain ⟨old, u1⟩ : ∃ o, w4.cell? ⟨g, i * 4 + 1, none⟩ = some o := ⟨_, u1'⟩
  clear u1'
  have hBg : B ≠ g := fun e => box_row H4.out.1.box H4.out.1.rows.pg (by decide) ⟨g, 0, none⟩ HP.out.2.2.2.2.2 e.symm
  have e9 : s.pg[i]'HP.out.2.2.2.2.1 = p := (List.getElem?_eq_some_iff.1 HP.out.2.1).2
  have hy9 : (penc (s.pg[i]'HP.out.2.2.2.2.1)).set 1 (.int .i64 3) = penc { p with kind := 3 } := by rw [e9]; rfl
  have hps := H5.out.1.pageSet (i := i) (j := 1) HP.out.2.2.2.2.1 HP.out.2.2.2.2.2 (by omega) (.int .i64 3) { p with kind := 3 } hy9
  obtain ⟨w6, hw6⟩ : ∃ w6, w6 = (w5.setCell ⟨g, i * 4 + 1, none⟩ (.int .i64 3)).drew := ⟨_, rfl⟩
  have hb6 : Below (w5.setCell ⟨g, i * 4 + 1, none⟩ (.int .i64 3)).heap.size (w5.setCell ⟨g, i * 4 + 1, none⟩ (.int .i64 3)) w6 := by rw [hw6]; exact below_drew (Below.refl _ _) 1
  have h6 := hps.1.kept hb6
  have hl6 : (s.pg.set i { p with kind := 3 }).length = s.pg.length := List.length_set
  have v8 := h6.at8
  have fv8 := h6.free 8
  dsimp only at v8
  have h7 := h6.coTo (onw s.co s.pg.length)
  have hb7 : Below lo w (w6.setCell ⟨B, 8, none⟩ (.int .i64 (onw s.co s.pg.length))) := below_setCell ((H5.out.2.trans hps.2).trans (hb6.mono hps.1.low)) H5.out.1.hlo
  have CN := Lib.hid (pnext_at h6 s.co (by have k1 := HP.out.1; have k2 := HP.out.2.2.2.2.1; have k3 := HP.out.2.2.2.1; omega) (by rw [hl6]; have := HP.out.2.2.2.2.1; have := HP.out.2.2.2.1; omega))
  rw [hl6] at CN
  have H7 := Lib.hid (h7.to hb7)
  have HW6 := Lib.hid hw6
  have hco := HP.out.1
  rw [hco] at v8
  rw [hco] at CN
  clear e9 hy9 hps hw6 hb6 h6 hl6 h7 hb7 hco fz4 ha9
  obtain ⟨p0, p1, p2, p3⟩ := p
  dsimp only at q0 q1 q2 q3 y0 y1 y2 y3 e0 e0b e2
  go_enter Try.func81, Try.ntmps81
  go_wp2_with fail
  go_region
  rw [← HW.out.1]
  clear q0 q1 q2 q3 y0 y1 y2 y3 x5 x8 z5 z8
  go_wp2_with fail
  go_region_law ((refine step_append_run rfl (.tmp 19) (.tmp 22) 26 rfl rfl rfl HR.out ?_))
  all_goals rw [← HW.out.2.1]
  all_goals clear d20 d20b e0 e0b v20 f20
  all_goals cases p2
  all_goals go_wp2_with fail
  all_goals try go_region
  all_goals first
    | (rw [← HW.out.2.2, ← HW6.out]
       go_wp2_with fail
       refine CN.out.mono ?_
       rintro e w7 ⟨rfl, h7⟩
       subst h7
       go_wp2_with fail
       go_end0
       refine ⟨rfl, ?_⟩
       have hE : evS s ⟨p0, p1, true, p3⟩ = { setc s (cEv1 s) with pg := s.pg.set i ⟨p0, 3, true, p3⟩, co := onw s.co s.pg.length } := by unfold evS; rw [if_neg (show ¬ (true = false) by decide), show s.co.toNat = i by rw [HP.out.1]; rfl]
       rw [hE]
       have h9 := H7.out
       rw [HP.out.1] at h9 ⊢
       exact h9)
    | (rw [← HW.out.2.2]
       refine CLV.out.mono ?_
       rintro e w7 ⟨rfl, h7⟩
       have HF7 := Lib.hid (WP.trans H5.out.2 h7)
       clear h7
       go_wp2_with fail
       (try simp only [Exit.inBlock, Exit.then])
       refine bodyPost_ret (results_none rfl _ _ _) rfl ?_
       refine ⟨rfl, ?_⟩
       have hE : evS s ⟨p0, p1, false, p3⟩ = leave (setc s (cEv1 s)) i := by unfold evS; rw [if_pos rfl, HP.out.1]; rfl
       rw [hE]
       exact HF7.out)
end
end Go.Proofs.Ytejcahkkpednfaa
