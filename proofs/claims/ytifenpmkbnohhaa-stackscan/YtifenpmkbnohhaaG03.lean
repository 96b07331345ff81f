/-
  The document's states: Kept, New, gone, prune.
  The document's states: a state without a key; the frame of a function that tells a state.
  The document's states: the stack is pruned.
  The document's states: the ghosts are trimmed.
  The document's states: too many hot pages are lowered.
  The document's states: a key is raised; a key stands cold.
  The document's states: Drop, Touch.
-/
import Derived.Test.YtifenpmkbnohhaaG02
namespace Go.Proofs.Ytifenpmkbnohhaa
open Go.RowKit
open Go.Proofs.StackM
set_option linter.unusedVariables false
set_option maxHeartbeats 1000000 in
set_option maxRecDepth 100000 in
theorem kept_at (s : St) (r : R3) (k : Int) (hl : Lim s 100000) (w : World) (hr : SR w s r) : Calls Try.prog 18 #[sV s r, .int .u64 k] w fun e w' => e = .returned (.bool (decide (Kpt s k))) ∧ Below w.heap.size w w' := by
  have x := Fr.start1 hr
  obtain ⟨w1, hw1⟩ : ∃ w1, w1 = w.alloc (.cells (sA s r) 31) := ⟨_, rfl⟩
  rw [← hw1] at x
  have HW := Lib.hid hw1
  obtain ⟨z, hz⟩ : ∃ z, z = kOf s k := ⟨_, rfl⟩
  obtain ⟨b, hb⟩ : ∃ b, b = decide (Kpt s k) := ⟨_, rfl⟩
  rw [← hb]
  have hb2 : b = decide (z = 1 ∨ z = 2) := by rw [hb, hz]; rfl
  have C24 := Lib.hid (fun V hV => is_at s r k hl V hV)
  rw [← hz] at C24
  have HX := Lib.hid x
  have HB := Lib.hid hb2
  clear hz hb hb2 hw1 x hr hl
  by_cases h1 : z = 1
  · subst h1
    obtain rfl : b = true := HB.out
    go_enter Try.func18, Try.ntmps18
    go_wp2_with (first | fail | (rw [← HW.out]; refine ld31 rfl (.tmp 2) rfl _ rfl _ HX.out.box ?_))
    refine (C24.out _ HX.out.rows).mono ?_
    rintro e w2 ⟨rfl, h2⟩
    go_wp2
    go_ret
    exact ⟨rfl, (HX.out.keep h2).bel⟩
  · have hz1 : (z == 1) = false := by simpa using h1
    go_enter Try.func18, Try.ntmps18
    go_wp2_with (first | fail | (rw [← HW.out]; refine ld31 rfl (.tmp 2) rfl _ rfl _ HX.out.box ?_))
    refine (C24.out _ HX.out.rows).mono ?_
    rintro e w2 ⟨rfl, h2⟩
    have x2 := HX.out.keep h2
    have HX2 := Lib.hid x2
    clear x2 h2 HX HW
    go_wp2_with (first | fail | refine ld31g rfl (.tmp 2) rfl _ rfl _ HX2.out.box ?_)
    refine (C24.out _ HX2.out.rows).mono ?_
    rintro e w3 ⟨rfl, h3⟩
    by_cases h2 : z = 2
    · subst h2
      obtain rfl : b = true := HB.out
      go_wp2
      go_ret
      exact ⟨rfl, (HX2.out.keep h3).bel⟩
    · have hz2 : (z == 2) = false := by simpa using h2
      obtain rfl : b = false := by rw [HB.out]; exact decide_eq_false (fun h => h.elim h1 h2)
      go_wp2
      go_ret
      exact ⟨rfl, (HX2.out.keep h3).bel⟩
end Go.Proofs.Ytifenpmkbnohhaa
namespace Go.Proofs.Ytifenpmkbnohhaa
open Go.RowKit
open Go.Proofs.StackM
set_option linter.unusedVariables false
def S0 : St := ⟨⟨0, 0, 0, 0⟩, 0, [], [], [], 0, 0, ⟨0, 0, 0, 0, 0, 0, 0, 0, 0, 0⟩⟩
def R0 : R3 := ⟨none, 0, none, 0, none, 0⟩
/-- the frame with the result's block behind the box -/
structure F2 (w : World) (r0 : R3) (w' : World) (s : St) (r : R3) : Prop where
  fr : Fr w (w.heap.size + 2) r0 w' w.heap.size s r
  res : Box w' (w.heap.size + 1) (sA S0 R0)
section
variable {w w1 w2 : World} {r0 r : R3} {s : St}
theorem F2.keep (x : F2 w r0 w1 s r) (hb : Below w1.heap.size w1 w2) : F2 w r0 w2 s r := ⟨x.fr.keep hb, x.res.kept hb x.res.lt⟩
theorem F2.cellset (x : F2 w r0 w1 s r) {k : Nat} {v : Value} {s' : St} {r' : R3} (y : Fr w (w.heap.size + 2) r0 (w1.setCell ⟨w.heap.size, k, none⟩ v) w.heap.size s' r') : F2 w r0 (w1.setCell ⟨w.heap.size, k, none⟩ v) s' r' := ⟨y, x.res.cellOther (by simp)⟩
theorem F2.setAll (x : F2 w r0 w1 s r) {s' : St} {r' : R3} (hr : SR w1 s' r') (hf : Frm (w.heap.size + 2) r0 r') : F2 w r0 (w1.setRow w.heap.size (sA s' r')) s' r' := ⟨x.fr.setAll hr hf, x.res.other (by omega) _⟩
theorem F2.start {s : St} {r : R3} (h : SR w s r) : F2 w r ((w.alloc (.cells (sA s r) 31)).alloc (.cells (sA S0 R0) 31)) s r :=
  ⟨Fr.start h _, by have := box_alloc (w.alloc (.cells (sA s r) 31)) (sA S0 R0) rfl; simpa using this⟩
theorem F2.fresh (x : F2 w r0 w1 s r) {A : Option Addr} (h : ∀ a, A = some a → w1.heap.size ≤ a.block) : ∀ a, A = some a → w.heap.size + 2 ≤ a.block := fun a e => Nat.le_trans x.fr.hi (h a e)
theorem F2.ret (x : F2 w r0 w1 s r) {s' : St} {r' : R3} (hr : SR w1 s' r') (hf : Frm (w.heap.size + 2) r0 r') {e : Ending} (he : e = .returned (sV s' r')) : SPost w r0 s' e (w1.setRow (w.heap.size + 1) (sA s' r')) :=
  x.fr.ret (Nat.le_succ _) (by omega) hr hf (by omega) he
end
theorem len_wo (l : List Pg) (k : Int) (m : Nat) (h : l.length ≤ m) : (wo l k).length ≤ m := Nat.le_trans (wo_len l k) h
theorem len_ls (l : List Int) (k : Int) (m : Nat) (h : l.length ≤ m) : (ls l k).length ≤ m := Nat.le_trans (ls_len l k) h
set_option maxHeartbeats 1000000 in
set_option maxRecDepth 100000 in
theorem gone_at (s : St) (r : R3) (k : Int) (hl : Lim s 100000) (w : World) (hr : SR w s r) : Calls Try.prog 71 #[sV s r, .int .u64 k] w (SPost w r (gone s k)) := by
  have x := F2.start hr
  obtain ⟨w1, hw1⟩ : ∃ w1, w1 = (w.alloc (.cells (sA s r) 31)).alloc (.cells (sA S0 R0) 31) := ⟨_, rfl⟩
  rw [← hw1] at x
  have hA : (w.alloc (.cells (sA s r) 31)).alloc (.cells #[.int .i64 0, .int .i64 0, .int .i64 0, .int .i64 0, .int .i64 0, .slice none 0 0, .slice none 0 0, .slice none 0 0, .int .i64 0, .int .i64 0, .int .u64 0, .int .u64 0, .int .u64 0, .int .u64 0, .int .u64 0, .int .u64 0, .int .u64 0, .int .u64 0, .int .u64 0, .int .u64 0] 31) = w1 := hw1.symm
  have d5 := at5 x.fr.box
  rw [← hA] at d5
  have HA := Lib.hid hA
  have HX := Lib.hid x
  have HL := Lib.hid hl
  clear x hw1 hA hl hr
  show Calls Try.prog 71 #[sV s r, .int .u64 k] w fun e w' => SPost w r (gone s k) e w'
  go_enter Try.func71, Try.ntmps71
  go_wp2_with fail
  rw [HA.out]
  clear d5
  refine (without_at s.pg k r.a1 s.pg.length r.c1 rfl (by have := HL.out.1; omega) w1 HX.out.fr.rows.pg.row).mono ?_
  rintro e w2 ⟨A1, n1, c1, rfl, hn1, hp1, hf1, hb1⟩
  have x2 := HX.out.keep hb1
  have y2 := x2.cellset (x2.fr.setPg hp1 (HX.out.fresh hf1) hn1)
  have d5 := at5 x2.fr.box
  have f5 := x2.fr.box.free 5
  have d6 := at6 x2.fr.box
  have HY := Lib.hid y2
  clear x2 y2 hn1 hp1 hf1 hb1 HX HA
  go_wp2_with fail
  clear d5 f5 d6
  obtain ⟨w3, hw3⟩ : ∃ w3, w3 = w2.setCell ⟨w.heap.size, 5, none⟩ (.slice A1 n1 c1) := ⟨_, rfl⟩
  rw [← hw3] at HY ⊢
  refine (less_at s.qu k r.a2 s.qu.length r.c2 rfl (by have := HL.out.2.1; omega) w3 HY.out.fr.rows.qu.row).mono ?_
  rintro e w4 ⟨A2, n2, c2, rfl, hn2, hp2, hf2, hb2⟩
  have x4 := HY.out.keep hb2
  have y4 := x4.cellset (x4.fr.setQu hp2 (HY.out.fresh hf2) hn2)
  have d6 := at6 x4.fr.box
  have f6 := x4.fr.box.free 6
  have d7 := at7 x4.fr.box
  have HZ := Lib.hid y4
  clear x4 y4 hn2 hp2 hf2 hb2 HY hw3
  go_wp2_with fail
  clear d6 f6 d7
  obtain ⟨w5, hw5⟩ : ∃ w5, w5 = w4.setCell ⟨w.heap.size, 6, none⟩ (.slice A2 n2 c2) := ⟨_, rfl⟩
  rw [← hw5] at HZ ⊢
  refine (less_at s.gh k r.a3 s.gh.length r.c3 rfl (by have := HL.out.2.2; omega) w5 HZ.out.fr.rows.gh.row).mono ?_
  rintro e w6 ⟨A3, n3, c3, rfl, hn3, hp3, hf3, hb3⟩
  have x6 := HZ.out.keep hb3
  have y6 := x6.cellset (x6.fr.setGh hp3 (HZ.out.fresh hf3) hn3)
  have d7 := at7 x6.fr.box
  have f7 := x6.fr.box.free 7
  have HU := Lib.hid y6
  clear x6 y6 hn3 hp3 hf3 hb3 HZ hw5
  go_wp2_with (first | fail | refine ld31 rfl (.tmp 2) rfl _ rfl _ HU.out.fr.box ?_ | refine st31 rfl (.tmp 4) (.tmp 20) rfl _ _ _ rfl rfl _ HU.out.res ?_)
  refine bodyPost_ret (results_s rfl _ _ _ _ rfl (HU.out.res.rowSet (sA_len _ _))) rfl ?_
  exact HU.out.ret HU.out.fr.rows HU.out.fr.frm rfl
end Go.Proofs.Ytifenpmkbnohhaa
namespace Go.Proofs.Ytifenpmkbnohhaa
open Go.RowKit
open Go.Proofs.StackM
set_option linter.unusedVariables false
theorem wrap_up (n : Int) : IntKind.u64.wrap (n + 1) = up n := by
  simp [IntKind.wrap, up, IntKind.bits, IntKind.signed]
theorem info59 : (Try.prog.info? 59).map (·.size) = some 4 := by kernel_rfl
theorem st59n {ops : Array Oper} {rest : List Oper} {o : Oper} {a : Act} {w : World} {Q : Exit → Act → World → Prop} (hgd : o.guard = none) (x y : Operand) (ho : o.op = .store 59 x y) (p0 p1 : Int) (p2 p3 : Bool) (hx : a.eval x = .pointer (some ⟨w.heap.size, 0, none⟩)) (hy : a.eval y = .agg #[.int .u64 p0, .int .i64 p1, .bool p2, .bool p3]) (old : Array Value) (hold : old.size = 4)
    (hK : wpList Try.prog ops Q rest a (w.alloc (.cells #[.int .u64 p0, .int .i64 p1, .bool p2, .bool p3] 59))) (hd : o.dst = none := by rfl) : wpList Try.prog ops Q (o :: rest) a (w.alloc (.cells old 59)) :=
  wpList_store_row hgd 59 x y ho w.heap.size #[.int .u64 p0, .int .i64 p1, .bool p2, .bool p3] hx hy 59 old (by show (w.heap.push _)[w.heap.size]? = _; simp) info59 (by rw [hold]; rfl) (by simp [Value.oneCell']) (by rw [World.setRow_alloc_new, hd]; exact hK)
/-- the length of a row that a cell holds: the measure of a loop -/
def lenAt (w : World) (B k : Nat) : Nat := match w.cell? ⟨B, k, none⟩ with | some (.slice _ n _) => n | _ => 0
theorem lenAt_of {w : World} {B k n c : Nat} {A : Option Addr} (h : w.cell? ⟨B, k, none⟩ = some (.slice A n c)) : lenAt w B k = n := by rw [lenAt, h]
theorem last_at {l : List Pg} {p : Pg} (h : l.getLast? = some p) : ∃ hi : l.length - 1 < l.length, l[l.length - 1] = p ∧ 0 < l.length := by
  have hne : l ≠ [] := fun e => by rw [e] at h; cases h
  have hpos := List.length_pos_iff.2 hne
  rw [List.getLast?_eq_getElem?] at h
  have hi : l.length - 1 < l.length := by omega
  rw [List.getElem?_eq_getElem hi] at h
  exact ⟨hi, by injection h, hpos⟩
theorem prS_lim {s : St} {p : Pg} {m : Nat} (h : Lim s m) : Lim (prS s p) m := ⟨len_wo _ _ _ h.1, h.2.1, len_ls _ _ _ h.2.2⟩
set_option maxHeartbeats 2000000 in
set_option maxRecDepth 100000 in
theorem prune_at (s : St) (r : R3) (hl : Lim s 100000) (w : World) (hr : SR w s r) : Calls Try.prog 70 #[sV s r] w (SPost w r (prune s)) := by
  have x := F2.start hr
  obtain ⟨w1, hw1⟩ : ∃ w1, w1 = (w.alloc (.cells (sA s r) 31)).alloc (.cells (sA S0 R0) 31) := ⟨_, rfl⟩
  rw [← hw1] at x
  have hA : (w.alloc (.cells (sA s r) 31)).alloc (.cells #[.int .i64 0, .int .i64 0, .int .i64 0, .int .i64 0, .int .i64 0, .slice none 0 0, .slice none 0 0, .slice none 0 0, .int .i64 0, .int .i64 0, .int .u64 0, .int .u64 0, .int .u64 0, .int .u64 0, .int .u64 0, .int .u64 0, .int .u64 0, .int .u64 0, .int .u64 0, .int .u64 0] 31) = w1 := hw1.symm
  have HA := Lib.hid hA
  have HX := Lib.hid x
  have HL := Lib.hid hl
  clear x hw1 hA hl hr
  show Calls Try.prog 70 #[sV s r] w fun e w' => SPost w r (prune s) e w'
  go_enter Try.func70, Try.ntmps70
  go_wp2_with fail
  rw [HA.out]
  go_loopw [] (fun wr => ∃ (cur : St) (rr : R3), Hid (F2 w r wr cur rr) ∧ Hid (Lim cur 100000 ∧ prune cur = prune s)) (fun wr => lenAt wr w.heap.size 5)
  case atStart => exact ⟨s, r, HX, Lib.hid ⟨HL.out, rfl⟩⟩
  case round =>
    obtain ⟨cur, rr, HF, HC⟩ := hrel
    have d5 := at5 HF.out.fr.box
    have hmeas : lenAt wr w.heap.size 5 = cur.pg.length := lenAt_of d5
    have HM := Lib.hid hmeas
    cases hp : cur.pg.getLast? with
    | none =>
      have hnil : cur.pg = [] := List.getLast?_eq_none_iff.1 hp
      have HE : Hid (prune s = cur) := Lib.hid (by rw [← HC.out.2, prune_none hnil])
      have hn0 : cur.pg.length = 0 := by rw [hnil]; rfl
      rw [hn0] at d5
      clear hp hnil hn0 hmeas HM
      go_wp2_with (first | fail | refine ld31 rfl (.tmp 1) rfl _ rfl _ HF.out.fr.box ?_ | refine st31 rfl (.tmp 2) (.tmp 38) rfl _ _ _ rfl rfl _ HF.out.res ?_)
      refine bodyPost_ret (results_s rfl _ _ _ _ rfl (HF.out.res.rowSet (sA_len _ _))) rfl ?_
      rw [HE.out]
      exact HF.out.ret HF.out.fr.rows HF.out.fr.frm rfl
    | some p =>
      obtain ⟨hi, hlast, hpos⟩ := last_at hp
      obtain ⟨b, off, ha, hc⟩ := HF.out.fr.rows.pg.row.at hi
      obtain ⟨c0, c1, c2, c3⟩ := hc _ hi
      rw [hlast] at c0 c1 c2 c3
      obtain ⟨p0, p1, p2, p3⟩ := p
      dsimp only at c0 c1 c2 c3
      have HP := Lib.hid hp
      obtain ⟨n, hn⟩ : ∃ n, n = cur.pg.length := ⟨_, rfl⟩
      obtain ⟨m, hm⟩ : ∃ m, m = n - 1 := ⟨_, rfl⟩
      have hnm : n = m + 1 := by omega
      have hml : m ≤ 100000 := by have := HC.out.1.1; omega
      rw [← hn, ← hm] at c0 c1 c2 c3
      rw [← hn, ha, hnm] at d5
      have HN := Lib.hid (And.intro hn hnm)
      have HAA := Lib.hid ha
      have z0 : (0 : Int) < (m : Int) + 1 := by omega
      have x1 := HF.out.keep (alloc_below wr (.cells #[.int .u64 p0, .int .i64 p1, .bool p2, .bool p3] 59))
      have g0 : (wr.alloc (.cells #[.int .u64 p0, .int .i64 p1, .bool p2, .bool p3] 59)).cell? ⟨wr.heap.size, 0, none⟩ = some (.int .u64 p0) := by rw [World.cell?_alloc_new]; rfl
      have g1 : (wr.alloc (.cells #[.int .u64 p0, .int .i64 p1, .bool p2, .bool p3] 59)).cell? ⟨wr.heap.size, 1, none⟩ = some (.int .i64 p1) := by rw [World.cell?_alloc_new]; rfl
      obtain ⟨w2, hw2⟩ : ∃ w2, w2 = wr.alloc (.cells #[.int .u64 p0, .int .i64 p1, .bool p2, .bool p3] 59) := ⟨_, rfl⟩
      obtain ⟨g, hg⟩ : ∃ g, g = wr.heap.size := ⟨_, rfl⟩
      have hgl : g < w2.heap.size := by rw [hg, hw2]; simp
      have hgB : w.heap.size ≠ g := by rw [hg]; have := HF.out.fr.box.lt; omega
      rw [← hw2] at x1 g0 g1
      rw [← hg] at g0 g1
      have HW := Lib.hid (And.intro hw2 hg)
      have H1 := Lib.hid x1
      have HG := Lib.hid (And.intro hgl hgB)
      clear hp hi hlast hpos hc hn hm hnm ha x1 hw2 hg hgl hgB hmeas
      by_cases hk : p1 = 1
      · subst hk
        have HE : Hid (prune s = cur) := Lib.hid (by rw [← HC.out.2, prune_hot HP.out rfl])
        go_wp2_with (first | fail | (refine st59n rfl (.tmp 3) (.tmp 15) rfl p0 1 p2 p3 rfl rfl _ rfl ?_; rw [← HW.out.1, ← HW.out.2]) | refine ld31 rfl (.tmp 1) rfl _ rfl _ H1.out.fr.box ?_ | refine st31 rfl (.tmp 2) (.tmp 19) rfl _ _ _ rfl rfl _ H1.out.res ?_)
        refine bodyPost_ret (results_s rfl _ _ _ _ rfl (H1.out.res.rowSet (sA_len _ _))) rfl ?_
        rw [HE.out]
        exact H1.out.ret H1.out.fr.rows H1.out.fr.frm rfl
      · have HE : Hid (prune (prS cur ⟨p0, p1, p2, p3⟩) = prune s) := Lib.hid (by rw [← HC.out.2, prune_step HP.out hk])
        have d5' := at5 H1.out.fr.box
        rw [HAA.out, ← HN.out.1, HN.out.2] at d5'
        go_wp2_with (first | fail | (refine st59n rfl (.tmp 3) (.tmp 15) rfl p0 p1 p2 p3 rfl rfl _ rfl ?_; rw [← HW.out.1, ← HW.out.2]))
        have C40 := without_at cur.pg p0 rr.a1 cur.pg.length rr.c1 rfl (by have := HC.out.1.1; omega) w2 H1.out.fr.rows.pg.row
        rw [HAA.out, ← HN.out.1, HN.out.2] at C40
        refine C40.mono ?_
        rintro e w3 ⟨A1, n1, k1, rfl, hn1, hp1, hf1, hb1⟩
        have x3 := H1.out.keep hb1
        have y3 := x3.cellset (x3.fr.setPg hp1 (H1.out.fresh hf1) hn1)
        have e5 := at5 x3.fr.box
        have f5 := x3.fr.box.free 5
        have e7 := at7 x3.fr.box
        have i0 := (hb1.cell (p := ⟨g, 0, none⟩) (by exact HG.out.1)).trans g0
        have hgl3 : g < w3.heap.size := Nat.lt_of_lt_of_le HG.out.1 hb1.size
        have HY := Lib.hid y3
        have HG3 := Lib.hid (And.intro hgl3 HG.out.2)
        have hne := HG.out.2
        rw [HAA.out] at e5
        clear C40 x3 y3 hn1 hp1 hf1 hb1 hgl3 g0 g1 d5 d5' c0 c1 c2 c3 H1 HG HW
        go_wp2_with fail
        obtain ⟨w4, hw4⟩ : ∃ w4, w4 = w3.setCell ⟨w.heap.size, 5, none⟩ (.slice A1 n1 k1) := ⟨_, rfl⟩
        rw [← hw4] at HY ⊢
        clear e5 f5 e7 i0 hw4
        refine (less_at cur.gh p0 rr.a3 cur.gh.length rr.c3 rfl (by have := HC.out.1.2.2; omega) w4 HY.out.fr.rows.gh.row).mono ?_
        rintro e w5 ⟨A2, n2, k2, rfl, hn2, hp2, hf2, hb2⟩
        have x5 := HY.out.keep hb2
        have y5 := x5.cellset (x5.fr.setGh hp2 (HY.out.fresh hf2) hn2)
        have z5 := y5.cellset (y5.fr.setPr (up cur.ct.pr))
        have e7 := at7 x5.fr.box
        have f7 := x5.fr.box.free 7
        have e14 := at14 x5.fr.box
        have f14 := x5.fr.box.free 14
        have hup := wrap_up cur.ct.pr
        have HZ := Lib.hid z5
        clear x5 y5 z5 hn2 hp2 hf2 hb2 HY hne
        go_wp2_with fail
        go_round
        case rel => exact ⟨prS cur ⟨p0, p1, p2, p3⟩, _, HZ, Lib.hid ⟨prS_lim HC.out.1, HE.out⟩⟩
        case measure =>
          rw [HM.out, lenAt_of (at5 HZ.out.fr.box)]
          exact wo_lt (List.mem_of_getLast? HP.out)
end Go.Proofs.Ytifenpmkbnohhaa
namespace Go.Proofs.Ytifenpmkbnohhaa
open Go.RowKit
open Go.Proofs.StackM
set_option linter.unusedVariables false
theorem trS_lim {s : St} {k : Int} {m : Nat} (h : Lim s m) : Lim (trS s k) m := ⟨len_wo _ _ _ h.1, h.2.1, len_ls _ _ _ h.2.2⟩
set_option maxHeartbeats 2000000 in
set_option maxRecDepth 100000 in
theorem trim_at (s : St) (r : R3) (h0 : 0 ≤ s.cf.g) (hl : Lim s 100000) (w : World) (hr : SR w s r) : Calls Try.prog 78 #[sV s r] w (SPost w r (trim s)) := by
  have x := F2.start hr
  obtain ⟨w1, hw1⟩ : ∃ w1, w1 = (w.alloc (.cells (sA s r) 31)).alloc (.cells (sA S0 R0) 31) := ⟨_, rfl⟩
  rw [← hw1] at x
  have hA : (w.alloc (.cells (sA s r) 31)).alloc (.cells #[.int .i64 0, .int .i64 0, .int .i64 0, .int .i64 0, .int .i64 0, .slice none 0 0, .slice none 0 0, .slice none 0 0, .int .i64 0, .int .i64 0, .int .u64 0, .int .u64 0, .int .u64 0, .int .u64 0, .int .u64 0, .int .u64 0, .int .u64 0, .int .u64 0, .int .u64 0, .int .u64 0] 31) = w1 := hw1.symm
  have HA := Lib.hid hA
  have HX := Lib.hid x
  have HL := Lib.hid hl
  have H0 := Lib.hid h0
  clear x hw1 hA hl hr h0
  show Calls Try.prog 78 #[sV s r] w fun e w' => SPost w r (trim s) e w'
  go_enter Try.func78, Try.ntmps78
  go_wp2_with fail
  rw [HA.out]
  go_loopw [] (fun wr => ∃ (cur : St) (rr : R3), Hid (F2 w r wr cur rr) ∧ Hid (Lim cur 100000 ∧ trim cur = trim s ∧ cur.cf = s.cf)) (fun wr => lenAt wr w.heap.size 7)
  case atStart => exact ⟨s, r, HX, Lib.hid ⟨HL.out, rfl, rfl⟩⟩
  case round =>
    obtain ⟨cur, rr, HF, HC⟩ := hrel
    have d7 := at7 HF.out.fr.box
    have d3 := at3 HF.out.fr.box
    have d5 := at5 HF.out.fr.box
    have HM := Lib.hid (lenAt_of d7)
    obtain ⟨n, hn⟩ : ∃ n, n = cur.gh.length := ⟨_, rfl⟩
    obtain ⟨g, hg⟩ : ∃ g, g = cur.cf.g := ⟨_, rfl⟩
    have hnl : n ≤ 100000 := by rw [hn]; exact HC.out.1.2.2
    have hg0 : 0 ≤ g := by rw [hg, HC.out.2.2]; exact H0.out
    by_cases hm : (n : Int) > g
    · have hm' : g < (n : Int) := hm
      have hpos : 0 < cur.gh.length := by omega
      obtain ⟨b, off, ha, hc⟩ := HF.out.fr.rows.gh.row.at hpos
      have c0 := hc 0 hpos
      rw [Nat.add_zero] at c0
      obtain ⟨k, hk⟩ : ∃ k, k = cur.gh[0] := ⟨_, rfl⟩
      rw [← hk] at c0
      have hkr : ∃ t, cur.gh = k :: t := by
        cases e : cur.gh with
        | nil => rw [e] at hpos; simp at hpos
        | cons x t => exact ⟨t, by rw [hk]; simp [e]⟩
      obtain ⟨t, ht⟩ := hkr
      have HT := Lib.hid ht
      have HE : Hid (trim (trS cur k) = trim s) := Lib.hid (by rw [← HC.out.2.1, trim_step (by rw [← hn, ← hg]; exact hm) ht])
      have HN := Lib.hid hn
      rw [← hn, ha] at d7
      rw [← hg] at d3
      have C50 := less_at cur.gh k rr.a3 cur.gh.length rr.c3 rfl (by have := HC.out.1.2.2; omega) wr HF.out.fr.rows.gh.row
      rw [ha, ← hn] at C50
      have HAA := Lib.hid ha
      have z0 : (0 : Int) < (n : Int) := by omega
      clear hn hg hpos hc hk ht ha hm
      go_wp2_with fail
      refine C50.mono ?_
      rintro e w3 ⟨A1, n1, k1, rfl, hn1, hp1, hf1, hb1⟩
      have x3 := HF.out.keep hb1
      have y3 := x3.cellset (x3.fr.setGh hp1 (HF.out.fresh hf1) hn1)
      have e7 := at7 x3.fr.box
      have f7 := x3.fr.box.free 7
      have e5 := at5 x3.fr.box
      have HY := Lib.hid y3
      rw [HAA.out] at e7
      clear C50 x3 y3 hn1 hp1 hf1 hb1 d7 d3 d5 c0 HF
      go_wp2_with fail
      obtain ⟨w4, hw4⟩ : ∃ w4, w4 = w3.setCell ⟨w.heap.size, 7, none⟩ (.slice A1 n1 k1) := ⟨_, rfl⟩
      rw [← hw4] at HY ⊢
      clear e7 f7 e5 hw4
      refine (without_at cur.pg k rr.a1 cur.pg.length rr.c1 rfl (by have := HC.out.1.1; omega) w4 HY.out.fr.rows.pg.row).mono ?_
      rintro e w5 ⟨A2, n2, k2, rfl, hn2, hp2, hf2, hb2⟩
      have x5 := HY.out.keep hb2
      have y5 := x5.cellset (x5.fr.setPg hp2 (HY.out.fresh hf2) hn2)
      have z5 := y5.cellset (y5.fr.setFo (up cur.ct.fo))
      have e5 := at5 x5.fr.box
      have f5 := x5.fr.box.free 5
      have e16 := at16 x5.fr.box
      have f16 := x5.fr.box.free 16
      have hup := wrap_up cur.ct.fo
      have HZ := Lib.hid z5
      clear x5 y5 z5 hn2 hp2 hf2 hb2 HY
      go_wp2_with fail
      go_round
      case rel => exact ⟨trS cur k, _, HZ, Lib.hid ⟨trS_lim HC.out.1, HE.out, HC.out.2.2⟩⟩
      case measure =>
        rw [HM.out, lenAt_of (at7 HZ.out.fr.box)]
        exact ls_lt (by rw [HT.out]; simp)
    · have hm' : ¬ g < (n : Int) := hm
      have HE : Hid (trim s = cur) := Lib.hid (by rw [← HC.out.2.1, trim_done (by rw [← hn, ← hg]; exact hm)])
      rw [← hn] at d7
      rw [← hg] at d3
      clear hn hg hm
      go_wp2_with (first | fail | refine ld31 rfl (.tmp 1) rfl _ rfl _ HF.out.fr.box ?_ | refine st31 rfl (.tmp 2) (.tmp 31) rfl _ _ _ rfl rfl _ HF.out.res ?_)
      refine bodyPost_ret (results_s rfl _ _ _ _ rfl (HF.out.res.rowSet (sA_len _ _))) rfl ?_
      rw [HE.out]
      exact HF.out.ret HF.out.fr.rows HF.out.fr.frm rfl
end Go.Proofs.Ytifenpmkbnohhaa
namespace Go.Proofs.Ytifenpmkbnohhaa
open Go.RowKit
open Go.Proofs.StackM
set_option linter.unusedVariables false
theorem prune_qu (s : St) : (prune s).qu = s.qu := prune_ind (P := fun t => t.qu = s.qu) (fun t p _ _ h => h) s rfl
theorem prune_ghl (s : St) : (prune s).gh.length ≤ s.gh.length := prune_ind (P := fun t => t.gh.length ≤ s.gh.length) (fun t p _ _ h => Nat.le_trans (ls_len _ _) h) s (Nat.le_refl _)
def Lsum (s : St) : Prop := s.pg.length + s.qu.length ≤ 60000 ∧ s.gh.length ≤ 30000
theorem Lsum.lim {s : St} (h : Lsum s) : Lim s 100000 := ⟨by have := h.1; omega, by have := h.1; omega, by have := h.2; omega⟩
theorem loS_sum {s : St} {p : Pg} (hp : s.pg.getLast? = some p) (h : Lsum s) : Lsum (loS s p) := by
  have h1 := wo_lt (List.mem_of_getLast? hp)
  have h2 := prune_len { s with pg := wo s.pg p.key, qu := s.qu ++ [p.key], ct := { s.ct with lo := up s.ct.lo } }
  have h3 := prune_qu { s with pg := wo s.pg p.key, qu := s.qu ++ [p.key], ct := { s.ct with lo := up s.ct.lo } }
  have h4 := prune_ghl { s with pg := wo s.pg p.key, qu := s.qu ++ [p.key], ct := { s.ct with lo := up s.ct.lo } }
  obtain ⟨h5, h6⟩ := h
  unfold Lsum loS
  rw [h3]
  dsimp only at h2 h4
  simp only [List.length_append, List.length_singleton]
  exact ⟨by omega, by omega⟩
set_option maxHeartbeats 2000000 in
set_option maxRecDepth 100000 in
theorem lower_at (s : St) (r : R3) (hcf : Cok s.cf) (h0 : s.cf.q ≤ s.cf.c) (hl : Lim s 30000) (w : World) (hr : SR w s r) : Calls Try.prog 89 #[sV s r] w (SPost w r (lower s)) := by
  have x := F2.start hr
  obtain ⟨w1, hw1⟩ : ∃ w1, w1 = (w.alloc (.cells (sA s r) 31)).alloc (.cells (sA S0 R0) 31) := ⟨_, rfl⟩
  rw [← hw1] at x
  have hA : (w.alloc (.cells (sA s r) 31)).alloc (.cells #[.int .i64 0, .int .i64 0, .int .i64 0, .int .i64 0, .int .i64 0, .slice none 0 0, .slice none 0 0, .slice none 0 0, .int .i64 0, .int .i64 0, .int .u64 0, .int .u64 0, .int .u64 0, .int .u64 0, .int .u64 0, .int .u64 0, .int .u64 0, .int .u64 0, .int .u64 0, .int .u64 0] 31) = w1 := hw1.symm
  have HA := Lib.hid hA
  have HX := Lib.hid x
  have HL : Hid (Lsum s) := Lib.hid ⟨by have := hl.1; have := hl.2.1; omega, hl.2.2⟩
  have H0 := Lib.hid (And.intro hcf h0)
  clear x hw1 hA hl hr h0 hcf
  show Calls Try.prog 89 #[sV s r] w fun e w' => SPost w r (lower s) e w'
  go_enter Try.func89, Try.ntmps89
  go_wp2_with fail
  rw [HA.out]
  go_loopw [] (fun wr => ∃ (cur : St) (rr : R3), Hid (F2 w r wr cur rr) ∧ Hid (Lsum cur ∧ lower cur = lower s ∧ cur.cf = s.cf)) (fun wr => lenAt wr w.heap.size 5)
  case atStart => exact ⟨s, r, HX, Lib.hid ⟨HL.out, rfl, rfl⟩⟩
  case round =>
    obtain ⟨cur, rr, HF, HC⟩ := hrel
    have HM := Lib.hid (lenAt_of (at5 HF.out.fr.box))
    obtain ⟨cc, hcc⟩ : ∃ z, z = cur.cf.c := ⟨_, rfl⟩
    obtain ⟨cq, hcq⟩ : ∃ z, z = cur.cf.q := ⟨_, rfl⟩
    have hj := H0.out
    rw [← HC.out.2.2] at hj
    obtain ⟨⟨⟨j1, j2⟩, ⟨j3, j4⟩, _⟩, j5⟩ := hj
    rw [← hcc] at j1 j2 j5
    rw [← hcq] at j3 j4 j5
    obtain ⟨nh, hnh⟩ : ∃ n, n = many cur.pg 1 := ⟨_, rfl⟩
    obtain ⟨n, hn⟩ : ∃ n, n = cur.pg.length := ⟨_, rfl⟩
    have hnl : n ≤ 100000 := by rw [hn]; exact HC.out.1.lim.1
    have hnh6 : nh ≤ n := by rw [hnh, hn]; exact many_le _ _
    have x1 : ∀ W : GrB wr, W.v.cell? ⟨w.heap.size, 1, none⟩ = some (.int .i64 cc) := fun W => by rw [hcc]; exact at1 (HF.out.keep W.h).fr.box
    have x2 : ∀ W : GrB wr, W.v.cell? ⟨w.heap.size, 2, none⟩ = some (.int .i64 cq) := fun W => by rw [hcq]; exact at2 (HF.out.keep W.h).fr.box
    have x5 : ∀ W : GrB wr, W.v.cell? ⟨w.heap.size, 5, none⟩ = some (.slice rr.a1 n rr.c1) := fun W => by rw [hn]; exact at5 (HF.out.keep W.h).fr.box
    have C23 : Hid (∀ W : GrB wr, Calls Try.prog 23 #[.slice rr.a1 n rr.c1, .int .i64 1] W.v fun e w' => e = .returned (.int .i64 (nh : Int)) ∧ ∃ W' : GrB wr, w' = W'.v) := Lib.hid (grown_call (w := wr) fun V hV => (many_at cur.pg 1 rr.a1 n rr.c1 hn (by omega) V (HF.out.keep hV).fr.rows.pg.row).mono fun e w' ⟨e1, e2⟩ => ⟨by rw [hnh]; exact e1, e2 ▸ Below.refl _ _⟩)
    have HCC := Lib.hid (And.intro hcc (And.intro hcq (And.intro hnh hn)))
    clear hcc hcq hnh hn
    by_cases hm : cc - cq < (nh : Int)
    · go_wp2_with fail
      refine region_grown (by kernel_rfl) (by kernel_rfl) ?_
      repeat (go_big_quiet_step (first | (go_at_call 23; exact C23.out _)))
      refine wpQuiet_nil ?_
      rintro w9 ⟨⟨w8, hgl⟩, rfl⟩
      have HF9 := Lib.hid (HF.out.keep hgl)
      clear x1 x2 x5 C23 hgl HF
      have hmm : (many cur.pg 1 : Int) > cur.cf.c - cur.cf.q := by rw [← HCC.out.1, ← HCC.out.2.1, ← HCC.out.2.2.1]; exact hm
      cases hp : cur.pg.getLast? with
      | none =>
        exfalso
        have hnil : cur.pg = [] := List.getLast?_eq_none_iff.1 hp
        have : n = 0 := by rw [HCC.out.2.2.2, hnil]; rfl
        omega
      | some p =>
        have HE : Hid (lower (loS cur p) = lower s ∧ Lsum (loS cur p)) := Lib.hid ⟨by rw [← HC.out.2.1, lower_step hmm hp], loS_sum hp HC.out.1⟩
        obtain ⟨hi, hlast, hpos⟩ := last_at hp
        obtain ⟨b, off, ha, hc⟩ := HF9.out.fr.rows.pg.row.at hi
        obtain ⟨c0, c1, c2, c3⟩ := hc _ hi
        rw [hlast] at c0 c1 c2 c3
        obtain ⟨p0, p1, p2, p3⟩ := p
        dsimp only at c0 c1 c2 c3
        have HP := Lib.hid hp
        obtain ⟨m, hm1⟩ : ∃ m, m = n - 1 := ⟨_, rfl⟩
        have hnm : n = m + 1 := by have := HCC.out.2.2.2; omega
        rw [← HCC.out.2.2.2, ← hm1] at c0 c1 c2 c3
        have d5 := at5 HF9.out.fr.box
        rw [← HCC.out.2.2.2, ha, hnm] at d5
        have hml : m ≤ 100000 := by omega
        have HN := Lib.hid (And.intro HCC.out.2.2.2 hnm)
        have HAA := Lib.hid ha
        have z0 : (0 : Int) < (m : Int) + 1 := by omega
        have y1 := HF9.out.keep (alloc_below w9 (.cells #[.int .u64 p0, .int .i64 p1, .bool p2, .bool p3] 59))
        have g0 : (w9.alloc (.cells #[.int .u64 p0, .int .i64 p1, .bool p2, .bool p3] 59)).cell? ⟨w9.heap.size, 0, none⟩ = some (.int .u64 p0) := by rw [World.cell?_alloc_new]; rfl
        obtain ⟨w2, hw2⟩ : ∃ w2, w2 = w9.alloc (.cells #[.int .u64 p0, .int .i64 p1, .bool p2, .bool p3] 59) := ⟨_, rfl⟩
        obtain ⟨g, hg⟩ : ∃ g, g = w9.heap.size := ⟨_, rfl⟩
        have hgl : g < w2.heap.size := by rw [hg, hw2]; simp
        have hgB : w.heap.size ≠ g := by rw [hg]; have := HF9.out.fr.box.lt; omega
        rw [← hw2] at y1 g0
        rw [← hg] at g0
        have HW := Lib.hid (And.intro hw2 hg)
        have H1 := Lib.hid y1
        have HG := Lib.hid (And.intro hgl hgB)
        have d5' := at5 y1.fr.box
        rw [ha, ← HCC.out.2.2.2, hnm] at d5'
        clear hp hi hlast hpos hc hm1 hnm ha y1 hw2 hg hgl hgB hm hmm hnh6 j1 j2 j3 j4 j5 HCC hnl
        go_wp2_with (first | fail | (refine st59n rfl (.tmp 3) (.tmp 22) rfl p0 p1 p2 p3 rfl rfl _ rfl ?_; rw [← HW.out.1, ← HW.out.2]))
        have C40 := without_at cur.pg p0 rr.a1 cur.pg.length rr.c1 rfl (by have := HC.out.1.lim.1; omega) w2 H1.out.fr.rows.pg.row
        rw [HAA.out, ← HN.out.1, HN.out.2] at C40
        refine C40.mono ?_
        rintro e w3 ⟨A1, n1, k1, rfl, hn1, hp1, hf1, hb1⟩
        have x3 := H1.out.keep hb1
        have y3 := x3.cellset (x3.fr.setPg hp1 (H1.out.fresh hf1) hn1)
        have e5 := at5 x3.fr.box
        have f5 := x3.fr.box.free 5
        have e6 := at6 x3.fr.box
        have i0 := (hb1.cell (p := ⟨g, 0, none⟩) (by exact HG.out.1)).trans g0
        have HY := Lib.hid y3
        have hne := HG.out.2
        rw [HAA.out] at e5
        clear C40 x3 y3 hn1 hp1 hf1 hb1 g0 d5 d5' c0 c1 c2 c3 H1 HG HW HF9
        go_wp2_with fail
        obtain ⟨w4, hw4⟩ : ∃ w4, w4 = w3.setCell ⟨w.heap.size, 5, none⟩ (.slice A1 n1 k1) := ⟨_, rfl⟩
        rw [← hw4] at HY ⊢
        clear e5 f5 e6 i0 hw4
        refine (more_at cur.qu p0 rr.a2 cur.qu.length rr.c2 rfl (by have := HC.out.1.lim.2.1; omega) w4 HY.out.fr.rows.qu.row).mono ?_
        rintro e w5 ⟨A2, n2, k2, rfl, hn2, hp2, hf2, hb2⟩
        have x5 := HY.out.keep hb2
        have y5 := x5.cellset (x5.fr.setQu hp2 (HY.out.fresh hf2) hn2)
        have z5 := y5.cellset (y5.fr.setLo (up cur.ct.lo))
        have e6 := at6 x5.fr.box
        have f6 := x5.fr.box.free 6
        have e13 := at13 x5.fr.box
        have f13 := x5.fr.box.free 13
        have hup := wrap_up cur.ct.lo
        have HZ := Lib.hid z5
        have hlim : Lim { cur with pg := wo cur.pg p0, qu := cur.qu ++ [p0], ct := { cur.ct with lo := up cur.ct.lo } } 100000 := ⟨len_wo _ _ _ HC.out.1.lim.1, by
          show (cur.qu ++ [p0]).length ≤ 100000
          have := HC.out.1.1
          simp; omega, HC.out.1.lim.2.2⟩
        have HLM := Lib.hid hlim
        clear x5 y5 z5 hn2 hp2 hf2 hb2 HY hne hlim
        obtain ⟨w6, hw6⟩ : ∃ w6, w6 = (w5.setCell ⟨w.heap.size, 6, none⟩ (.slice A2 n2 k2)).setCell ⟨w.heap.size, 13, none⟩ (.int .u64 (up cur.ct.lo)) := ⟨_, rfl⟩
        rw [← hw6] at HZ
        have HW6 := Lib.hid hw6
        clear hw6
        go_wp2_with (first | fail | (rw [← HW6.out]; refine ld31 rfl (.tmp 1) rfl _ rfl _ HZ.out.fr.box ?_))
        refine (prune_at _ _ HLM.out _ HZ.out.fr.rows).mono ?_
        rintro e w7 ⟨r7, rfl, hr7, hf7, hb7⟩
        have x7 := HZ.out.keep hb7
        have y7 := x7.setAll hr7 (HZ.out.fr.told hr7 hf7)
        have HX7 := Lib.hid x7
        have HY7 := Lib.hid y7
        clear x7 y7 hr7 hf7 hb7 HZ HW6 e6 f6 e13 f13
        go_wp2_with (first | fail | refine st31 rfl (.tmp 1) (.tmp 42) rfl _ _ _ rfl rfl _ HX7.out.fr.box ?_)
        go_round
        case rel => exact ⟨_, _, HY7, Lib.hid ⟨HE.out.2, HE.out.1, by rw [← HC.out.2.2]; exact prune_cf _⟩⟩
        case measure =>
          rw [HM.out, lenAt_of (at5 HY7.out.fr.box)]
          exact Nat.lt_of_le_of_lt (prune_len _) (wo_lt (List.mem_of_getLast? HP.out))
    · have HE : Hid (lower s = cur) := Lib.hid (by rw [← HC.out.2.1, lower_done (by rw [← HCC.out.1, ← HCC.out.2.1, ← HCC.out.2.2.1]; exact hm)])
      have hd : decide (cc - cq < (nh : Int)) = false := decide_eq_false hm
      go_wp2_with fail
      refine region_grown (by kernel_rfl) (by kernel_rfl) ?_
      repeat (go_big_quiet_step (first | (go_at_call 23; exact C23.out _)))
      refine wpQuiet_nil ?_
      rintro w9 ⟨⟨w8, hgl⟩, rfl⟩
      have HF9 := Lib.hid (HF.out.keep hgl)
      clear x1 x2 x5 C23 hgl HF
      go_wp2_with (first | fail | refine ld31 rfl (.tmp 1) rfl _ rfl _ HF9.out.fr.box ?_ | refine st31 rfl (.tmp 2) (.tmp 43) rfl _ _ _ rfl rfl _ HF9.out.res ?_)
      refine bodyPost_ret (results_s rfl _ _ _ _ rfl (HF9.out.res.rowSet (sA_len _ _))) rfl ?_
      rw [HE.out]
      exact HF9.out.ret HF9.out.fr.rows HF9.out.fr.frm rfl
end Go.Proofs.Ytifenpmkbnohhaa
namespace Go.Proofs.Ytifenpmkbnohhaa
open Go.RowKit
open Go.Proofs.StackM
set_option linter.unusedVariables false
theorem gone_lim {s : St} {k : Int} {m : Nat} (h : Lim s m) : Lim (gone s k) m := ⟨len_wo _ _ _ h.1, len_ls _ _ _ h.2.1, len_ls _ _ _ h.2.2⟩
set_option maxHeartbeats 2000000 in
set_option maxRecDepth 100000 in
theorem raise_at (s : St) (r : R3) (k : Int) (hcf : Cok s.cf) (h0 : s.cf.q ≤ s.cf.c) (hl : Lim s 20000) (w : World) (hr : SR w s r) : Calls Try.prog 75 #[sV s r, .int .u64 k] w (SPost w r (raise s k)) := by
  have x := F2.start hr
  obtain ⟨w1, hw1⟩ : ∃ w1, w1 = (w.alloc (.cells (sA s r) 31)).alloc (.cells (sA S0 R0) 31) := ⟨_, rfl⟩
  rw [← hw1] at x
  have hA : (w.alloc (.cells (sA s r) 31)).alloc (.cells #[.int .i64 0, .int .i64 0, .int .i64 0, .int .i64 0, .int .i64 0, .slice none 0 0, .slice none 0 0, .slice none 0 0, .int .i64 0, .int .i64 0, .int .u64 0, .int .u64 0, .int .u64 0, .int .u64 0, .int .u64 0, .int .u64 0, .int .u64 0, .int .u64 0, .int .u64 0, .int .u64 0] 31) = w1 := hw1.symm
  have HA := Lib.hid hA
  have HX := Lib.hid x
  have HL := Lib.hid hl
  clear x hw1 hA hl hr
  show Calls Try.prog 75 #[sV s r, .int .u64 k] w fun e w' => SPost w r (raise s k) e w'
  go_enter Try.func75, Try.ntmps75
  go_wp2_with (first | fail | (rw [HA.out]; refine ld31 rfl (.tmp 2) rfl _ rfl _ HX.out.fr.box ?_))
  refine (gone_at s r k ⟨by have := HL.out.1; omega, by have := HL.out.2.1; omega, by have := HL.out.2.2; omega⟩ _ HX.out.fr.rows).mono ?_
  rintro e w2 ⟨r2, rfl, hr2, hf2, hb2⟩
  have x2 := HX.out.keep hb2
  have y2 := x2.setAll hr2 (HX.out.fr.told hr2 hf2)
  have H2 := Lib.hid x2
  obtain ⟨w3, hw3⟩ : ∃ w3, w3 = w2.setRow w.heap.size (sA (gone s k) r2) := ⟨_, rfl⟩
  rw [← hw3] at y2
  have HY := Lib.hid y2
  have HW3 := Lib.hid hw3
  have d5 := at5 y2.fr.box
  clear x2 y2 hr2 hf2 hb2 HX HA hw3
  go_wp2_with (first | fail | (refine st31 rfl (.tmp 2) (.tmp 7) rfl _ _ _ rfl rfl _ H2.out.fr.box ?_; rw [← HW3.out]))
  clear d5
  refine (top_at (gone s k).pg k 1 false false r2.a1 (gone s k).pg.length r2.c1 rfl (by have := (gone_lim (k := k) HL.out).1; omega) w3 HY.out.fr.rows.pg.row).mono ?_
  rintro e w4 ⟨A1, n1, k1, rfl, hn1, hp1, hf1, hb1⟩
  have x4 := HY.out.keep hb1
  have y4 := x4.cellset (x4.fr.setPg hp1 (HY.out.fresh hf1) hn1)
  have e5 := at5 x4.fr.box
  have f5 := x4.fr.box.free 5
  have y5 := y4.cellset (y4.fr.setRa (up s.ct.ra))
  have e12 := at12 x4.fr.box
  have f12 := x4.fr.box.free 12
  have hup : IntKind.u64.wrap ((gone s k).ct.ra + 1) = up s.ct.ra := wrap_up s.ct.ra
  obtain ⟨w5, hw5⟩ : ∃ w5, w5 = (w4.setCell ⟨w.heap.size, 5, none⟩ (.slice A1 n1 k1)).setCell ⟨w.heap.size, 12, none⟩ (.int .u64 (up s.ct.ra)) := ⟨_, rfl⟩
  rw [← hw5] at y5
  have HW5 := Lib.hid hw5
  have HZ := Lib.hid y5
  have H0 := Lib.hid (And.intro hcf h0)
  have HLM : Hid (Lim { gone s k with pg := ⟨k, 1, false, false⟩ :: (gone s k).pg, ct := { (gone s k).ct with ra := up s.ct.ra } } 30000) := Lib.hid ⟨by
    have := (gone_lim (k := k) HL.out).1
    simp; omega, by have := (gone_lim (k := k) HL.out).2.1; show (gone s k).qu.length ≤ 30000; omega, by have := (gone_lim (k := k) HL.out).2.2; show (gone s k).gh.length ≤ 30000; omega⟩
  clear x4 y4 y5 hn1 hp1 hf1 hb1 HY H2 HW3 hw5 hcf h0
  go_wp2_with (first | fail | (rw [← HW5.out]; refine ld31 rfl (.tmp 2) rfl _ rfl _ HZ.out.fr.box ?_))
  refine (lower_at { gone s k with pg := ⟨k, 1, false, false⟩ :: (gone s k).pg, ct := { (gone s k).ct with ra := up s.ct.ra } } { r2 with a1 := A1, c1 := k1 } H0.out.1 H0.out.2 HLM.out w5 HZ.out.fr.rows).mono ?_
  rintro e w6 ⟨r6, rfl, hr6, hf6, hb6⟩
  have x6 := HZ.out.keep hb6
  have HX6 := Lib.hid (And.intro x6 (And.intro hr6 (HZ.out.fr.told hr6 hf6)))
  clear x6 hr6 hf6 hb6 HZ HW5 e5 f5 e12 f12
  go_wp2_with (first | fail | refine st31 rfl (.tmp 4) (.tmp 21) rfl _ _ _ rfl rfl _ HX6.out.1.res ?_)
  refine bodyPost_ret (results_s rfl _ _ _ _ rfl (HX6.out.1.res.rowSet (sA_len _ _))) rfl ?_
  exact HX6.out.1.ret HX6.out.2.1 HX6.out.2.2 rfl
set_option maxHeartbeats 2000000 in
set_option maxRecDepth 100000 in
theorem cool_at (s : St) (r : R3) (k : Int) (hl : Lim s 20000) (w : World) (hr : SR w s r) : Calls Try.prog 76 #[sV s r, .int .u64 k] w (SPost w r (cool s k)) := by
  have x := F2.start hr
  obtain ⟨w1, hw1⟩ : ∃ w1, w1 = (w.alloc (.cells (sA s r) 31)).alloc (.cells (sA S0 R0) 31) := ⟨_, rfl⟩
  rw [← hw1] at x
  have hA : (w.alloc (.cells (sA s r) 31)).alloc (.cells #[.int .i64 0, .int .i64 0, .int .i64 0, .int .i64 0, .int .i64 0, .slice none 0 0, .slice none 0 0, .slice none 0 0, .int .i64 0, .int .i64 0, .int .u64 0, .int .u64 0, .int .u64 0, .int .u64 0, .int .u64 0, .int .u64 0, .int .u64 0, .int .u64 0, .int .u64 0, .int .u64 0] 31) = w1 := hw1.symm
  have HA := Lib.hid hA
  have HX := Lib.hid x
  have HL := Lib.hid hl
  clear x hw1 hA hl hr
  show Calls Try.prog 76 #[sV s r, .int .u64 k] w fun e w' => SPost w r (cool s k) e w'
  go_enter Try.func76, Try.ntmps76
  go_wp2_with (first | fail | (rw [HA.out]; refine ld31 rfl (.tmp 2) rfl _ rfl _ HX.out.fr.box ?_))
  refine (gone_at s r k ⟨by have := HL.out.1; omega, by have := HL.out.2.1; omega, by have := HL.out.2.2; omega⟩ _ HX.out.fr.rows).mono ?_
  rintro e w2 ⟨r2, rfl, hr2, hf2, hb2⟩
  have x2 := HX.out.keep hb2
  have y2 := x2.setAll hr2 (HX.out.fr.told hr2 hf2)
  have H2 := Lib.hid x2
  obtain ⟨w3, hw3⟩ : ∃ w3, w3 = w2.setRow w.heap.size (sA (gone s k) r2) := ⟨_, rfl⟩
  rw [← hw3] at y2
  have HY := Lib.hid y2
  have HW3 := Lib.hid hw3
  have d5 := at5 y2.fr.box
  clear x2 y2 hr2 hf2 hb2 HX HA hw3
  go_wp2_with (first | fail | (refine st31 rfl (.tmp 2) (.tmp 7) rfl _ _ _ rfl rfl _ H2.out.fr.box ?_; rw [← HW3.out]))
  clear d5
  refine (top_at (gone s k).pg k 2 false false r2.a1 (gone s k).pg.length r2.c1 rfl (by have := (gone_lim (k := k) HL.out).1; omega) w3 HY.out.fr.rows.pg.row).mono ?_
  rintro e w4 ⟨A1, n1, k1, rfl, hn1, hp1, hf1, hb1⟩
  have x4 := HY.out.keep hb1
  have y4 := x4.cellset (x4.fr.setPg hp1 (HY.out.fresh hf1) hn1)
  have e5 := at5 x4.fr.box
  have f5 := x4.fr.box.free 5
  have e6 := at6 x4.fr.box
  obtain ⟨w5, hw5⟩ : ∃ w5, w5 = w4.setCell ⟨w.heap.size, 5, none⟩ (.slice A1 n1 k1) := ⟨_, rfl⟩
  rw [← hw5] at y4
  have HW5 := Lib.hid hw5
  have HZ := Lib.hid y4
  clear x4 y4 hn1 hp1 hf1 hb1 HY H2 HW3 hw5
  go_wp2_with fail
  rw [← HW5.out]
  clear e5 f5 e6 HW5
  refine (more_at (gone s k).qu k r2.a2 (gone s k).qu.length r2.c2 rfl (by have := (gone_lim (k := k) HL.out).2.1; omega) w5 HZ.out.fr.rows.qu.row).mono ?_
  rintro e w6 ⟨A2, n2, k2, rfl, hn2, hp2, hf2, hb2⟩
  have x6 := HZ.out.keep hb2
  have y6 := x6.cellset (x6.fr.setQu hp2 (HZ.out.fresh hf2) hn2)
  have e6 := at6 x6.fr.box
  have f6 := x6.fr.box.free 6
  have HU := Lib.hid y6
  clear x6 y6 hn2 hp2 hf2 hb2 HZ
  go_wp2_with (first | fail | refine ld31 rfl (.tmp 2) rfl _ rfl _ HU.out.fr.box ?_ | refine st31 rfl (.tmp 4) (.tmp 19) rfl _ _ _ rfl rfl _ HU.out.res ?_)
  refine bodyPost_ret (results_s rfl _ _ _ _ rfl (HU.out.res.rowSet (sA_len _ _))) rfl ?_
  exact HU.out.ret HU.out.fr.rows HU.out.fr.frm rfl
end Go.Proofs.Ytifenpmkbnohhaa
namespace Go.Proofs.Ytifenpmkbnohhaa
open Go.RowKit
open Go.Proofs.StackM
set_option linter.unusedVariables false
/-- what a function that tells a state and a truth tells -/
def S2Post (w : World) (r : R3) (s' : St) (b : Bool) (e : Ending) (w' : World) : Prop := ∃ r', e = .returned (.tuple #[sV s' r', .bool b]) ∧ SR w' s' r' ∧ Frm w.heap.size r r' ∧ Below w.heap.size w w'
theorem F2.ret2 {w w1 : World} {r0 r : R3} {s : St} (x : F2 w r0 w1 s r) {s' : St} {r' : R3} {b : Bool} (hr : SR w1 s' r') (hf : Frm (w.heap.size + 2) r0 r') {e : Ending} (he : e = .returned (.tuple #[sV s' r', .bool b])) : S2Post w r0 s' b e (w1.setRow (w.heap.size + 1) (sA s' r')) :=
  ⟨r', he, sr_row hr hf x.fr.old (Nat.le_succ _) (by omega) _, hf.weak (by omega), below_setRow x.fr.bel (Nat.le_succ _)⟩
theorem F2.grow {w w1 : World} {r0 r r1 r2 : R3} {s : St} (x : F2 w r0 w1 s r) (h1 : Frm (w.heap.size + 2) r0 r1) (h2 : Frm w1.heap.size r1 r2) : Frm (w.heap.size + 2) r0 r2 := h1.trans h2 x.fr.hi
theorem Lim.up {s : St} {m n : Nat} (h : Lim s m) (hmn : m ≤ n) : Lim s n := ⟨by have := h.1; omega, by have := h.2.1; omega, by have := h.2.2; omega⟩
set_option maxHeartbeats 2000000 in
set_option maxRecDepth 100000 in
theorem drop_at (s : St) (r : R3) (k : Int) (hl : Lim s 10000) (w : World) (hr : SR w s r) : Calls Try.prog 45 #[sV s r, .int .u64 k] w (S2Post w r (drop s k) (decide (Kpt s k))) := by
  have x := F2.start hr
  obtain ⟨w1, hw1⟩ : ∃ w1, w1 = (w.alloc (.cells (sA s r) 31)).alloc (.cells (sA S0 R0) 31) := ⟨_, rfl⟩
  rw [← hw1] at x
  have hA : (w.alloc (.cells (sA s r) 31)).alloc (.cells #[.int .i64 0, .int .i64 0, .int .i64 0, .int .i64 0, .int .i64 0, .slice none 0 0, .slice none 0 0, .slice none 0 0, .int .i64 0, .int .i64 0, .int .u64 0, .int .u64 0, .int .u64 0, .int .u64 0, .int .u64 0, .int .u64 0, .int .u64 0, .int .u64 0, .int .u64 0, .int .u64 0] 31) = w1 := hw1.symm
  have HA := Lib.hid hA
  have HX := Lib.hid x
  have HL := Lib.hid hl
  obtain ⟨b, hb⟩ : ∃ b, b = decide (Kpt s k) := ⟨_, rfl⟩
  have C18 := Lib.hid (kept_at s r k (hl.up (by omega)) w1 x.fr.rows)
  rw [← hb] at C18 ⊢
  clear x hw1 hA hl hr hb
  show Calls Try.prog 45 #[sV s r, .int .u64 k] w fun e w' => S2Post w r (drop s k) b e w'
  go_enter Try.func45, Try.ntmps45
  go_wp2_with (first | fail | (rw [HA.out]; refine ld31 rfl (.tmp 2) rfl _ rfl _ HX.out.fr.box ?_))
  refine C18.out.mono ?_
  rintro e w2 ⟨rfl, hb2⟩
  have x2 := HX.out.keep hb2
  have H2 := Lib.hid x2
  clear x2 hb2 HX HA C18
  go_wp2_with (first | fail | refine ld31 rfl (.tmp 2) rfl _ rfl _ H2.out.fr.box ?_)
  refine (gone_at s r k (HL.out.up (by omega)) _ H2.out.fr.rows).mono ?_
  rintro e w3 ⟨r3, rfl, hr3, hf3, hb3⟩
  have H3 := Lib.hid (And.intro (H2.out.keep hb3) (And.intro hr3 (H2.out.fr.told hr3 hf3)))
  clear hr3 hf3 hb3 H2
  go_wp2_with fail
  refine (prune_at (gone s k) r3 (gone_lim (HL.out.up (by omega))) _ H3.out.2.1).mono ?_
  rintro e w4 ⟨r4, rfl, hr4, hf4, hb4⟩
  have H4 := Lib.hid (And.intro (H3.out.1.keep hb4) (And.intro hr4 (H3.out.1.grow H3.out.2.2 hf4)))
  clear hr4 hf4 hb4 H3
  go_wp2_with (first | fail | refine st31 rfl (.tmp 4) (.tmp 13) rfl _ _ _ rfl rfl _ H4.out.1.res ?_)
  refine bodyPost_ret (results_s2 rfl _ _ _ _ rfl (H4.out.1.res.rowSet (sA_len _ _))) rfl ?_
  exact H4.out.1.ret2 H4.out.2.1 H4.out.2.2 rfl
theorem fi_hs (l : List Pg) (k : Int) : 0 ≤ fi l k ↔ ∃ p ∈ l, p.key = k := by
  rcases fi_cases l k with ⟨i, hi, h1, h2, _⟩ | ⟨h1, h3⟩
  · rw [h1]
    exact ⟨fun _ => ⟨l[i], List.getElem_mem hi, h2⟩, fun _ => by omega⟩
  · rw [h1]
    refine ⟨fun h => absurd h (by decide), fun ⟨p, hp, hk⟩ => ?_⟩
    rw [List.find?_eq_none] at h3
    exact absurd hk (by simpa using h3 p hp)
def tTouch (s : St) (k : Int) : St := if kOf s k = 1 then prune { hit s with pg := ⟨k, 1, false, false⟩ :: wo s.pg k } else if Hs s k ∨ Rm s then prune (raise (hit s) k) else prune (cool (hit s) k)
theorem touch_yes {s : St} {k : Int} (h : Kpt s k) : touch s k = tTouch s k := by unfold touch tTouch; rw [if_pos h]
theorem touch_no {s : St} {k : Int} (h : ¬ Kpt s k) : touch s k = s := by unfold touch; rw [if_neg h]
theorem lower_lim {s : St} (h : Lsum s) : Lsum (lower s) := lower_ind (P := Lsum) (fun t p _ hp ht => loS_sum hp ht) s h
theorem raise_lim {s : St} {k : Int} (h : Lim s 20000) : Lim (raise s k) 100000 := by
  have h1 := gone_lim (k := k) h
  have : Lsum { top (gone s k) k 1 with ct := { s.ct with ra := up s.ct.ra } } := ⟨by
    have := h1.1
    have := h1.2.1
    show (⟨k, 1, false, false⟩ :: (gone s k).pg : List Pg).length + (gone s k).qu.length ≤ 60000
    simp only [List.length_cons]
    omega, by have := h1.2.2; show (gone s k).gh.length ≤ 30000; omega⟩
  exact (lower_lim this).lim
theorem cool_lim {s : St} {k : Int} (h : Lim s 20000) : Lim (cool s k) 100000 := by
  have h1 := gone_lim (k := k) h
  exact ⟨by
    have := h1.1
    show (⟨k, 2, false, false⟩ :: (gone s k).pg : List Pg).length ≤ 100000
    simp only [List.length_cons]
    omega, by
    have := h1.2.1
    show (ls s.qu k ++ [k]).length ≤ 100000
    have e : (ls s.qu k).length = (gone s k).qu.length := rfl
    simp only [List.length_append, List.length_singleton]
    omega, by have := h1.2.2; show (gone s k).gh.length ≤ 100000; omega⟩
set_option maxHeartbeats 2000000 in
set_option maxRecDepth 100000 in
theorem touch_at (s : St) (r : R3) (k : Int) (hcf : Cok s.cf) (h0 : s.cf.q ≤ s.cf.c) (hl : Lim s 10000) (w : World) (hr : SR w s r) : Calls Try.prog 46 #[sV s r, .int .u64 k] w (S2Post w r (touch s k) (decide (Kpt s k))) := by
  have x := F2.start hr
  obtain ⟨w1, hw1⟩ : ∃ w1, w1 = (w.alloc (.cells (sA s r) 31)).alloc (.cells (sA S0 R0) 31) := ⟨_, rfl⟩
  rw [← hw1] at x
  have hA : (w.alloc (.cells (sA s r) 31)).alloc (.cells #[.int .i64 0, .int .i64 0, .int .i64 0, .int .i64 0, .int .i64 0, .slice none 0 0, .slice none 0 0, .slice none 0 0, .int .i64 0, .int .i64 0, .int .u64 0, .int .u64 0, .int .u64 0, .int .u64 0, .int .u64 0, .int .u64 0, .int .u64 0, .int .u64 0, .int .u64 0, .int .u64 0] 31) = w1 := hw1.symm
  have HA := Lib.hid hA
  have HX := Lib.hid x
  have HL := Lib.hid hl
  have H0 := Lib.hid (And.intro hcf h0)
  have C18 := Lib.hid (kept_at s r k (hl.up (by omega)) w1 x.fr.rows)
  clear x hw1 hA hl hr hcf h0
  obtain ⟨t, ht⟩ : ∃ t, t = touch s k := ⟨_, rfl⟩
  rw [← ht]
  by_cases hk : Kpt s k
  · rw [decide_eq_true hk] at C18 ⊢
    rw [touch_yes hk] at ht
    have HT := Lib.hid ht
    clear hk ht
    show Calls Try.prog 46 #[sV s r, .int .u64 k] w fun e w' => S2Post w r t true e w'
    go_enter Try.func46, Try.ntmps46
    go_wp2_with (first | fail | (rw [HA.out]; refine ld31 rfl (.tmp 2) rfl _ rfl _ HX.out.fr.box ?_))
    refine C18.out.mono ?_
    rintro e w2 ⟨rfl, hb2⟩
    have x2 := HX.out.keep hb2
    have y2 := x2.cellset (x2.fr.setHi (up s.ct.hi))
    have d10 := at10 x2.fr.box
    have f10 := x2.fr.box.free 10
    have hup := wrap_up s.ct.hi
    obtain ⟨w3, hw3⟩ : ∃ w3, w3 = w2.setCell ⟨w.heap.size, 10, none⟩ (.int .u64 (up s.ct.hi)) := ⟨_, rfl⟩
    rw [← hw3] at y2
    have H3 : Hid (F2 w r w3 (hit s) r) := Lib.hid y2
    have HW3 := Lib.hid hw3
    clear x2 y2 hb2 HX HA C18 hw3
    obtain ⟨z, hz⟩ : ∃ z, z = kOf s k := ⟨_, rfl⟩
    by_cases h1 : kOf s k = 1
    · have HE : Hid (t = prune { hit s with pg := ⟨k, 1, false, false⟩ :: wo s.pg k }) := Lib.hid (by rw [HT.out, tTouch, if_pos h1])
      clear hz
      go_wp2_with (first | fail | (rw [← HW3.out]; refine ld31 rfl (.tmp 2) rfl _ rfl _ H3.out.fr.box ?_))
      refine (is_at (hit s) r k (HL.out.up (by omega)) _ H3.out.fr.rows).mono ?_
      rintro e w4 ⟨rfl, hb4⟩
      rw [show kOf (hit s) k = 1 from h1]
      have x4 := H3.out.keep hb4
      have H4 := Lib.hid x4
      clear hb4 H3 HW3 d10 f10
      clear h1
      have e5 := at5 x4.fr.box
      clear x4
      go_wp2_with fail
      refine (without_at (hit s).pg k r.a1 (hit s).pg.length r.c1 rfl (by have := HL.out.1; show s.pg.length ≤ 900000; omega) _ H4.out.fr.rows.pg.row).mono ?_
      rintro e w5 ⟨A1, n1, k1, rfl, hn1, hp1, hf1, hb1⟩
      have H5 := Lib.hid (And.intro (H4.out.keep hb1) (And.intro hp1 hn1))
      clear e5 hn1 hp1 hf1 hb1 H4
      go_wp2_with fail
      refine (top_at (wo s.pg k) k 1 false false A1 n1 k1 H5.out.2.2 (by rw [H5.out.2.2]; have := HL.out.1; have := wo_len s.pg k; show (wo s.pg k).length ≤ 900000; omega) _ H5.out.2.1.row).mono ?_
      rintro e w6 ⟨A2, n2, k2, rfl, hn2, hp2, hf2, hb2⟩
      have x6 := H5.out.1.keep hb2
      have y6 := x6.cellset (x6.fr.setPg hp2 (H5.out.1.fresh hf2) hn2)
      have e5 := at5 x6.fr.box
      have f5 := x6.fr.box.free 5
      obtain ⟨w7, hw7⟩ : ∃ w7, w7 = w6.setCell ⟨w.heap.size, 5, none⟩ (.slice A2 n2 k2) := ⟨_, rfl⟩
      rw [← hw7] at y6
      have H7 := Lib.hid y6
      have HW7 := Lib.hid hw7
      have HLM : Hid (Lim { hit s with pg := ⟨k, 1, false, false⟩ :: wo s.pg k } 100000) := Lib.hid ⟨by have := HL.out.1; have := wo_len s.pg k; simp; omega, by have := HL.out.2.1; show s.qu.length ≤ 100000; omega, by have := HL.out.2.2; show s.gh.length ≤ 100000; omega⟩
      clear x6 y6 hn2 hp2 hf2 hb2 H5 hw7
      go_wp2_with (first | fail | (rw [← HW7.out]; refine ld31 rfl (.tmp 2) rfl _ rfl _ H7.out.fr.box ?_))
      refine (prune_at { hit s with pg := ⟨k, 1, false, false⟩ :: wo s.pg k } { r with a1 := A2, c1 := k2 } HLM.out w7 H7.out.fr.rows).mono ?_
      rintro e w8 ⟨r8, rfl, hr8, hf8, hb8⟩
      have H8 := Lib.hid (And.intro (H7.out.keep hb8) (And.intro hr8 (H7.out.fr.told hr8 hf8)))
      clear hr8 hf8 hb8 H7 HW7 e5 f5
      go_wp2_with (first | fail | refine st31 rfl (.tmp 4) (.tmp 30) rfl _ _ _ rfl rfl _ H8.out.1.res ?_)
      refine bodyPost_ret (results_s2 rfl _ _ _ _ rfl (H8.out.1.res.rowSet (sA_len _ _))) rfl ?_
      rw [HE.out]
      exact H8.out.1.ret2 H8.out.2.1 H8.out.2.2 rfl
    · have hz1 : (z == 1) = false := by rw [hz]; simpa using h1
      have C37 := fun V (x : F2 w r V (hit s) r) => find_at s.pg k r.a1 s.pg.length r.c1 rfl (by have := HL.out.1; omega) V x.fr.rows.pg.row
      have hfi := fi_hs s.pg k
      obtain ⟨q, hq⟩ : ∃ q, q = fi s.pg k := ⟨_, rfl⟩
      have hqc : 0 ≤ q ∨ q = -1 := by
        rw [hq]
        rcases fi_cases s.pg k with ⟨i, hi, h1, _⟩ | ⟨h1, _⟩
        · left; omega
        · exact .inr h1
      rw [← hq] at hfi
      simp only [← hq] at C37
      have C37h := Lib.hid C37
      have HZ := Lib.hid hz
      clear hq C37
      by_cases hh : 0 ≤ q
      · have HE : Hid (t = prune (raise (hit s) k)) := Lib.hid (by rw [HT.out, tTouch, if_neg h1, if_pos (.inl (hfi.1 hh))])
        clear h1 hfi hz hqc
        go_wp2_with (first | fail | (rw [← HW3.out]; refine ld31 rfl (.tmp 2) rfl _ rfl _ H3.out.fr.box ?_))
        refine (is_at (hit s) r k (HL.out.up (by omega)) _ H3.out.fr.rows).mono ?_
        rintro e w4 ⟨rfl, hb4⟩
        rw [show kOf (hit s) k = z from HZ.out.symm]
        have x4 := H3.out.keep hb4
        have H4 := Lib.hid x4
        clear hb4 H3 HW3 d10 f10
        have e5 := at5 x4.fr.box
        clear x4
        go_wp2_with fail
        refine (C37h.out _ H4.out).mono ?_
        rintro e w5 ⟨rfl, h5⟩
        subst h5
        go_wp2_with (first | fail | refine ld31 rfl (.tmp 2) rfl _ rfl _ H4.out.fr.box ?_)
        refine (raise_at (hit s) r k H0.out.1 H0.out.2 (HL.out.up (by omega)) _ H4.out.fr.rows).mono ?_
        rintro e w6 ⟨r6, rfl, hr6, hf6, hb6⟩
        have H6 := Lib.hid (And.intro (H4.out.keep hb6) (And.intro hr6 (H4.out.fr.told hr6 hf6)))
        clear hr6 hf6 hb6 H4 e5
        go_wp2_with fail
        refine (prune_at (raise (hit s) k) r6 (raise_lim (HL.out.up (by omega))) _ H6.out.2.1).mono ?_
        rintro e w8 ⟨r8, rfl, hr8, hf8, hb8⟩
        have H8 := Lib.hid (And.intro (H6.out.1.keep hb8) (And.intro hr8 (H6.out.1.grow H6.out.2.2 hf8)))
        clear hr8 hf8 hb8 H6
        go_wp2_with (first | fail | refine st31 rfl (.tmp 4) (.tmp 43) rfl _ _ _ rfl rfl _ H8.out.1.res ?_)
        refine bodyPost_ret (results_s2 rfl _ _ _ _ rfl (H8.out.1.res.rowSet (sA_len _ _))) rfl ?_
        rw [HE.out]
        exact H8.out.1.ret2 H8.out.2.1 H8.out.2.2 rfl
      · obtain ⟨b, hb⟩ : ∃ b, b = decide (Rm (hit s)) := ⟨_, rfl⟩
        have C42 := Lib.hid (fun V (x : F2 w r V (hit s) r) => room_at (hit s) r H0.out.1 (HL.out.up (by omega)) V x.fr.rows)
        rw [← hb] at C42
        have hnh : ¬ Hs s k := fun h => hh (hfi.2 h)
        obtain rfl : q = -1 := hqc.resolve_left hh
        clear hh hqc
        by_cases hrm : Rm s
        · obtain rfl : b = true := by rw [hb]; exact decide_eq_true hrm
          have HE : Hid (t = prune (raise (hit s) k)) := Lib.hid (by rw [HT.out, tTouch, if_neg h1, if_pos (.inr hrm)])
          clear h1 hfi hz hb hnh hrm
          go_wp2_with (first | fail | (rw [← HW3.out]; refine ld31 rfl (.tmp 2) rfl _ rfl _ H3.out.fr.box ?_))
          refine (is_at (hit s) r k (HL.out.up (by omega)) _ H3.out.fr.rows).mono ?_
          rintro e w4 ⟨rfl, hb4⟩
          rw [show kOf (hit s) k = z from HZ.out.symm]
          have x4 := H3.out.keep hb4
          have H4 := Lib.hid x4
          clear hb4 H3 HW3 d10 f10
          have e5 := at5 x4.fr.box
          clear x4
          go_wp2_with fail
          refine (C37h.out _ H4.out).mono ?_
          rintro e w5 ⟨rfl, h5⟩
          subst h5
          go_wp2_with (first | fail | refine ld31g rfl (.tmp 2) rfl _ rfl _ H4.out.fr.box ?_)
          refine (C42.out _ H4.out).mono ?_
          rintro e w5 ⟨rfl, hb5⟩
          have H5 := Lib.hid (H4.out.keep hb5)
          clear hb5 e5 H4
          go_wp2_with (first | fail | refine ld31 rfl (.tmp 2) rfl _ rfl _ H5.out.fr.box ?_)
          refine (raise_at (hit s) r k H0.out.1 H0.out.2 (HL.out.up (by omega)) _ H5.out.fr.rows).mono ?_
          rintro e w6 ⟨r6, rfl, hr6, hf6, hb6⟩
          have H6 := Lib.hid (And.intro (H5.out.keep hb6) (And.intro hr6 (H5.out.fr.told hr6 hf6)))
          clear hr6 hf6 hb6 H5
          go_wp2_with fail
          refine (prune_at (raise (hit s) k) r6 (raise_lim (HL.out.up (by omega))) _ H6.out.2.1).mono ?_
          rintro e w8 ⟨r8, rfl, hr8, hf8, hb8⟩
          have H8 := Lib.hid (And.intro (H6.out.1.keep hb8) (And.intro hr8 (H6.out.1.grow H6.out.2.2 hf8)))
          clear hr8 hf8 hb8 H6
          go_wp2_with (first | fail | refine st31 rfl (.tmp 4) (.tmp 43) rfl _ _ _ rfl rfl _ H8.out.1.res ?_)
          refine bodyPost_ret (results_s2 rfl _ _ _ _ rfl (H8.out.1.res.rowSet (sA_len _ _))) rfl ?_
          rw [HE.out]
          exact H8.out.1.ret2 H8.out.2.1 H8.out.2.2 rfl
        · obtain rfl : b = false := by rw [hb]; exact decide_eq_false hrm
          have HE : Hid (t = prune (cool (hit s) k)) := Lib.hid (by rw [HT.out, tTouch, if_neg h1, if_neg (fun h => h.elim hnh hrm)])
          clear h1 hfi hz hb hnh hrm
          go_wp2_with (first | fail | (rw [← HW3.out]; refine ld31 rfl (.tmp 2) rfl _ rfl _ H3.out.fr.box ?_))
          refine (is_at (hit s) r k (HL.out.up (by omega)) _ H3.out.fr.rows).mono ?_
          rintro e w4 ⟨rfl, hb4⟩
          rw [show kOf (hit s) k = z from HZ.out.symm]
          have x4 := H3.out.keep hb4
          have H4 := Lib.hid x4
          clear hb4 H3 HW3 d10 f10
          have e5 := at5 x4.fr.box
          clear x4
          go_wp2_with fail
          refine (C37h.out _ H4.out).mono ?_
          rintro e w5 ⟨rfl, h5⟩
          subst h5
          go_wp2_with (first | fail | refine ld31g rfl (.tmp 2) rfl _ rfl _ H4.out.fr.box ?_)
          refine (C42.out _ H4.out).mono ?_
          rintro e w5 ⟨rfl, hb5⟩
          have H5 := Lib.hid (H4.out.keep hb5)
          clear hb5 e5 H4
          go_wp2_with (first | fail | refine ld31 rfl (.tmp 2) rfl _ rfl _ H5.out.fr.box ?_)
          refine (cool_at (hit s) r k (HL.out.up (by omega)) _ H5.out.fr.rows).mono ?_
          rintro e w6 ⟨r6, rfl, hr6, hf6, hb6⟩
          have H6 := Lib.hid (And.intro (H5.out.keep hb6) (And.intro hr6 (H5.out.fr.told hr6 hf6)))
          clear hr6 hf6 hb6 H5
          go_wp2_with fail
          refine (prune_at (cool (hit s) k) r6 (cool_lim (HL.out.up (by omega))) _ H6.out.2.1).mono ?_
          rintro e w8 ⟨r8, rfl, hr8, hf8, hb8⟩
          have H8 := Lib.hid (And.intro (H6.out.1.keep hb8) (And.intro hr8 (H6.out.1.grow H6.out.2.2 hf8)))
          clear hr8 hf8 hb8 H6
          go_wp2_with (first | fail | refine st31 rfl (.tmp 4) (.tmp 47) rfl _ _ _ rfl rfl _ H8.out.1.res ?_)
          refine bodyPost_ret (results_s2 rfl _ _ _ _ rfl (H8.out.1.res.rowSet (sA_len _ _))) rfl ?_
          rw [HE.out]
          exact H8.out.1.ret2 H8.out.2.1 H8.out.2.2 rfl
  · rw [decide_eq_false hk] at C18 ⊢
    rw [touch_no hk] at ht
    have HT := Lib.hid ht
    clear hk ht
    show Calls Try.prog 46 #[sV s r, .int .u64 k] w fun e w' => S2Post w r t false e w'
    go_enter Try.func46, Try.ntmps46
    go_wp2_with (first | fail | (rw [HA.out]; refine ld31 rfl (.tmp 2) rfl _ rfl _ HX.out.fr.box ?_))
    refine C18.out.mono ?_
    rintro e w2 ⟨rfl, hb2⟩
    have H2 := Lib.hid (HX.out.keep hb2)
    clear hb2 HX HA C18
    go_wp2_with (first | fail | refine ld31 rfl (.tmp 2) rfl _ rfl _ H2.out.fr.box ?_ | refine st31 rfl (.tmp 4) (.tmp 10) rfl _ _ _ rfl rfl _ H2.out.res ?_)
    refine bodyPost_ret (results_s2 rfl _ _ _ _ rfl (H2.out.res.rowSet (sA_len _ _))) rfl ?_
    rw [HT.out]
    exact H2.out.ret2 H2.out.fr.rows H2.out.fr.frm rfl
end Go.Proofs.Ytifenpmkbnohhaa
