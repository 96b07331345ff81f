/-
  The ring: pages are reclaimed, as long as too many are kept.
-/
import Derived.Test.YtejcahkkpednfaaG05
import Derived.Test.YtejcahkkpednfaaG10
namespace Go.Proofs.Ytejcahkkpednfaa
open Go.RowKit
open Go.Proofs.StackM (Pg Cf Ct St up many fnd fnd_at fnd_no)
open Go.Proofs.WheelM
set_option linter.unusedVariables false
def B76 (w : World) (b : Nat) (cs : Array Value) : Prop := w.heap[b]? = some (.cells cs 93 (0, 0)) ∧ cs.size = 21
theorem B76.kept {w w' : World} {b B : Nat} {cs : Array Value} (h : B76 w b cs) (hb : Below B w w') (hB : b < B) : B76 w' b cs := ⟨by rw [hb.block b hB]; exact h.1, h.2⟩
theorem B76.lt {w : World} {b : Nat} {cs : Array Value} (h : B76 w b cs) : b < w.heap.size := (Array.getElem?_eq_some_iff.1 h.1).1
theorem B76.cellOther {w : World} {b : Nat} {cs : Array Value} {p : Addr} {v : Value} (h : B76 w b cs) (hne : b ≠ p.block) : B76 (w.setCell p v) b cs := ⟨by rw [Below.heap_setCell w p v b hne]; exact h.1, h.2⟩
theorem info76 : (Try.prog.info? 93).map (·.size) = some 21 := by kernel_rfl
theorem st76 {ops : Array Oper} {rest : List Oper} {o : Oper} {a : Act} {w : World} {Q : Exit → Act → World → Prop} (hgd : o.guard = none) (x y : Operand) (ho : o.op = .store 93 x y) (g : Nat) (s : St) (r : R3) (A : Option Addr) (n c : Nat) (hx : a.eval x = .pointer (some ⟨g, 0, none⟩)) (hy : a.eval y = .agg (spA s r A n c)) (cs : Array Value) (h : B76 w g cs)
    (hK : wpList Try.prog ops Q rest a (w.setRow g (spA s r A n c))) (hd : o.dst = none := by rfl) : wpList Try.prog ops Q (o :: rest) a w :=
  wpList_store_row hgd 93 x y ho g (spA s r A n c) hx hy 93 cs h.1 (by rw [spA_len]; exact info76) (by rw [spA_len, h.2]) (spA_one s r A n c) (by rw [hd]; exact hK)
theorem bld76run (s : St) (r : R3) (A : Option Addr) (n c : Nat) (w : World) : (Instr.build 93 #[(0, sV s r), (1, .slice A n c)]).run Try.prog w = .ok (.agg (spA s r A n c)) w := by
  simp [go_sem, Instr.build, Instr.fill, sA, spA, Result.andThen]
theorem bld76 {ops : Array Oper} {rest : List Oper} {o : Oper} {a : Act} {w : World} {Q : Exit → Act → World → Prop} (hg : o.guard = none) (x y : Operand) (ho : o.op = .build 93 #[(0, x), (1, y)]) (s : St) (r : R3) (A : Option Addr) (n c : Nat) (hx : a.eval x = sV s r) (hy : a.eval y = .slice A n c)
    (hK : wpList Try.prog ops Q rest (a.put o.dst (.agg (spA s r A n c))) w) : wpList Try.prog ops Q (o :: rest) a w := by
  refine wpList_plain hg fun K k => ?_
  unfold Oper.wp
  have := bld76run s r A n c w
  simp [execOp, ho, hx, hy, this]
  exact k _ _ hK
theorem results_sp {fn : Func} {p : Tmp} (h : fn.results = #[.cell p 93]) (tmps : Array Value) (w : World) (g : Nat) (cs : Array Value)
    (hp : tmps.getD p undef = .pointer (some ⟨g, 0, none⟩)) (hg : B76 w g cs) : (results fn tmps).run Try.prog w = .ok (.agg cs) w := by
  have hp' : tmps[p]?.getD undef = .pointer (some ⟨g, 0, none⟩) := by simpa using hp
  have hl : (loadVar 93 ⟨g, 0, none⟩).run Try.prog w = .ok (.agg cs) w := run_loadVar_row (P := Try.prog) w g 93 93 cs (0, 0) _ hg.1 Try.underlying93 rfl (by rw [hg.2]; kernel_rfl)
  simp only [results, h]
  simp [hp', asAddr, hl]
/-- the frame of spill -/
structure F3 (w : World) (r0 : R3) (w' : World) (s : St) (r : R3) : Prop where
  fr : Fr w (w.heap.size + 2) r0 w' w.heap.size s r
  res : ∃ cs, B76 w' (w.heap.size + 1) cs
section
variable {w w1 w2 : World} {r0 r : R3} {s : St}
theorem F3.keep (x : F3 w r0 w1 s r) (hb : Below w1.heap.size w1 w2) : F3 w r0 w2 s r := ⟨x.fr.keep hb, by obtain ⟨cs, h⟩ := x.res; exact ⟨cs, h.kept hb h.lt⟩⟩
theorem F3.cellset (x : F3 w r0 w1 s r) {k : Nat} {v : Value} {s' : St} {r' : R3} (y : Fr w (w.heap.size + 2) r0 (w1.setCell ⟨w.heap.size, k, none⟩ v) w.heap.size s' r') : F3 w r0 (w1.setCell ⟨w.heap.size, k, none⟩ v) s' r' := ⟨y, by obtain ⟨cs, h⟩ := x.res; exact ⟨cs, h.cellOther (by simp)⟩⟩
theorem F3.fresh (x : F3 w r0 w1 s r) {A : Option Addr} (h : ∀ a, A = some a → w1.heap.size ≤ a.block) : ∀ a, A = some a → w.heap.size + 2 ≤ a.block := fun a e => Nat.le_trans x.fr.hi (h a e)
theorem F3.start {s : St} {r : R3} (h : SR w s r) (cs : Array Value) (hc : cs.size = 21) : F3 w r ((w.alloc (.cells (sA s r) 31)).alloc (.cells cs 93)) s r :=
  ⟨Fr.start h _, cs, by
    refine ⟨?_, hc⟩
    rw [show w.heap.size + 1 = (w.alloc (.cells (sA s r) 31)).heap.size from by simp]
    exact heap_alloc_new _ _⟩
end
/-- the row of what is evicted stays where the box's cells are set -/
theorem owns_cell {w : World} {lo e sz n B k : Nat} {v u : Value} {xs : List Value} (ho : w.ownsRow lo e sz v n xs) (hB : B < lo) : (w.setCell ⟨B, k, none⟩ u).ownsRow lo e sz v n xs := by
  refine ho.kept (row := some B) ⟨rfl, rfl, rfl, by simp [World.setCell], fun j hj hne => Below.heap_setCell w ⟨B, k, none⟩ u j (fun e => hne (by rw [e]))⟩ ?_
  cases e : v.ownBlock with
  | none => exact .inl rfl
  | some g =>
    right
    intro e2
    have := (ho.lt g e).1
    injection e2 with e2
    omega
theorem run_append_foot {P : Program} (w : World) (base : Nat) (t ty e : TypeId) (i : TypeInfo) (z : Value) (size bytes : Nat) (ht : P.underlying t = some (.slice e)) (hi : P.info? e = some i) (hz : i.zero = some z)
    (hsize : i.size = size) (hby : i.bytes = bytes) (hzs : z.cells.size = size) (hsz : 0 < size)
    (v : Value) (n : Nat) (xs : List Value) (hown : w.ownsRow base e size v n xs)
    (a : Addr) (c : Nat) (ys : List Value) (hl : ys.length = size) (hnews : ∀ j u, ys[j]? = some u → w.cell? (a.add j) = some u) (h1' : ∀ u ∈ ys, u.oneCell' = true)
    (h63 : n + 1 ≤ maxLen) (hbytes : (n + 1) * bytes ≤ 140737488355328) (hbase : base ≤ w.heap.size) :
    ∃ g' cap' w', (Builtin.append_ #[t, t] ty #[v, .slice (some a) 1 c]).run P w = .ok (.slice (some ⟨g', 0, none⟩) (n + 1) cap') w' ∧ w'.ownsRow base e size (.slice (some ⟨g', 0, none⟩) (n + 1) cap') (n + 1) (xs ++ ys) ∧ w.grownBy w' v.ownBlock ∧
      (v.ownBlock = some g' ∨ w.heap.size ≤ g') := by
  have hl1 : ys.length = 1 * size := by omega
  obtain ⟨v', w', hrun, ho, hg, _⟩ := run_append_own (P := P) w base t ty e i z size bytes ht hi hz hsize hby hzs hsz v n xs hown a 1 c ys hl1 hnews h1' h63 hbytes hbase
  obtain ⟨g', cap', rfl⟩ := owns_some ho (by omega)
  refine ⟨g', cap', w', hrun, ho, hg, ?_⟩
  have h9 : n + 1 ≤ 9223372036854775807 := by unfold maxLen at h63; omega
  rcases hown.2 with ⟨rfl, rfl⟩ | ⟨g, cap, cur, rfl, hbg, hgb, hnc, hcm, hcs, htake⟩
  · obtain ⟨v2, w2, hrun2, ho2, _, _⟩ := run_append_own (P := P) w w.heap.size t ty e i z size bytes ht hi hz hsize hby hzs hsz (.slice none 0 0) 0 [] (World.ownsRow_nil w _ e size) a 1 c ys hl1 hnews h1' h63 hbytes (Nat.le_refl _)
    rw [hrun] at hrun2
    injection hrun2 with e1 _
    subst e1
    exact .inr (ho2.lt g' rfl).1
  · by_cases hroom : n + 1 ≤ cap
    · have hr := run_append_room (P := P) w t ty e i ht hi g n cap cur hgb a 1 c ys (by rw [hsize]; exact hl1) hnews h1' hroom (by
        rw [hsize, hl, hcs]
        have := Nat.mul_le_mul_right size hroom
        rw [Nat.add_mul] at this; omega)
      rw [hrun] at hr
      injection hr with e1 _
      injection e1 with e1
      injection e1 with e1
      injection e1 with e1
      exact .inl (by rw [e1]; rfl)
    · have hr := run_append_grow (P := P) w t ty e i z ht hi hz ⟨g, 0, none⟩ n cap xs (by rw [hsize]; exact hown.1) (hown.cells (g := g) rfl) a 1 c ys (by rw [hsize]; exact hl1) hnews (by omega) (by omega) (growslice_fits (by omega) (by rw [hby]; exact hbytes))
      rw [hrun] at hr
      injection hr with e1 _
      injection e1 with e1
      injection e1 with e1
      injection e1 with e1
      exact .inr (by rw [e1]; exact Nat.le_refl _)

theorem grown_tr {a b c : World} {row : Option Nat} (h1 : a.grownBy b row) (h2 : b.grownBy c row) : a.grownBy c row :=
  ⟨h2.os.trans h1.os, h2.tape.trans h1.tape, h2.output.trans h1.output, Nat.le_trans h1.size h2.size, fun k hk hr => (h2.block k (Nat.lt_of_lt_of_le hk h1.size) hr).trans (h1.block k hk hr)⟩
/-- one key more in the row of what is evicted -/
theorem appU1 {w : World} {lo q : Nat} {v : Value} {l : List Int} (x : Int) (ho : w.ownsRow lo 27 1 v q (uvals l)) (hb : lo ≤ w.heap.size) (hq : q ≤ 900000) :
    ∃ g' cap' w2, (Builtin.append_ #[26, 26] 26 #[v, .slice (some ⟨w.heap.size, 0, none⟩) 1 1]).run Try.prog (w.alloc (.cells #[.int .u64 x] 27)) = .ok (.slice (some ⟨g', 0, none⟩) (q + 1) cap') w2 ∧ w2.ownsRow lo 27 1 (.slice (some ⟨g', 0, none⟩) (q + 1) cap') (q + 1) (uvals (l ++ [x])) ∧ w.grownBy w2 v.ownBlock ∧ (v.ownBlock = some g' ∨ w.heap.size ≤ g') := by
  obtain ⟨i0, hi, hz0, hz1, hz2⟩ := info_parts infoU
  have hs : (w.alloc (.cells #[.int .u64 x] 27)).heap.size = w.heap.size + 1 := by simp
  obtain ⟨g', cap', w2, h1, h2, h3, h4⟩ := run_append_foot (P := Try.prog) (w.alloc (.cells #[.int .u64 x] 27)) lo 26 26 27 i0 (.int .u64 0) 1 8 Try.underlying26 hi hz0 hz1 hz2 rfl (by decide) v q (uvals l) (own_below ho (alloc_below w _)) ⟨w.heap.size, 0, none⟩ 1 (uvals [x]) rfl (fun j u hu => by
    have hj : j < 1 := (List.getElem?_eq_some_iff.1 hu).1
    obtain rfl : j = 0 := by omega
    simp [uvals] at hu
    subst hu
    rw [Lib.add_plain, World.cell?_alloc_new]
    rfl) (uvals_one [x]) (by unfold maxLen; omega) (by omega) (by omega)
  refine ⟨g', cap', w2, h1, by rw [uvals_app]; exact h2, grown_tr (grown_any (World.grownBy_alloc w _ none) _) h3, ?_⟩
  rcases h4 with h4 | h4
  · exact .inl h4
  · exact .inr (by omega)
/-- the row of what is evicted is none of the state's rows -/
def Aw (v : Value) (r : R3) : Prop := ∀ g, v.ownBlock = some g → (∀ a, r.a1 = some a → a.block ≠ g) ∧ (∀ a, r.a2 = some a → a.block ≠ g) ∧ (∀ a, r.a3 = some a → a.block ≠ g)
theorem vrow_grown {w w' : World} {row : Option Nat} {A : Option Addr} {cap : Nat} {vs : List Value} (h : VRow w A cap vs) (hg : w.grownBy w' row) (ha : ∀ g, row = some g → ∀ a, A = some a → a.block ≠ g) : VRow w' A cap vs := by
  rcases h with h | ⟨b, off, e, h⟩
  · exact .inl h
  · refine .inr ⟨b, off, e, fun j hj => ?_⟩
    have hl := Lib.lt_of_cell (h j hj)
    rw [← h j hj]
    simp only [World.cell?]
    rw [hg.block b hl (fun e2 => ha b e2.symm _ e rfl)]
theorem F3.grown {w w1 w2 : World} {r0 r : R3} {s : St} {v : Value} (x : F3 w r0 w1 s r) (hg : w1.grownBy w2 v.ownBlock) (hv : ∀ g, v.ownBlock = some g → w.heap.size + 2 ≤ g) (ha : Aw v r) : F3 w r0 w2 s r := by
  have hne : ∀ k, k < w.heap.size + 2 → some k ≠ v.ownBlock := fun k hk e => by have := hv k e.symm; omega
  have hblk : ∀ k, k < w.heap.size + 2 → k < w1.heap.size → w2.heap[k]? = w1.heap[k]? := fun k h1 h2 => hg.block k h2 (hne k h1)
  refine ⟨⟨⟨by rw [hblk _ (by omega) x.fr.box.lt]; exact x.fr.box.1, x.fr.box.2⟩, ⟨⟨vrow_grown x.fr.rows.pg.row hg (fun g e => (ha g e).1), fun a e => Nat.lt_of_lt_of_le (x.fr.rows.pg.lt a e) hg.size, x.fr.rows.pg.le⟩, ⟨vrow_grown x.fr.rows.qu.row hg (fun g e => (ha g e).2.1), fun a e => Nat.lt_of_lt_of_le (x.fr.rows.qu.lt a e) hg.size, x.fr.rows.qu.le⟩, ⟨vrow_grown x.fr.rows.gh.row hg (fun g e => (ha g e).2.2), fun a e => Nat.lt_of_lt_of_le (x.fr.rows.gh.lt a e) hg.size, x.fr.rows.gh.le⟩⟩, x.fr.frm, x.fr.old, ?_, x.fr.lo, x.fr.up, Nat.le_trans x.fr.hi hg.size⟩, ?_⟩
  · exact ⟨hg.os.trans x.fr.bel.os, hg.tape.trans x.fr.bel.tape, hg.output.trans x.fr.bel.output, Nat.le_trans x.fr.bel.size hg.size, fun k hk => (hblk k (by omega) (by have := x.fr.bel.size; omega)).trans (x.fr.bel.block k hk)⟩
  · obtain ⟨cs, h⟩ := x.res
    exact ⟨cs, by rw [hblk _ (by omega) h.lt]; exact h.1, h.2⟩
theorem B76.rowSet {w : World} {b : Nat} {cs ds : Array Value} (h : B76 w b cs) (hd : ds.size = 21) : B76 (w.setRow b ds) b ds := by
  refine ⟨?_, hd⟩
  simp only [World.setRow, Array.getElem?_modify, ↓reduceIte, h.1, Option.map_some]
theorem Aw.fresh2 {w : World} {lo e sz n : Nat} {v : Value} {xs : List Value} {r : R3} {A : Option Addr} {c : Nat} (h : Aw v r) (ho : w.ownsRow lo e sz v n xs) (hA : ∀ a, A = some a → w.heap.size ≤ a.block) : Aw v { r with a2 := A, c2 := c } := fun g hg =>
  ⟨(h g hg).1, fun a e => by have := hA a e; have := (ho.lt g hg).2; omega, (h g hg).2.2⟩
/-- a block is none of a state's rows -/
def Ap (b : Nat) (r : R3) : Prop := (∀ a, r.a1 = some a → a.block ≠ b) ∧ (∀ a, r.a2 = some a → a.block ≠ b) ∧ (∀ a, r.a3 = some a → a.block ≠ b)
theorem ap_one {b t : Nat} {A B : Option Addr} (h : ∀ a, A = some a → a.block ≠ b) (hf : B = A ∨ ∀ a, B = some a → t ≤ a.block) (hb : b < t) : ∀ a, B = some a → a.block ≠ b := by
  rcases hf with rfl | hf
  · exact h
  · intro a e; have := hf a e; omega
theorem Ap.frm {b t : Nat} {r r2 : R3} (h : Ap b r) (hf : Frm t r r2) (hb : b < t) : Ap b r2 := ⟨ap_one h.1 hf.1 hb, ap_one h.2.1 hf.2.1 hb, ap_one h.2.2 hf.2.2 hb⟩
theorem Old.ap {t b : Nat} {r : R3} (h : Old t r) (hb : t ≤ b) : Ap b r := ⟨fun a e => by have := h.1 a e; omega, fun a e => by have := h.2.1 a e; omega, fun a e => by have := h.2.2 a e; omega⟩
theorem SR.apRow {w : World} {s : St} {r : R3} {b : Nat} {cs : Array Value} (h : SR w s r) (ha : Ap b r) : SR (w.setRow b cs) s r :=
  ⟨⟨vrow_row h.pg.row ha.1, fun a e => by rw [size_setRow]; exact h.pg.lt a e, h.pg.le⟩, ⟨vrow_row h.qu.row ha.2.1, fun a e => by rw [size_setRow]; exact h.qu.lt a e, h.qu.le⟩, ⟨vrow_row h.gh.row ha.2.2, fun a e => by rw [size_setRow]; exact h.gh.lt a e, h.gh.le⟩⟩
/-- what spill tells -/
def SpPost (w : World) (r : R3) (s' : St) (out : List Int) (e : Ending) (w' : World) : Prop := ∃ r' A n c, e = .returned (.agg (spA s' r' A n c)) ∧ n = out.length ∧ SR w' s' r' ∧ UR w' A c out ∧ (∀ a, A = some a → w.heap.size ≤ a.block) ∧ Frm w.heap.size r r' ∧ Below w.heap.size w w'
theorem owns_setRow {w : World} {lo e sz n B : Nat} {v : Value} {xs : List Value} (ho : w.ownsRow lo e sz v n xs) (hB : B < lo) (cs : Array Value) : (w.setRow B cs).ownsRow lo e sz v n xs := by
  refine ho.kept (row := some B) ⟨rfl, rfl, rfl, by rw [size_setRow]; exact Nat.le_refl _, fun j hj hne => by
    simp only [World.setRow, Array.getElem?_modify]
    rw [if_neg (fun e => hne (by rw [e]))]⟩ ?_
  cases e : v.ownBlock with
  | none => exact .inl rfl
  | some g =>
    right
    intro e2
    have := (ho.lt g e).1
    injection e2 with e2
    omega
theorem Aw.frm {w : World} {lo e sz n : Nat} {v : Value} {xs : List Value} {r r' : R3} (h : Aw v r) (ho : w.ownsRow lo e sz v n xs) (hf : Frm w.heap.size r r') : Aw v r' := fun g hg =>
  ⟨ap_one (h g hg).1 hf.1 (ho.lt g hg).2, ap_one (h g hg).2.1 hf.2.1 (ho.lt g hg).2, ap_one (h g hg).2.2 hf.2.2 (ho.lt g hg).2⟩
theorem F3.setAll {w w1 : World} {r0 r : R3} {s : St} (x : F3 w r0 w1 s r) {s' : St} {r' : R3} (hr : SR w1 s' r') (hf : Frm (w.heap.size + 2) r0 r') : F3 w r0 (w1.setRow w.heap.size (sA s' r')) s' r' := ⟨x.fr.setAll hr hf, by
  obtain ⟨cs, hc⟩ := x.res
  refine ⟨cs, ?_, hc.2⟩
  simp only [World.setRow, Array.getElem?_modify]
  rw [if_neg (by omega)]
  exact hc.1⟩
theorem B81.other {w : World} {b g : Nat} {cs : Array Value} (h : B81 w b cs) (hne : g ≠ b) (ds : Array Value) : B81 (w.setRow g ds) b cs := by
  refine ⟨?_, h.2⟩
  simp only [World.setRow, Array.getElem?_modify]
  rw [if_neg hne]
  exact h.1
theorem st81n {ops : Array Oper} {rest : List Oper} {o : Oper} {a : Act} {w : World} {Q : Exit → Act → World → Prop} (hgd : o.guard = none) (x y : Operand) (ho : o.op = .store 102 x y) (s : St) (r : R3) (k : Int) (hx : a.eval x = .pointer (some ⟨w.heap.size, 0, none⟩)) (hy : a.eval y = .agg (rA s r k)) (old : Array Value) (hold : old.size = 21)
    (hK : wpList Try.prog ops Q rest a (w.alloc (.cells (rA s r k) 102))) (hd : o.dst = none := by rfl) : wpList Try.prog ops Q (o :: rest) a (w.alloc (.cells old 102)) :=
  wpList_store_row hgd 102 x y ho w.heap.size (rA s r k) hx hy 102 old (by show (w.heap.push _)[w.heap.size]? = _; simp) (by rw [rA_len]; exact info81) (by rw [rA_len, hold]) (rA_one s r k) (by rw [World.setRow_alloc_new, hd]; exact hK)
theorem ld81 {ops : Array Oper} {rest : List Oper} {o : Oper} {a : Act} {w : World} {Q : Exit → Act → World → Prop} (hgd : o.guard = none) (x : Operand) (ho : o.op = .load 31 x) (b : Nat) (hx : a.eval x = .pointer (some ⟨b, 0, none⟩)) (s : St) (r : R3) (k : Int) (h : B81 w b (rA s r k))
    (hK : wpList Try.prog ops Q rest (a.put o.dst (sV s r)) w) : wpList Try.prog ops Q (o :: rest) a w :=
  wpList_load_mid hgd 31 x ho b 0 hx (sA s r).toList _ (fun j v hv => by
    rw [cell_of_row (w := w) b (0 + j) _ 102 (0, 0) h.1, Nat.zero_add, rA]
    have hj : j < (sA s r).size := by
      have := (List.getElem?_eq_some_iff.1 hv).1
      simpa using this
    rw [Array.getElem?_push_lt hj]
    have hv' : (sA s r)[j]? = some v := by simpa using hv
    rw [← hv', Array.getElem?_eq_getElem hj]) Try.underlying31 rfl (by rw [info31]; rfl) hK
theorem row81 {w : World} {b : Nat} {s : St} {r : R3} {k : Int} (h : B81 w b (rA s r k)) : w.cell? ⟨b, 20, none⟩ = some (.int .u64 k) := by
  rw [cell_of_row (w := w) b 20 _ 102 (0, 0) h.1]; rfl
theorem b81_alloc (w : World) (cs : Array Value) (h : cs.size = 21) : B81 (w.alloc (.cells cs 102)) w.heap.size cs := ⟨heap_alloc_new _ _, h⟩
set_option maxHeartbeats 4000000 in
set_option maxRecDepth 100000 in
theorem spill_at (s : St) (r : R3) (most : Int) (h0 : 0 ≤ most ∧ most ≤ 1000) (hw : Ww s) (hg : ¬ Gc s) (hc : s.cf.c - 1 ≤ most) (hl : s.pg.length ≤ 999) (w : World) (hr : SR w s r) : Calls Try.prog 72 #[sV s r, .int .i64 most] w (SpPost w r (spillW most s).1 (spillW most s).2) := by
  have x := F3.start hr #[.int .i64 0, .int .i64 0, .int .i64 0, .int .i64 0, .int .i64 0, .slice none 0 0, .slice none 0 0, .slice none 0 0, .int .i64 0, .int .i64 0, .int .u64 0, .int .u64 0, .int .u64 0, .int .u64 0, .int .u64 0, .int .u64 0, .int .u64 0, .int .u64 0, .int .u64 0, .int .u64 0, .slice none 0 0] rfl
  obtain ⟨w1, hw1⟩ : ∃ w1, w1 = ((w.alloc (.cells (sA s r) 31)).alloc (.cells #[.int .i64 0, .int .i64 0, .int .i64 0, .int .i64 0, .int .i64 0, .slice none 0 0, .slice none 0 0, .slice none 0 0, .int .i64 0, .int .i64 0, .int .u64 0, .int .u64 0, .int .u64 0, .int .u64 0, .int .u64 0, .int .u64 0, .int .u64 0, .int .u64 0, .int .u64 0, .int .u64 0, .slice none 0 0] 93)) := ⟨_, rfl⟩
  rw [← hw1] at x
  have hA : ((w.alloc (.cells (sA s r) 31)).alloc (.cells #[.int .i64 0, .int .i64 0, .int .i64 0, .int .i64 0, .int .i64 0, .slice none 0 0, .slice none 0 0, .slice none 0 0, .int .i64 0, .int .i64 0, .int .u64 0, .int .u64 0, .int .u64 0, .int .u64 0, .int .u64 0, .int .u64 0, .int .u64 0, .int .u64 0, .int .u64 0, .int .u64 0, .slice none 0 0] 93)) = w1 := hw1.symm
  have HA := Lib.hid hA
  have HX := Lib.hid x
  have HL := Lib.hid (And.intro hw (And.intro hg (And.intro hc hl)))
  obtain ⟨h01, h02⟩ := h0
  clear x hw1 hA hl hr hw hg hc
  show Calls Try.prog 72 #[sV s r, .int .i64 most] w fun e w' => SpPost w r (spillW most s).1 (spillW most s).2 e w'
  go_enter Try.func72, Try.ntmps72
  go_wp2_with fail
  rw [HA.out]
  go_loopg [5] (kps s.pg) (fun k v wr => ∃ (cur : St) (rr : R3) (out : List Int) (q : Nat), Hid (F3 w r wr cur rr) ∧ Hid ((Ww cur ∧ ¬ Gc cur ∧ cur.cf = s.cf ∧ cur.pg.length ≤ 999) ∧ (spillW most s).1 = (spillW most cur).1 ∧ (spillW most s).2 = out ++ (spillW most cur).2 ∧ q = out.length ∧ q + kps cur.pg ≤ 5000 ∧ k = kps cur.pg) ∧ Hid (wr.ownsRow (w.heap.size + 2) 27 1 v q (uvals out) ∧ Aw v rr))
  case atStart => exact ⟨s, r, [], 0, HX, Lib.hid ⟨⟨HL.out.1, HL.out.2.1, rfl, HL.out.2.2.2⟩, rfl, by simp, rfl, by have h1 := many_le s.pg 1; have h2 := many_le s.pg 2; have h3 := HL.out.2.2.2; unfold kps; omega, rfl⟩, Lib.hid ⟨by simpa [uvals] using World.ownsRow_nil w1 (w.heap.size + 2) 27 1, fun g hg => by cases hg⟩⟩
  case round =>
    obtain ⟨cur, rr, out, q, HF, HC, HO⟩ := hrel
    obtain ⟨nk, hnk⟩ : ∃ n, n = kps cur.pg := ⟨_, rfl⟩
    have hkl : nk ≤ 5000 := by rw [hnk]; have := HC.out.2.2.2.2.1; omega
    have C31 := kepts_at cur rr (by have := HC.out.1.2.2.2; omega) wr HF.out.fr.rows
    rw [← hnk] at C31
    have HK := Lib.hid C31
    have HNN := Lib.hid hnk
    clear C31 hnk
    go_wp2_with (first | fail | refine ld31 rfl (.tmp 2) rfl _ rfl _ HF.out.fr.box ?_)
    refine HK.out.mono ?_
    rintro e w2 ⟨rfl, hb2⟩
    have H2 := Lib.hid (HF.out.keep hb2)
    have HO2 := Lib.hid (And.intro (own_below HO.out.1 hb2) HO.out.2)
    clear hb2 HF HO HK
    by_cases hm : most < (nk : Int)
    · have hb : B cur := ⟨HC.out.1.1, HC.out.1.2.1, by have h1 := HL.out.2.2.1; have h2 := HC.out.1.2.2.1; rw [← HNN.out, h2]; omega⟩
      have hrc := rcl_rc hb
      have hE := spillW_step (most := most) (s := cur) (by rw [← HNN.out]; exact hm) (by have := hrc.k; omega)
      have HE : Hid ((spillW most s).1 = (spillW most (rcl cur).1).1 ∧ (spillW most s).2 = (out ++ [(rcl cur).2]) ++ (spillW most (rcl cur).1).2) := Lib.hid ⟨by rw [HC.out.2.1, hE], by rw [HC.out.2.2.1, hE]; simp⟩
      have HRC := Lib.hid hrc
      have C50 := reclaim_at cur rr hb HC.out.1.2.2.2 w2 H2.out.fr.rows
      obtain ⟨t, ht⟩ : ∃ t, t = (rcl cur).1 := ⟨_, rfl⟩
      obtain ⟨ky, hky⟩ : ∃ t, t = (rcl cur).2 := ⟨_, rfl⟩
      rw [← ht, ← hky] at C50 HE
      rw [← ht] at HRC
      have HCR := Lib.hid C50
      clear hb hrc hE C50 ht hky
      go_wp2_with (first | fail | refine ld31 rfl (.tmp 2) rfl _ rfl _ H2.out.fr.box ?_)
      refine HCR.out.mono ?_
      rintro e w3 ⟨r3, rfl, hr3, hf3, hb3⟩
      have x3 := H2.out.keep hb3
      have o3 := own_below HO2.out.1 hb3
      have a3 := HO2.out.2.frm HO2.out.1 hf3
      have f3 := H2.out.fr.frm.trans hf3 H2.out.fr.hi
      obtain ⟨w4, hw4⟩ : ∃ w4, w4 = w3.alloc (.cells (rA t r3 ky) 102) := ⟨_, rfl⟩
      have hb4 : Below w3.heap.size w3 w4 := by rw [hw4]; exact alloc_below _ _
      have x4 := x3.keep hb4
      have b81 : B81 w4 w3.heap.size (rA t r3 ky) := by rw [hw4]; exact b81_alloc w3 _ (rA_len _ _ _)
      have hne : w.heap.size ≠ w3.heap.size := by have := x3.fr.box.lt; omega
      have x5 := x4.setAll (hr3.kept hb4) f3
      obtain ⟨w5, hw5⟩ : ∃ w5, w5 = w4.setRow w.heap.size (sA t r3) := ⟨_, rfl⟩
      have o5 := owns_setRow (B := w.heap.size) (own_below o3 hb4) (by omega) (sA t r3)
      have c20 := row81 (b81.other hne (sA t r3))
      rw [← hw5] at x5 o5 c20
      obtain ⟨g6, c6, w6, hrun, o6, hg6, hn6⟩ := appU1 ky o5 x5.fr.hi (by have := HC.out.2.2.2.2.1; omega)
      have hvlt : ∀ g, u5.ownBlock = some g → w.heap.size + 2 ≤ g := fun g e => (o5.lt g e).1
      have x6 := x5.grown hg6 hvlt a3
      have aw6 : Aw (.slice (some ⟨g6, 0, none⟩) (q + 1) c6) r3 := fun g hg => by
        injection hg with hg
        have hg : g6 = g := hg
        subst hg
        rcases hn6 with h | h
        · exact a3 g6 h
        · exact ⟨fun a e => by have := x5.fr.rows.pg.lt a e; omega, fun a e => by have := x5.fr.rows.qu.lt a e; omega, fun a e => by have := x5.fr.rows.gh.lt a e; omega⟩
      have HB := Lib.hid x4.fr.box
      have HB81 := Lib.hid b81
      have HW := Lib.hid (And.intro hw4 hw5)
      have HR := Lib.hid hrun
      have H6 := Lib.hid (And.intro x6 (And.intro o6 aw6))
      clear hr3 hf3 hb3 x3 o3 a3 f3 hw4 hb4 x4 b81 x5 hw5 o5 hrun o6 hg6 hn6 hvlt x6 aw6 H2 HO2 HCR
      go_wp2_with (first | fail | (at_builtin; refine append_run rfl (.tmp 15) (.tmp 18) 26 rfl rfl rfl HR.out ?_) | (refine st81n rfl (.tmp 6) (.tmp 12) rfl t r3 ky rfl rfl _ rfl ?_; rw [← HW.out.1]) | refine ld81 rfl (.tmp 13) rfl _ rfl t r3 ky HB81.out ?_ | (refine st31 rfl (.tmp 2) (.tmp 14) rfl _ t r3 rfl rfl _ HB.out ?_; rw [← HW.out.2]))
      go_roundg (kps t.pg)
      case rel => exact ⟨t, r3, out ++ [ky], q + 1, Lib.hid H6.out.1, Lib.hid ⟨⟨HRC.out.w, HRC.out.r, HRC.out.cf.trans HC.out.1.2.2.1, Nat.le_trans HRC.out.n HC.out.1.2.2.2⟩, HE.out.1, HE.out.2, by have := HC.out.2.2.2.1; simp; omega, by have := HRC.out.k; have := HC.out.2.2.2.2.1; omega, rfl⟩, Lib.hid H6.out.2⟩
      case measure => rw [HC.out.2.2.2.2.2]; have := HRC.out.k; omega
    · have HE : Hid ((spillW most s).1 = cur ∧ (spillW most s).2 = out) := Lib.hid (by
        have := spillW_done (most := most) (s := cur) (by rw [← HNN.out]; exact hm)
        exact ⟨by rw [HC.out.2.1, this], by rw [HC.out.2.2.1, this]; simp⟩)
      obtain ⟨cs, hcs⟩ := H2.out.res
      have HCS := Lib.hid hcs
      have hd : decide (most < (nk : Int)) = false := decide_eq_false hm
      clear hcs
      obtain ⟨A, c, hA, hcap, hv, hfr⟩ := owns_vrow HO2.out.1
      have HV := Lib.hid (And.intro hcap (And.intro hv hfr))
      clear hcap hv hfr
      subst hA
      go_wp2_with (first | fail | refine ld31 rfl (.tmp 2) rfl _ rfl _ H2.out.fr.box ?_ | refine bld76 rfl (.tmp 20) (.tmp 21) rfl cur rr A q c rfl rfl ?_ | refine st76 rfl (.tmp 4) (.tmp 22) rfl _ cur rr A q c rfl rfl _ HCS.out ?_)
      refine bodyPost_ret (results_sp rfl _ _ _ _ rfl (HCS.out.rowSet rfl)) rfl ?_
      rw [HE.out.1, HE.out.2]
      have hq := HC.out.2.2.2.1
      have hne : ∀ a, A = some a → a.block ≠ w.heap.size + 1 := fun a e => by have := (HV.out.2.2 a e).1; omega
      refine ⟨rr, A, q, c, rfl, hq, sr_row H2.out.fr.rows H2.out.fr.frm H2.out.fr.old (Nat.le_succ _) (by omega) _, ⟨vrow_row HV.out.2.1 hne, fun a e => by rw [size_setRow]; exact (HV.out.2.2 a e).2, by have := HV.out.1; omega⟩, fun a e => by have := (HV.out.2.2 a e).1; omega, H2.out.fr.frm.weak (by omega), below_setRow H2.out.fr.bel (Nat.le_succ _)⟩
end Go.Proofs.Ytejcahkkpednfaa
