/-
  The document's vault: packed.
-/
import Derived.Test.YthpcjgfbngemiaaRefG
import Derived.Laws.ResultCell
namespace Go.Proofs.Ythpcjgfbngemiaa
open Go.ChangeShapes Go.WideShapes Go.ChangeAt Go.RowKit
set_option linter.unusedVariables false
set_option maxRecDepth 100000
/-! ### packing -/
/-- the document's packing: the blocks' new places, from e on, and how many bytes move -/
def nlR : List RB → Int → List RB
  | [], _ => []
  | b :: t, e => if 0 < b.2.2.size then (b.1, e, b.2.2) :: nlR t (e + b.2.2.size) else b :: nlR t e
def mvR : List RB → Int → Nat
  | [], _ => 0
  | b :: t, e => if 0 < b.2.2.size then (if b.2.1 = e then 0 else b.2.2.size) + mvR t (e + b.2.2.size) else mvR t e
theorem nlR_len : ∀ (l : List RB) (e : Int), (nlR l e).length = l.length
  | [], _ => rfl
  | b :: t, e => by
    rw [nlR]
    split
    · rw [List.length_cons, List.length_cons, nlR_len]
    · rw [List.length_cons, List.length_cons, nlR_len]
theorem rU_cons (b : RB) (t : List RB) : rU (b :: t) = b.2.2.size + rU t := by unfold rU; simp
theorem nlR_snoc : ∀ (l : List RB) (e : Int) (x : RB), nlR (l ++ [x]) e = nlR l e ++ [if 0 < x.2.2.size then (x.1, e + (rU l : Int), x.2.2) else x]
  | [], e, x => by
    rw [List.nil_append, nlR, nlR, List.nil_append]
    split
    · simp [nlR, rU]
    · simp [nlR]
  | b :: t, e, x => by
    rw [List.cons_append, nlR, nlR, rU_cons]
    split
    · rw [nlR_snoc, List.cons_append]; congr 3; split
      · congr 2; push_cast; omega
      · rfl
    · rename_i h
      rw [nlR_snoc, List.cons_append]; congr 3; split
      · congr 2; push_cast; omega
      · rfl
theorem mvR_snoc : ∀ (l : List RB) (e : Int) (x : RB), mvR (l ++ [x]) e = mvR l e + (if 0 < x.2.2.size then (if x.2.1 = e + (rU l : Int) then 0 else x.2.2.size) else 0)
  | [], e, x => by
    rw [List.nil_append, mvR, mvR]
    simp [mvR, rU]
  | b :: t, e, x => by
    rw [List.cons_append, mvR, mvR, rU_cons]
    have h1 : ∀ z : Int, (z + (b.2.2.size : Int) + (rU t : Int)) = z + ((b.2.2.size + rU t : Nat) : Int) := fun z => by push_cast; omega
    split
    · rw [mvR_snoc, h1]; omega
    · rename_i h
      rw [mvR_snoc]
      have : ((b.2.2.size + rU t : Nat) : Int) = (rU t : Int) := by omega
      rw [this]
theorem mvR_le : ∀ (l : List RB) (e : Int), mvR l e ≤ rU l
  | [], _ => by simp [mvR, rU]
  | b :: t, e => by
    rw [mvR, rU_cons]
    have h1 := mvR_le t e
    have h2 := mvR_le t (e + b.2.2.size)
    split
    · split <;> omega
    · omega
theorem foldl_rW_len : ∀ (t acc : List RB), (t.foldl rW acc).length = t.length + acc.length
  | [], acc => by simp
  | b :: t, acc => by
    rw [List.foldl_cons, foldl_rW_len]
    have : (rW acc b).length = acc.length + 1 := by
      unfold rW
      have := congrArg List.length (List.takeWhile_append_dropWhile (p := fun y => rA y b) (l := acc))
      rw [List.length_append] at this
      rw [List.length_append, List.length_cons]
      omega
    rw [this, List.length_cons]; omega
theorem owns_slr {w : World} {base n c : Nat} {A : Option Addr} {l : List RB} (ho : w.ownsRow base 63 3 (.slice A n c) n (rvals renc l)) : SlR w A n c l := by
  obtain ⟨hl, hr⟩ := owns_rrow ho
  refine ⟨hl, ?_⟩
  rcases ho.2 with ⟨e, h0⟩ | ⟨g, cap, cur, e, hg, hgb, hnc, _⟩
  · injection e with e1 e2 e3
    exact .inl ⟨e1, h0, e3⟩
  · injection e with e1 e2 e3
    subst e1
    subst e3
    refine .inr ⟨g, 0, rfl, hnc, fun i x hi => ?_⟩
    rcases hr with rfl | ⟨g', off, e4, hc⟩
    · simp at hi
    · injection e4 with e4
      injection e4 with e5 e6
      subst e5
      subst e6
      exact hc i x hi
/-- what holds while a vault is packed -/
structure PQ (w : World) (B base : Nat) (room pk mv : Int) (A : Option Addr) (n c : Nat) (D : Option Addr) (m c' : Nat) (acc : List RB) (W : World) : Prop where
  hb : W.heap[B]? = some (.cells #[.int .i64 room, .int .i64 pk, .int .i64 mv, .slice A n c] 30 (0, 0))
  hr : W.heap[B + 1]? = some (.cells #[.int .i64 0, .int .i64 0, .int .i64 0, .slice none 0 0] 30 (0, 0))
  row : W.ownsRow base 63 3 (.slice D m c') m (rvals renc acc)
  gr : w.grownBy W none
  sz : base ≤ W.heap.size
section
variable {w W W' : World} {B base : Nat} {room pk mv : Int} {A : Option Addr} {n c : Nat} {D : Option Addr} {m c' : Nat} {acc : List RB}
theorem own_same {W W' : World} {base n : Nat} {e : TypeId} {size : Nat} {v : Value} {xs : List Value} (h : W.ownsRow base e size v n xs) (hg : ∀ k, k < W.heap.size → base ≤ k → W'.heap[k]? = W.heap[k]?) : W'.ownsRow base e size v n xs :=
  owns_stay h fun k hk => hg k (h.lt k hk).2 (h.lt k hk).1
theorem PQ.grow (h : PQ w B base room pk mv A n c D m c' acc W) (hg : W.grownBy W' none) : PQ w B base room pk mv A n c D m c' acc W' :=
  ⟨kept2 h.hb hg, kept2 h.hr hg, own_same h.row fun k hk _ => hg.block k hk (by simp), grown_trans h.gr hg, Nat.le_trans h.sz hg.size⟩
theorem PQ.alloc (h : PQ w B base room pk mv A n c D m c' acc W) (o : Obj) : PQ w B base room pk mv A n c D m c' acc (W.alloc o) := h.grow (World.grownBy_alloc _ _ none)
theorem PQ.setNew (h : PQ w B base room pk mv A n c D m c' acc W) (o : Obj) (i : Nat) (v : Value) : PQ w B base room pk mv A n c D m c' acc ((W.alloc o).setCell ⟨W.heap.size, i, none⟩ v) :=
  h.grow (grown_new (World.grownBy_alloc W o none) (grown_setCell _ _ _ _) (Nat.le_refl _))
theorem PQ.setBox (h : PQ w B base room pk mv A n c D m c' acc W) (hB : w.heap.size ≤ B) (hbase : B + 2 ≤ base) (mv' : Int) : PQ w B base room pk mv' A n c D m c' acc (W.setCell ⟨B, 2, none⟩ (.int .i64 mv')) :=
  ⟨head_set h.hb 2 _, (heap_setCell_other _ _ _ _ (by simp)).trans h.hr, own_same h.row fun k hk hb => heap_setCell_other _ _ _ _ (by simp only; omega), grown_new h.gr (grown_setCell _ _ _ _) hB, by simpa using h.sz⟩
theorem PQ.setBoxNew (h : PQ w B base room pk mv A n c D m c' acc W) (hB : w.heap.size ≤ B) (hbase : B + 2 ≤ base) (mv' : Int) (o : Obj) (i : Nat) (v : Value) : PQ w B base room pk mv' A n c D m c' acc (((W.alloc o).setCell ⟨B, 2, none⟩ (.int .i64 mv')).setCell ⟨W.heap.size, i, none⟩ v) := by
  have h1 := h.alloc o
  have h2 := h1.setBox hB hbase mv'
  have hs := h.sz
  have hBW : B < W.heap.size := (Array.getElem?_eq_some_iff.1 h.hb).1
  refine ⟨(heap_setCell_other _ _ _ _ (by simp only; omega)).trans h2.hb, (heap_setCell_other _ _ _ _ (by simp only; have := (Array.getElem?_eq_some_iff.1 h.hr).1; omega)).trans h2.hr, ?_, grown_new h2.gr (grown_setCell _ _ _ _) (by have := h.gr.size; omega), by simpa using h1.sz⟩
  refine owns_stay h2.row fun k hk => heap_setCell_other _ _ _ _ ?_
  have := (h.row.lt k hk).2
  simp only
  omega
end
theorem PQ.next {w W W' : World} {B base : Nat} {room pk mv : Int} {A : Option Addr} {n c : Nat} {D D2 : Option Addr} {m c' m2 c2 : Nat} {acc acc2 : List RB} (h : PQ w B base room pk mv A n c D m c' acc W) (ho : W'.ownsRow W.heap.size 63 3 (.slice D2 m2 c2) m2 (rvals renc acc2)) (hg : W.grownBy W' none) : PQ w B base room pk mv A n c D2 m2 c2 acc2 W' :=
  ⟨kept2 h.hb hg, kept2 h.hr hg, owns_base ho h.sz, grown_trans h.gr hg, Nat.le_trans h.sz hg.size⟩
/-- the last stores -/
theorem PQ.fin4 {w W : World} {B base : Nat} {room pk mv : Int} {A : Option Addr} {n c : Nat} {D : Option Addr} {m c' : Nat} {acc : List RB} (h : PQ w B base room pk mv A n c D m c' acc W) (hB : w.heap.size ≤ B) (hbase : B + 2 ≤ base) (x y z t : Value) :
    ((((W.setCell ⟨B + 1, 0, none⟩ x).setCell ⟨B + 1, 1, none⟩ y).setCell ⟨B + 1, 2, none⟩ z).setCell ⟨B + 1, 3, none⟩ t).heap[B + 1]? = some (.cells #[x, y, z, t] 30 (0, 0)) ∧
    ((((W.setCell ⟨B + 1, 0, none⟩ x).setCell ⟨B + 1, 1, none⟩ y).setCell ⟨B + 1, 2, none⟩ z).setCell ⟨B + 1, 3, none⟩ t).ownsRow base 63 3 (.slice D m c') m (rvals renc acc) ∧
    w.grownBy ((((W.setCell ⟨B + 1, 0, none⟩ x).setCell ⟨B + 1, 1, none⟩ y).setCell ⟨B + 1, 2, none⟩ z).setCell ⟨B + 1, 3, none⟩ t) none :=
  ⟨head_set (head_set (head_set (head_set h.hr 0 _) 1 _) 2 _) 3 _, own_same h.row fun k hk hb => by
      rw [heap_setCell_other _ _ _ _ (by simp only; omega), heap_setCell_other _ _ _ _ (by simp only; omega), heap_setCell_other _ _ _ _ (by simp only; omega), heap_setCell_other _ _ _ _ (by simp only; omega)],
    grown_new (grown_new (grown_new (grown_new h.gr (grown_setCell _ _ _ _) (by omega)) (grown_setCell _ _ _ _) (by omega)) (grown_setCell _ _ _ _) (by omega)) (grown_setCell _ _ _ _) (by omega)⟩
theorem PQ.setRow {w W : World} {B base : Nat} {room pk mv : Int} {A A' : Option Addr} {n c n' c2 : Nat} {D : Option Addr} {m c' : Nat} {acc : List RB} (h : PQ w B base room pk mv A n c D m c' acc W) (hB : w.heap.size ≤ B) (hbase : B + 2 ≤ base) :
    PQ w B base room pk mv A' n' c2 D m c' acc (W.setCell ⟨B, 3, none⟩ (.slice A' n' c2)) :=
  ⟨head_set h.hb 3 _, (heap_setCell_other _ _ _ _ (by simp)).trans h.hr, own_same h.row fun k hk hb => heap_setCell_other _ _ _ _ (by simp only; omega), grown_new h.gr (grown_setCell _ _ _ _) hB, by simpa using h.sz⟩
theorem alloc44 (w : World) (x y z t x' y' z' t' : Value) (ty : TypeId) : w.grownBy ((w.alloc (.cells #[x, y, z, t] ty)).alloc (.cells #[x', y', z', t'] ty)) none ∧ ((w.alloc (.cells #[x, y, z, t] ty)).alloc (.cells #[x', y', z', t'] ty)).heap.size = w.heap.size + 2 ∧
    ((w.alloc (.cells #[x, y, z, t] ty)).alloc (.cells #[x', y', z', t'] ty)).heap[w.heap.size]? = some (.cells #[x, y, z, t] ty (0, 0)) ∧ ((w.alloc (.cells #[x, y, z, t] ty)).alloc (.cells #[x', y', z', t'] ty)).heap[w.heap.size + 1]? = some (.cells #[x', y', z', t'] ty (0, 0)) := by
  refine ⟨grown_trans (World.grownBy_alloc _ _ none) (World.grownBy_alloc _ _ none), by simp, (Below.heap_alloc _ _ _ (by simp)).trans (heap_alloc_new w _), ?_⟩
  have := heap_alloc_new (w.alloc (.cells #[x, y, z, t] ty)) (.cells #[x', y', z', t'] ty)
  rwa [World.size_alloc] at this
theorem cells4 {w : World} {B : Nat} {x y z u : Value} {t : TypeId} (h : w.heap[B]? = some (.cells #[x, y, z, u] t (0, 0))) : (w.cell? ⟨B, 0, none⟩ = some x ∧ w.cell? ⟨B, 1, none⟩ = some y ∧ w.cell? ⟨B, 2, none⟩ = some z ∧ w.cell? ⟨B, 3, none⟩ = some u) ∧
    (w.frozen? ⟨B, 0, none⟩ = false ∧ w.frozen? ⟨B, 1, none⟩ = false ∧ w.frozen? ⟨B, 2, none⟩ = false ∧ w.frozen? ⟨B, 3, none⟩ = false) ∧ B < w.heap.size :=
  ⟨⟨cell_of_head h 0, cell_of_head h 1, cell_of_head h 2, cell_of_head h 3⟩, ⟨frozen_of_head h 0, frozen_of_head h 1, frozen_of_head h 2, frozen_of_head h 3⟩, (Array.getElem?_eq_some_iff.1 h).1⟩
theorem results_ref4 {fn : Func} {p : Tmp} (h : fn.results = #[.cell p 30]) (tmps : Array Value) (w : World) (g : Nat) (t : TypeId) (fr : Nat × Nat) (x y z u : Value)
    (hp : tmps.getD p undef = .pointer (some ⟨g, 0, none⟩)) (hg : w.heap[g]? = some (.cells #[x, y, z, u] t fr)) : (results fn tmps).run Try.prog w = .ok (.agg #[x, y, z, u]) w := by
  have hp' : tmps[p]?.getD undef = .pointer (some ⟨g, 0, none⟩) := by simpa using hp
  simp only [results, h]
  simp [hp', asAddr, run_loadVar_row w g t 30 #[x, y, z, u] fr _ hg Try.underlying30 rfl (by kernel_rfl)]
set_option maxHeartbeats 1000000 in
theorem rpacked_at {w : World} {A : Option Addr} {l : List RB} {n c base : Nat} (ho : w.ownsRow base 63 3 (.slice A n c) n (rvals renc l)) (hsm : RSm l) (h1 : n ≤ 80000) (hu : rU l ≤ 10000000) (room packs moved : Int) (hp0 : 0 ≤ packs) (hp1 : packs ≤ 1000000000000) (hm0 : 0 ≤ moved) (hm1 : moved ≤ 1000000000000) :
    Calls Try.prog 27 #[refV room packs moved A n c] w fun r w' => ∃ A' c', r = .returned (refV room (packs + 1) (moved + (mvR l 0 : Int)) A' n c') ∧ w'.ownsRow w.heap.size 63 3 (.slice A' n c') n (rvals renc ((nlR l 0).foldl rW [])) ∧ w.grownBy w' none := by
  have HR := Lib.hid (owns_rrow ho).2
  have HN := Lib.hid (And.intro (owns_rrow ho).1 (And.intro hsm hu))
  clear ho hsm hu
  unfold refV
  go_enter Try.func27, Try.ntmps27
  go_wp2_with fail
  obtain ⟨hgB, hzB, hb0, hb1⟩ := alloc44 w (.int .i64 room) (.int .i64 (packs + 1)) (.int .i64 moved) (.slice A n c) (.int .i64 0) (.int .i64 0) (.int .i64 0) (.slice none 0 0) 30
  obtain ⟨B, hB⟩ : ∃ B, w.heap.size = B := ⟨_, rfl⟩
  rw [hB] at hb0 hb1 ⊢
  generalize (w.alloc (.cells #[.int .i64 room, .int .i64 (packs + 1), .int .i64 moved, .slice A n c] 30)).alloc (.cells #[.int .i64 0, .int .i64 0, .int .i64 0, .slice none 0 0] 30) = wB at *
  have hP0 : PQ w B (B + 2) room (packs + 1) moved A n c none 0 0 [] wB :=
    ⟨hb0, hb1, World.ownsRow_nil _ _ _ _, hgB, by rw [hzB, hB]; exact Nat.le_refl _⟩
  have HP0 := Lib.hid hP0
  have HB := Lib.hid hB
  clear hP0 hgB hzB hb0 hb1 hB
  go_loopw [3, 4, 5] (fun e v i wr => ∃ (k q mk : Nat) (D : Option Addr) (m c' : Nat), k ≤ n ∧ q ≤ 10000000 ∧ mk ≤ 10000000 ∧ e = .int .i64 (q : Int) ∧ i = .int .i64 (k : Int) ∧ v = .slice D m c' ∧ Hid (m = k ∧ q = rU (l.take k) ∧ mk = mvR (l.take k) 0 ∧ PQ w B (B + 2) room (packs + 1) (moved + (mk : Int)) A n c D m c' ((nlR (l.take k) 0).foldl rW []) wr)) (fun _ _ i _ => n - (intOf i).toNat)
  case atStart => exact ⟨0, 0, 0, none, 0, 0, by omega, by omega, by omega, by go_num, by go_num, rfl, Lib.hid ⟨rfl, by simp [rU], by simp [mvR], by have := HP0.out; simpa [nlR] using this⟩⟩
  case round =>
    obtain ⟨k, q, mk, D, m, c', hk, hq, hmk, rfl, rfl, rfl, HK⟩ := hrel
    obtain ⟨⟨z0, z1, z2, z3⟩, ⟨f0, f1, f2, f3⟩, hBl⟩ := cells4 HK.out.2.2.2.hb
    by_cases hlt : k < n
    · obtain ⟨x, HX⟩ : ∃ x, Hid (l[k]? = some x) := ⟨_, Lib.hid (List.getElem?_eq_getElem (by rw [HN.out.1]; exact hlt))⟩
      obtain ⟨g, off, rfl, c0, c1, c2⟩ := (HR.out.kept HK.out.2.2.2.gr).some HX.out
      obtain ⟨x1, xa, xs⟩ := x
      dsimp only at c0 c1 c2
      have hxs := HN.out.2.1 _ (List.mem_of_getElem? HX.out)
      dsimp only at hxs
      obtain ⟨b1, b2, b3⟩ := hxs
      have hmk1 : m ≤ 80000 := by have := HK.out.1; omega
      have hq2 : q + xs.size ≤ 10000000 := by
        have h1 := rU_take HX.out
        have h2 := rU_le l (k + 1)
        have h3 := HK.out.2.1
        have h4 := HN.out.2.2
        dsimp only at h1
        omega
      have hm2 : mk + xs.size ≤ 10000000 := by
        have h1 := rU_take HX.out
        have h2 := rU_le l (k + 1)
        have h3 := HK.out.2.2.1
        have h4 := HN.out.2.2
        have h5 := mvR_le (l.take k) 0
        dsimp only at h1
        omega
      have H28 : Hid (∀ (W : World) (y1 ya : Int) (ys : ByteArray) (mv : Int), PQ w B (B + 2) room (packs + 1) mv (some ⟨g, off, none⟩) n c D m c' ((nlR (l.take k) 0).foldl rW []) W → Calls Try.prog 28 #[.slice D m c', .agg #[.int .i64 y1, .int .i64 ya, .string ys]] W (WithPost W m ((nlR (l.take k) 0).foldl rW []) (y1, ya, ys))) :=
        Lib.hid (fun W y1 ya ys mv hW => rwith_at (owns_slr hW.row) (by omega) y1 ya ys)
      have HTK : Hid (l.take (k + 1) = l.take k ++ [(x1, xa, xs)]) := Lib.hid (by rw [List.take_add_one, HX.out]; rfl)
      by_cases hs : 0 < xs.size
      · have HFOLD : Hid ((nlR (l.take (k + 1)) 0).foldl rW [] = rW ((nlR (l.take k) 0).foldl rW []) (x1, (q : Int), xs)) := Lib.hid (by rw [HTK.out, nlR_snoc, List.foldl_append, if_pos hs, HK.out.2.1]; simp)
        have HU : Hid (q + xs.size = rU (l.take (k + 1))) := Lib.hid (by rw [rU_take HX.out, HK.out.2.1])
        by_cases he : xa = (q : Int)
        · have HM : Hid (mk = mvR (l.take (k + 1)) 0) := Lib.hid (by rw [HTK.out, mvR_snoc, if_pos hs, if_pos (by rw [Int.zero_add]; rw [← HK.out.2.1]; exact he), HK.out.2.2.1]; rfl)
          subst he
          go_wp2_with fail
          have HPW := Lib.hid (HK.out.2.2.2.alloc (.cells #[.int .i64 x1, .int .i64 (q : Int), .string xs] 63))
          clear z0 z1 z2 z3 f0 f1 f2 f3 c0 c1 c2 hBl
          refine (H28.out _ _ _ _ _ HPW.out).mono ?_
          rintro e w3 ⟨D3, c3, N3, hN3, rfl, ho3, hg3⟩
          have HP3 := Lib.hid (HPW.out.next ho3 hg3)
          have HN3 := Lib.hid hN3
          clear hN3 ho3 hg3
          go_wp2
          go_round
          case rel => exact ⟨k + 1, q + xs.size, mk, D3, N3, c3, by omega, by omega, by omega, by first | rfl | go_num, by go_num, rfl, Lib.hid ⟨by rw [HN3.out, HK.out.1], HU.out, HM.out, by rw [HFOLD.out]; have := HP3.out; first | exact this | (push_cast; rw [← Int.add_assoc]; exact this)⟩⟩
          case measure => simp only [intOf]; omega
        · have HM : Hid (mk + xs.size = mvR (l.take (k + 1)) 0) := Lib.hid (by rw [HTK.out, mvR_snoc, if_pos hs, if_neg (by rw [Int.zero_add]; rw [← HK.out.2.1]; exact he), HK.out.2.2.1])
          have hne : (xa == (q : Int)) = false := by simpa using he
          clear he
          go_wp2_with fail
          have HPW := Lib.hid ((HK.out.2.2.2.setBox (Nat.le_of_eq HB.out) (Nat.le_refl _) (moved + (mk : Int) + (xs.size : Int))).alloc (.cells #[.int .i64 x1, .int .i64 (q : Int), .string xs] 63))
          clear z0 z1 z2 z3 f0 f1 f2 f3 c0 c1 c2 hBl
          refine (H28.out _ _ _ _ _ HPW.out).mono ?_
          rintro e w3 ⟨D3, c3, N3, hN3, rfl, ho3, hg3⟩
          have HP3 := Lib.hid (HPW.out.next ho3 hg3)
          have HN3 := Lib.hid hN3
          clear hN3 ho3 hg3
          go_wp2
          go_round
          case rel => exact ⟨k + 1, q + xs.size, mk + xs.size, D3, N3, c3, by omega, by omega, by omega, by first | rfl | go_num, by go_num, rfl, Lib.hid ⟨by rw [HN3.out, HK.out.1], HU.out, HM.out, by rw [HFOLD.out]; have := HP3.out; first | exact this | (push_cast; rw [← Int.add_assoc]; exact this)⟩⟩
          case measure => simp only [intOf]; omega
      · have HFOLD : Hid ((nlR (l.take (k + 1)) 0).foldl rW [] = rW ((nlR (l.take k) 0).foldl rW []) (x1, xa, xs)) := Lib.hid (by rw [HTK.out, nlR_snoc, List.foldl_append, if_neg hs]; rfl)
        have HU : Hid (q = rU (l.take (k + 1))) := Lib.hid (by rw [rU_take HX.out, HK.out.2.1]; dsimp only; omega)
        have HM : Hid (mk = mvR (l.take (k + 1)) 0) := Lib.hid (by rw [HTK.out, mvR_snoc, if_neg hs, HK.out.2.2.1]; rfl)
        go_wp2_with fail
        have HPW := Lib.hid (HK.out.2.2.2.alloc (.cells #[.int .i64 x1, .int .i64 xa, .string xs] 63))
        clear z0 z1 z2 z3 f0 f1 f2 f3 c0 c1 c2 hBl
        refine (H28.out _ _ _ _ _ HPW.out).mono ?_
        rintro e w3 ⟨D3, c3, N3, hN3, rfl, ho3, hg3⟩
        have HP3 := Lib.hid (HPW.out.next ho3 hg3)
        have HN3 := Lib.hid hN3
        clear hN3 ho3 hg3
        go_wp2
        go_round
        case rel => exact ⟨k + 1, q, mk, D3, N3, c3, by omega, by omega, by omega, by first | rfl | go_num, by go_num, rfl, Lib.hid ⟨by rw [HN3.out, HK.out.1], HU.out, HM.out, by rw [HFOLD.out]; have := HP3.out; first | exact this | (push_cast; rw [← Int.add_assoc]; exact this)⟩⟩
        case measure => simp only [intOf]; omega
    · have e : l.take k = l := by rw [List.take_of_length_le]; have := HN.out.1; omega
      have HF := HK.out
      rw [e] at HF
      have HF2 := Lib.hid HF
      obtain ⟨⟨r0, r1, r2, r3⟩, ⟨d0, d1, d2, d3⟩, hBl2⟩ := cells4 HK.out.2.2.2.hr
      have hmn : Hid (m = n) := Lib.hid (by have := HK.out.1; omega)
      clear HF e HP0
      go_wp2
      obtain ⟨hhd, hrow, hgr⟩ := (HF2.out.2.2.2.setRow (A' := D) (n' := m) (c2 := c') (Nat.le_of_eq HB.out) (Nat.le_refl _)).fin4 (Nat.le_of_eq HB.out) (Nat.le_refl _) (.int .i64 room) (.int .i64 (packs + 1)) (.int .i64 (moved + (mk : Int))) (.slice D m c')
      refine bodyPost_ret (results_ref4 rfl _ _ _ _ _ _ _ _ _ rfl hhd) rfl ?_
      have hmn2 := hmn.out
      subst hmn2
      refine ⟨D, c', ?_, owns_base hrow (by have := HB.out; omega), hgr⟩
      rw [HF2.out.2.2.1]
end Go.Proofs.Ythpcjgfbngemiaa
