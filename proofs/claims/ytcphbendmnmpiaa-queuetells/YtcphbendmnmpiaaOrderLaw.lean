/-
  The walk of the law that what came first goes first.
-/
import Derived.Test.YtcphbendmnmpiaaGrow
namespace Go.Proofs.Ytcphbendmnmpiaa
open Go.ChangeShapes Go.WideShapes Go.ChangeAt Go.RowKit
set_option linter.unusedVariables false
set_option maxRecDepth 100000

/-- a Push, a Pop of numbers -/
def pushI (m : Nat) (st : List Int) (a : Int) : Int × Bool × List Int := if st.length = m then (st.head?.getD 0, true, st.tail ++ [a]) else (0, false, st ++ [a])
def popI (st : List Int) : Int × Bool × List Int := match st with
  | [] => (0, false, [])
  | v :: t => (v, true, t)
theorem pushed_ivals (m : Nat) (st : List Int) (a : Int) : pushed z0 m (ivals st) (.int .i64 a) = (.int .i64 (pushI m st a).1, (pushI m st a).2.1, ivals (pushI m st a).2.2) := by
  unfold pushed pushI
  rw [ivals_length]
  split
  · cases st <;> simp [ivals]
  · simp [ivals]
theorem popped_ivals (st : List Int) : popped z0 (ivals st) = (.int .i64 (popI st).1, (popI st).2.1, ivals (popI st).2.2) := by
  cases st <;> rfl
/-- a queue, and a row that is apart from it -/
structure OI (w wr : World) (b : Nat) (og : Option Nat) (m tot : Nat) (gone st : List Int) (vg : Value) : Prop where
  q : IsQ wr w.heap.size b og (ivals st) m tot
  row : ORow w.heap.size wr vg gone
  apart : ∀ k, vg.ownBlock = some k → ¬ own b og k
  grown : w.grownBy wr none
section
variable {w wr w2 : World} {b : Nat} {og og' : Option Nat} {m tot tot' : Nat} {gone st st' : List Int} {vg : Value}
theorem OI.step (h : OI w wr b og m tot gone st vg) (h' : IsQ w2 w.heap.size b og' (ivals st') m tot') (s : Stp b og og' wr w2) : OI w w2 b og' m tot' gone st' vg :=
  ⟨h', h.row.stay fun k hk => s.but.block k (h.row.lt hk).2 (h.apart k hk), fun k hk hn => (s.new k hn).elim (h.apart k hk) (fun h2 => by have := (h.row.lt hk).2; omega), s.grown h.grown fun k hk => (h.q.own_lo hk).1⟩
theorem OI.kept (h : OI w wr b og m tot gone st vg) (hg : wr.grownBy w2 none) : OI w w2 b og m tot gone st vg :=
  ⟨h.q.kept hg, h.row.kept hg, h.apart, grown_trans h.grown hg⟩
/-- the row alone turns -/
theorem OI.turn (h : OI w wr b og m tot gone st vg) {v' : Value} {gone' : List Int} (hg : wr.grownBy w2 vg.ownBlock) (hr : ORow w.heap.size w2 v' gone') (hf : v'.ownBlock = vg.ownBlock ∨ ∀ k, v'.ownBlock = some k → wr.heap.size ≤ k) : OI w w2 b og m tot gone' st v' := by
  refine ⟨h.q.stay fun k hk ho => hg.block k hk (fun e => h.apart k e.symm ho), hr, fun k hk ho => ?_, ?_⟩
  · rcases hf with hf | hf
    · rw [hf] at hk; exact h.apart k hk ho
    · have := hf k hk; have := (h.q.own_lo ho).2; omega
  · exact ⟨hg.os.trans h.grown.os, hg.tape.trans h.grown.tape, hg.output.trans h.grown.output, Nat.le_trans h.grown.size hg.size, fun k hk _ => (hg.block k (Nat.lt_of_lt_of_le hk h.grown.size) (fun e => by have := (h.row.lt e.symm).1; omega)).trans (h.grown.block k hk (by simp))⟩
theorem OI.push (h : OI w wr b og m tot gone st vg) (a : Int) (ht : tot ≤ 1000000000) :
    Calls Try.prog 11 #[.pointer (some ⟨b, 0, none⟩), .int .i64 a] wr fun e w2 => e = .returned (.tuple #[.int .i64 (pushI m st a).1, .bool (pushI m st a).2.1]) ∧ ∃ og', OI w w2 b og' m (tot + 1) gone (pushI m st a).2.2 vg := by
  have := push_is h.q h.grown.size a ht
  rw [pushed_ivals] at this
  refine this.mono ?_
  rintro e w2 ⟨he, og', h', s⟩
  exact ⟨he, og', h.step h' s⟩
theorem OI.pop (h : OI w wr b og m tot gone st vg) :
    Calls Try.prog 10 #[.pointer (some ⟨b, 0, none⟩)] wr fun e w2 => e = .returned (.tuple #[.int .i64 (popI st).1, .bool (popI st).2.1]) ∧ ∃ og', OI w w2 b og' m tot gone (popI st).2.2 vg := by
  have := pop_is h.q
  rw [popped_ivals] at this
  refine this.mono ?_
  rintro e w2 ⟨he, og', h', s⟩
  exact ⟨he, og', h.step h' s⟩
/-- one more goes to the row -/
theorem OI.app {A : Option Addr} {n cap : Nat} (h : OI w wr b og m tot gone st (.slice A n cap)) (hn : gone.length = n) (hn6 : n ≤ 100000) (x : Int) (ty : TypeId) :
    ∃ A' cap' w2, (Builtin.append_ #[22, 22] ty #[.slice A n cap, .slice (some ⟨wr.heap.size, 0, none⟩) 1 1]).run Try.prog (wr.alloc (.cells #[.int .i64 x] 2)) = .ok (.slice A' (n + 1) cap') w2 ∧ OI w w2 b og m tot (gone ++ [x]) st (.slice A' (n + 1) cap') := by
  subst hn
  have h1 := h.kept (World.grownBy_alloc wr (.cells #[.int .i64 x] 2) none)
  obtain ⟨A', cap', w2, hrun, ho, hg, hf⟩ := h1.row.append h1.grown.size (a := ⟨wr.heap.size, 0, none⟩) (m := 1) (c := 1) (ys := [x]) rfl (cell_new1 wr 2 _) (by omega) ty
  exact ⟨A', cap', w2, hrun, h1.turn hg ho hf⟩
end
/-- all that a queue tells -/
theorem told_all {w : World} {lo b : Nat} {og : Option Nat} {st : List Int} {m tot : Nat} (h : IsQ w lo b og (ivals st) m tot) {most : Nat} (h1 : st.length ≤ most) (h2 : most ≤ 1000000) :
    Calls Try.prog 13 #[.pointer (some ⟨b, 0, none⟩), .int .i64 (most : Int)] w fun e w' => ∃ v, e = .returned (.tuple #[v, .bool true]) ∧ ORow w.heap.size w' v st ∧ w.grownBy w' none := by
  have hf := h.few
  rw [ivals_length] at hf
  refine (told_at w (some ⟨b, 0, none⟩) most st h2 (by omega) (tells_is h)).mono ?_
  rintro e w' ⟨v, he, hr, hg⟩
  rw [List.take_of_length_le h1] at hr
  exact ⟨v, he, ORow.of_owns hr, hg⟩
theorem append_none {lo : Nat} {w : World} {v : Value} {xs : List Int} (h : ORow lo w v xs) (ty : TypeId) : (Builtin.append_ #[22, 22] ty #[v, .slice none 0 0]).run Try.prog w = .ok v w := by
  obtain ⟨i0, hi, hz0, hz1, hz2⟩ := info_parts info2
  have hl : ∀ (x : Addr), (loadCells x 0).run Try.prog w = .ok #[] w := fun x => by simpa using run_loadCells_list (P := Try.prog) w x [] (by simp)
  rcases h with ⟨rfl, rfl⟩ | ⟨g, off, cap, cur, rfl, hl, hg, h1, h2, h3, h4⟩
  · simp [Builtin.append_, run_underlying Try.underlying22, sizeOf, typeInfo, hi, Builtin.lenOf, Builtin.firstCells]
  · simp [Builtin.append_, run_underlying Try.underlying22, sizeOf, typeInfo, hi, Builtin.lenOf, Builtin.firstCells, storeCells, h1]
/-- a row goes to the row -/
theorem OI.app_row {w wr : World} {b : Nat} {og : Option Nat} {m tot : Nat} {gone st ys : List Int} {A B : Option Addr} {n cap k c lo : Nat} (h : OI w wr b og m tot gone st (.slice A n cap)) (hn : gone.length = n) (hy : ORow lo wr (.slice B k c) ys) (hk : ys.length = k) (h6 : n + k ≤ 1000000) (ty : TypeId) :
    ∃ A' cap' w2, (Builtin.append_ #[22, 22] ty #[.slice A n cap, .slice B k c]).run Try.prog wr = .ok (.slice A' (n + k) cap') w2 ∧ OI w w2 b og m tot (gone ++ ys) st (.slice A' (n + k) cap') := by
  subst hn hk
  have hir := hy.irow
  rcases hy with ⟨e, rfl⟩ | ⟨g, off, cap', cur, e, hl, hg, h1, h2, h3, h4⟩
  · injection e with e1 e2 e3
    subst e1 e3
    refine ⟨A, cap, wr, by simpa using append_none h.row ty, by simpa using h⟩
  · injection e with e1 e2 e3
    subst e1
    obtain ⟨A', cap2, w2, hrun, ho, hg2, hf⟩ := h.row.append h.grown.size (a := ⟨g, off, none⟩) (m := ys.length) (c := c) (ys := ys) rfl (fun j u hu => by
      unfold ivals at hu
      rw [List.getElem?_map] at hu
      obtain ⟨x, hx, rfl⟩ := Option.map_eq_some_iff.1 hu
      rw [Addr.add_mid, cell_of_head hg]
      exact h4 j x hx) h6 ty
    exact ⟨A', cap2, w2, hrun, h.turn hg2 ho hf⟩
theorem push_order {m : Nat} {gone st l : List Int} {k : Nat} {a : Int} (hm : 1 ≤ m) (h : gone ++ st = l.take k) (ha : l[k]? = some a) (hf : st.length ≤ m) :
    ((pushI m st a).2.1 = true → (gone ++ [(pushI m st a).1]) ++ (pushI m st a).2.2 = l.take (k + 1)) ∧ ((pushI m st a).2.1 = false → gone ++ (pushI m st a).2.2 = l.take (k + 1)) ∧ (pushI m st a).2.2.length ≤ m := by
  unfold pushI
  rw [take_snoc ha, ← h]
  split
  · rename_i hl
    cases st with
    | nil => simp at hl; omega
    | cons v t => simp at hl ⊢; omega
  · simp; omega
theorem pop_order {gone st : List Int} : ((popI st).2.1 = true → (gone ++ [(popI st).1]) ++ (popI st).2.2 = gone ++ st) ∧ ((popI st).2.1 = false → (popI st).2.2 = st) := by
  cases st <;> simp [popI]

set_option maxHeartbeats 1000000 in
theorem order_walk (A : Option Addr) (cap mo po : Nat) (l : List Int) (w : World) (hl : IRow w A l) (hlen : l.length ≤ 200) (hmo : mo < 256) (hpo : po < 256) :
    Calls Try.prog 4 #[.int .u8 (mo : Int), .slice A l.length cap, .int .u8 (po : Int)] w fun e w' => e = .returned (.bool true) ∧ w.grownBy w' none := by
  have hwm : IntKind.i64.wrap (mo : Int) = (mo : Int) := by rw [IntKind.wrap_i64]; omega
  have hwp : IntKind.i64.wrap (po : Int) = (po : Int) := by rw [IntKind.wrap_i64]; omega
  have c0 := new_at (1 + mo) (by omega) (by omega) w
  rw [show ((1 + mo : Nat) : Int) = 1 + (mo : Int) by omega] at c0
  have C0 := Lib.hid c0
  have HL := Lib.hid hl
  obtain ⟨len, Hlen⟩ : ∃ len, Hid (l.length = len) := ⟨_, Lib.hid rfl⟩
  rw [Hlen.out] at hlen ⊢
  obtain ⟨m, Hm⟩ : ∃ m, Hid (1 + mo = m) := ⟨_, Lib.hid rfl⟩
  rw [Hm.out] at C0
  clear c0 hl
  go_enter Try.func4, Try.ntmps4
  go_wp2_with fail
  refine C0.out.mono ?_
  rintro e w1 ⟨rfl, hg, h⟩
  have HO : Hid (OI w w1 w.heap.size none m 0 [] [] (.slice none 0 0)) := Lib.hid ⟨h, orow_nil _ _, fun k hk => (by cases hk), hg⟩
  clear hg h C0
  go_wp2_with fail
  go_loopw [9, 38] (fun gv iv wr => ∃ (k : Nat) (og : Option Nat) (gone st : List Int) (Ag : Option Addr) (n cg : Nat), k ≤ len ∧ iv = .int .i64 (k : Int) ∧ gv = .slice Ag n cg ∧ Hid (gone.length = n) ∧ Hid (OI w wr w.heap.size og m k gone st (.slice Ag n cg)) ∧ Hid (gone ++ st = l.take k) ∧ Hid (st.length ≤ m)) (fun _ iv _ => len - (intOf iv).toNat)
  case atStart => exact ⟨0, none, [], [], none, 0, 0, Nat.zero_le _, by go_num, rfl, Lib.hid rfl, HO, Lib.hid (by simp), Lib.hid (Nat.zero_le _)⟩
  case round =>
    obtain ⟨k, og, gone, st, Ag, n, cg, hk, rfl, rfl, HN, HI, HT, HS⟩ := hrel
    clear HO
    have HNk : Hid (n ≤ k) := Lib.hid (by have := congrArg List.length HT.out; rw [List.length_append, List.length_take, HN.out] at this; omega)
    by_cases hlt : k < len
    · obtain ⟨a, Ha⟩ : ∃ a, Hid (l[k]? = some a) := ⟨_, Lib.hid (List.getElem?_eq_getElem (by rw [Hlen.out]; exact hlt))⟩
      obtain ⟨bl, ol, rfl, hcell⟩ := (HL.out.kept HI.out.grown).at Ha.out
      have HP := Lib.hid (HI.out.push a (by omega))
      have HPO := Lib.hid (push_order (by rw [← Hm.out]; omega) HT.out Ha.out HS.out)
      obtain ⟨pr, hpr⟩ : ∃ pr, pushI m st a = pr := ⟨_, rfl⟩
      rw [hpr] at HP HPO
      clear hpr
      obtain ⟨x, bb, st'⟩ := pr
      dsimp only at HP HPO
      cases bb with
      | true =>
        go_wp2_with fail
        refine HP.out.mono ?_
        rintro e w2 ⟨rfl, og2, h2⟩
        obtain ⟨A3, c3, w3, hrun, h3⟩ := h2.app HN.out (by have := HNk.out; omega) x 22
        have HR := Lib.hid hrun
        have HI3 : Hid (OI w w3 w.heap.size og2 m (k + 1) (gone ++ [x]) st' (.slice A3 (n + 1) c3)) := Lib.hid h3
        have HN3 : Hid ((gone ++ [x]).length = n + 1) := Lib.hid (by rw [List.length_append, HN.out]; rfl)
        have HT3 := Lib.hid (HPO.out.1 trivial)
        have HS3 := Lib.hid HPO.out.2.2
        clear hrun h2 h3 hcell
        go_wp2_with (at_builtin; refine append_run rfl (.tmp 49) (.tmp 51) 22 rfl rfl rfl HR.out ?_)
        go_roundw
        case rel => exact ⟨k + 1, og2, gone ++ [x], st', A3, n + 1, c3, by omega, by go_num, rfl, HN3, HI3, HT3, HS3⟩
        case measure => simp [intOf]; omega
      | false =>
        go_wp2_with fail
        refine HP.out.mono ?_
        rintro e w2 ⟨rfl, og2, h2⟩
        have HI3 := Lib.hid h2
        have HT3 := Lib.hid (HPO.out.2.1 trivial)
        have HS3 := Lib.hid HPO.out.2.2
        clear h2 hcell
        go_wp2
        go_roundw
        case rel => exact ⟨k + 1, og2, gone, st', Ag, n, cg, by omega, by go_num, rfl, HN, HI3, HT3, HS3⟩
        case measure => simp [intOf]; omega
    · obtain rfl : k = len := by omega
      have HT0 : Hid (gone ++ st = l) := Lib.hid (by have := HT.out; rwa [List.take_of_length_le (by rw [Hlen.out]; exact Nat.le_refl _)] at this)
      clear HT
      go_wp2_with fail
      have HGL : Hid (gone.length + st.length = k) := Lib.hid (by have := congrArg List.length HT0.out; rw [List.length_append, Hlen.out] at this; exact this)
      go_loopw [9, 14] (fun gv iv wr => ∃ (j : Nat) (og : Option Nat) (gone st : List Int) (Ag : Option Addr) (n cg : Nat), j ≤ po ∧ iv = .int .i64 (j : Int) ∧ gv = .slice Ag n cg ∧ Hid (gone.length = n) ∧ Hid (OI w wr w.heap.size og m k gone st (.slice Ag n cg)) ∧ Hid (gone ++ st = l)) (fun _ iv _ => po - (intOf iv).toNat)
      case atStart => exact ⟨0, og, gone, st, Ag, n, cg, Nat.zero_le _, by go_num, rfl, HN, HI, HT0⟩
      case round =>
        obtain ⟨j, og, gone, st, Ag, n, cg, hj, rfl, rfl, HN, HI, HT⟩ := hrel
        clear HGL HT0 HNk
        have HNk : Hid (n ≤ k) := Lib.hid (by have := congrArg List.length HT.out; rw [List.length_append, Hlen.out, HN.out] at this; omega)
        by_cases hlt2 : j < po
        · have HP := Lib.hid HI.out.pop
          have HPO := Lib.hid (pop_order (gone := gone) (st := st))
          obtain ⟨pr, hpr⟩ : ∃ pr, popI st = pr := ⟨_, rfl⟩
          rw [hpr] at HP HPO
          clear hpr
          obtain ⟨x, bb, st'⟩ := pr
          dsimp only at HP HPO
          cases bb with
          | true =>
            go_wp2_with fail
            refine HP.out.mono ?_
            rintro e w2 ⟨rfl, og2, h2⟩
            obtain ⟨A3, c3, w3, hrun, h3⟩ := h2.app HN.out (by have := HNk.out; omega) x 22
            have HR := Lib.hid hrun
            have HI3 : Hid (OI w w3 w.heap.size og2 m k (gone ++ [x]) st' (.slice A3 (n + 1) c3)) := Lib.hid h3
            have HN3 : Hid ((gone ++ [x]).length = n + 1) := Lib.hid (by rw [List.length_append, HN.out]; rfl)
            have HT3 : Hid ((gone ++ [x]) ++ st' = l) := Lib.hid ((HPO.out.1 trivial).trans HT.out)
            clear hrun h2 h3
            go_wp2_with (at_builtin; refine append_run rfl (.tmp 66) (.tmp 68) 22 rfl rfl rfl HR.out ?_)
            go_roundw
            case rel => exact ⟨j + 1, og2, gone ++ [x], st', A3, n + 1, c3, by omega, by go_num, rfl, HN3, HI3, HT3⟩
            case measure => simp [intOf]; omega
          | false =>
            go_wp2_with fail
            refine HP.out.mono ?_
            rintro e w2 ⟨rfl, og2, h2⟩
            have HI3 := Lib.hid h2
            have HT3 : Hid (gone ++ st' = l) := Lib.hid (by rw [HPO.out.2 trivial]; exact HT.out)
            clear h2
            go_wp2
            go_roundw
            case rel => exact ⟨j + 1, og2, gone, st', Ag, n, cg, by omega, by go_num, rfl, HN, HI3, HT3⟩
            case measure => simp [intOf]; omega
        · have HLs : Hid (st.length ≤ 200) := Lib.hid (by have := congrArg List.length HT.out; rw [List.length_append, Hlen.out] at this; omega)
          have HTD := Lib.hid (told_all HI.out.q (most := 1000) (by have := HLs.out; omega) (by decide))
          obtain rfl : j = po := by omega
          go_wp2_with fail
          refine HTD.out.mono ?_
          rintro e w2 ⟨v5, rfl, hr5, hg5⟩
          have hI5 := HI.out.kept hg5
          obtain ⟨A5, c5, rfl⟩ := hr5.slice
          obtain ⟨n5, Hn5⟩ : ∃ n5, Hid (st.length = n5) := ⟨_, Lib.hid rfl⟩
          rw [Hn5.out] at hr5 ⊢
          have hnn : n + n5 = k := by have := congrArg List.length HT.out; rw [List.length_append, HN.out, Hn5.out, Hlen.out] at this; exact this
          obtain ⟨A6, c6, w3, hrun, h6⟩ := hI5.app_row HN.out hr5 Hn5.out (by omega) 22
          rw [HT.out] at h6
          rw [hnn] at hrun h6
          have HR := Lib.hid hrun
          have HG6 := Lib.hid h6.grown
          have HSm := Lib.hid (same_is A6 A c6 cap l l w3 h6.row.irow (HL.out.kept h6.grown) (by rw [Hlen.out]; omega) (by rw [Hlen.out]; omega))
          rw [Hlen.out, show decide (l = l) = true from decide_eq_true rfl] at HSm
          clear hrun h6 hr5 hg5 hI5 hnn HTD
          go_wp2_with (at_builtin; refine append_run rfl (.tmp 75) (.tmp 76) 22 rfl rfl rfl HR.out ?_)
          refine HSm.out.mono ?_
          rintro e w4 ⟨rfl, q, rfl⟩
          have HG7 := Lib.hid (grown_trans HG6.out (grown_drewN w3 q none))
          generalize w3.drewN q = w4 at *
          go_wp2_with fail
          refine (alive_any w4).mono ?_
          rintro e w5 ⟨rfl, hg⟩
          have HG8 := Lib.hid (grown_trans HG7.out hg)
          clear hg HG7
          go_wp2_with fail
          go_ret
          exact ⟨rfl, HG8.out⟩
theorem order_long (A : Option Addr) (n cap mo po : Nat) (w : World) (hlen : 200 < n) (hmo : mo < 256) :
    Calls Try.prog 4 #[.int .u8 (mo : Int), .slice A n cap, .int .u8 (po : Int)] w fun e w' => e = .returned (.bool true) ∧ w.grownBy w' none := by
  have hwm : IntKind.i64.wrap (mo : Int) = (mo : Int) := by rw [IntKind.wrap_i64]; omega
  have c0 := new_at (1 + mo) (by omega) (by omega) w
  rw [show ((1 + mo : Nat) : Int) = 1 + (mo : Int) by omega] at c0
  have C0 := Lib.hid c0
  have hd : (200 : Int) < (n : Int) := by omega
  clear c0
  go_enter Try.func4, Try.ntmps4
  go_wp2_with fail
  refine C0.out.mono ?_
  rintro e w1 ⟨rfl, hg, h⟩
  have HG := Lib.hid hg
  clear hg h C0
  go_wp2_with fail
  refine (alive_any w1).mono ?_
  rintro e w2 ⟨rfl, hg⟩
  have HG2 := Lib.hid (grown_trans HG.out hg)
  clear hg
  go_wp2_with fail
  go_ret
  exact ⟨rfl, HG2.out⟩
end Go.Proofs.Ytcphbendmnmpiaa
