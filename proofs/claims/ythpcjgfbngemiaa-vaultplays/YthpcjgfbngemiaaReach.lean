/-
  The room's bytes are made up to a place: reach. The first gap that is wide enough: IndexFunc.
-/
import Derived.Test.YthpcjgfbngemiaaAddGap
namespace Go.Proofs.Ythpcjgfbngemiaa
open Go.ChangeShapes Go.WideShapes Go.ChangeAt Go.RowKit
set_option linter.unusedVariables false
set_option maxRecDepth 100000
theorem info5 : (Try.prog.info? 5).map (fun i => (i.zero, i.size, i.bytes)) = some (some (.int .u8 0), 1, 1) := by kernel_rfl
theorem zeros_list (z : Value) (n : Nat) : (Builtin.zeroCells #[z] n).toList = List.replicate n z := by
  apply List.ext_getElem?
  intro j
  by_cases hj : j < n
  · simp [Builtin.zeroCells, hj, Nat.mod_one]
  · simp [Builtin.zeroCells, hj]
section
variable {w : World} {lo n k : Nat} {v : Value} {xs : List Value}
theorem append_zeros (h : w.ownsRow lo 5 1 v n xs) (hk : 0 < k) (hnk : n + k ≤ 2097152) (hlo : lo ≤ w.heap.size) (ty : TypeId) :
    ∃ g' c' w', (Builtin.append_ #[31, 3] ty #[v, .int .i64 (k : Int)]).run Try.prog w = .ok (.slice (some ⟨g', 0, none⟩) (n + k) c') w' ∧ w'.ownsRow lo 5 1 (.slice (some ⟨g', 0, none⟩) (n + k) c') (n + k) (xs ++ List.replicate k (Value.int .u8 0)) ∧ w.grownBy w' v.ownBlock ∧ (v.ownBlock = some g' ∨ w.heap.size ≤ g') := by
  obtain ⟨i0, hi0, hz0, hz1, hz2⟩ := info_parts info5
  have hzl : (Builtin.zeroCells (Value.int .u8 0).cells k).toList = List.replicate k (Value.int .u8 0) := zeros_list _ _
  have hzs : ∀ m, (Builtin.zeroCells (Value.int .u8 0).cells m).size = m := fun m => by rw [size_zeroCells]; show m * 1 = m; omega
  rcases h.2 with ⟨rfl, rfl⟩ | ⟨g, cap, cur, rfl, hbg, hgb, hnc, hcm, hcs, ht⟩
  · have hx : xs = [] := List.eq_nil_of_length_eq_zero (by simpa using h.1)
    subst hx
    have hr := Lib.run_append_nil_zeros (P := Try.prog) w 31 3 ty 5 i0 _ .i64 .i64 Try.underlying31 Try.underlying3 hi0 hz0 k hk (by omega) (by omega) (by rw [hz2]; omega)
    have hge := grownCap_ge w k 0 5
    have hle := grownCap_le_maxLen w k 0 5 (by unfold maxLen; omega)
    generalize grownCap w k 0 5 = c' at hr hge hle
    rw [Nat.zero_add]
    refine ⟨w.heap.size, c', _, hr, ⟨by simp, .inr ⟨w.heap.size, c', _, rfl, hlo, heap_alloc_new w.drew _, hge, hle, ?_, ?_⟩⟩, ⟨rfl, rfl, rfl, by simp, fun j hj _ => Below.heap_alloc w.drew _ j hj⟩, .inr (Nat.le_refl _)⟩
    · rw [Array.size_append, hzs, hzs]; omega
    · rw [Array.toList_append, hzl, List.nil_append, List.take_append_of_le_length (by simp), List.take_of_length_le (by simp)]
  · by_cases hroom : n + k ≤ cap
    · have hst := run_storeCells_at Try.prog g (n * 1) 5 (List.replicate k (Value.int .u8 0)) 0 cur w hgb (by rw [List.length_replicate, hcs]; omega) (fun u hu => by rw [List.eq_of_mem_replicate hu]; rfl)
      have hadd : (⟨g, 0, none⟩ : Addr).add (n * 1) = ⟨g, n * 1, none⟩ := by
        by_cases h0 : n = 0
        · subst h0; rfl
        · simp [Addr.add, h0]
      have hw : IntKind.i64.wrap (k : Int) = k := by rw [IntKind.wrap_i64]; omega
      have hneg : ¬ ((k : Int) < 0) := by omega
      have h48i : ¬ (281474976710656 < (k : Int) * (i0.bytes : Int)) := by rw [hz2]; omega
      have hns : ¬ (k * i0.size = 0) := by rw [hz1]; omega
      have hr : (Builtin.append_ #[31, 3] ty #[.slice (some ⟨g, 0, none⟩) n cap, .int .i64 (k : Int)]).run Try.prog w = .ok (.slice (some ⟨g, 0, none⟩) (n + k) cap) (w.setRow g (cur.toList.take (n * 1 + 0) ++ List.replicate k (Value.int .u8 0) ++ cur.toList.drop (n * 1 + 0 + (List.replicate k (Value.int .u8 0)).length)).toArray) := by
        rw [← hadd, ← hz1] at hst
        simp [Builtin.append_, run_underlying Try.underlying31, run_underlying Try.underlying3, sizeOf, typeInfo, zeroValue, hi0, hz0, asInt, asIntOf, hw, hneg, h48i, hns, hroom, hzl]
        simp at hst
        rw [hst]
        simp [hz1]
      refine ⟨g, cap, _, hr, ⟨by rw [List.length_append, h.1, List.length_replicate]; omega, .inr ⟨g, cap, _, rfl, hbg, setRow_heap w g cur _ 5 _ hgb, hroom, hcm, ?_, ?_⟩⟩, grown_setRow _, .inl rfl⟩
      · simp only [List.size_toArray, List.length_append, List.length_take, List.length_drop, Array.length_toList, List.length_replicate]
        rw [hcs]; omega
      · show (cur.toList.take (n * 1 + 0) ++ List.replicate k (Value.int .u8 0) ++ _).take ((n + k) * 1) = _
        rw [Nat.add_zero, ht, List.take_append_of_le_length (by rw [List.length_append, h.1, List.length_replicate]; omega), List.take_of_length_le (by rw [List.length_append, h.1, List.length_replicate]; omega)]
    · have hold : (Builtin.firstCells i0.size n (.slice (some ⟨g, 0, none⟩) n cap)).run Try.prog w.drew = .ok xs.toArray w.drew := by
        have := run_loadCells_list (P := Try.prog) w.drew ⟨g, 0, none⟩ xs (fun j u hu => h.cells (g := g) rfl j u hu)
        have hl : xs.length = n := by rw [h.1]; omega
        simp [Builtin.firstCells, hz1, ← hl, this]
      have hr := Lib.run_append_grow_zeros (P := Try.prog) w 31 3 ty 5 i0 _ .i64 .i64 Try.underlying31 Try.underlying3 hi0 hz0 (some ⟨g, 0, none⟩) n cap xs hold k hk (by omega) (by omega) (by omega) (by rw [hz2]; omega) (by rw [hz2]; exact growslice_fits (by omega) (by omega))
      have hge := grownCap_ge w (n + k) cap 5
      have hle := grownCap_le_maxLen w (n + k) cap 5 (by unfold maxLen; omega)
      generalize grownCap w (n + k) cap 5 = c' at hr hge hle
      refine ⟨w.heap.size, c', _, hr, ⟨by rw [List.length_append, h.1, List.length_replicate]; omega, .inr ⟨w.heap.size, c', _, rfl, hlo, heap_alloc_new w.drew _, hge, hle, ?_, ?_⟩⟩, ⟨rfl, rfl, rfl, by simp, fun j hj _ => Below.heap_alloc w.drew _ j hj⟩, .inr (Nat.le_refl _)⟩
      · rw [Array.size_append, Array.size_append, hzs, hzs, List.size_toArray, h.1]; omega
      · rw [Array.toList_append, Array.toList_append, hzl, List.take_append_of_le_length (by simp [h.1]), List.take_of_length_le (by simp [h.1])]
end
theorem enough_at (a m k : Int) (cb : Nat) (w : World) (hc : w.cell? ⟨cb, 0, none⟩ = some (.int .i64 k)) : Calls Try.prog 39 #[.agg #[.int .i64 a, .int .i64 m], .pointer (some ⟨cb, 0, none⟩)] w fun e w' => e = .returned (.bool (decide (k ≤ m))) ∧ w.grownBy w' none := by
  have hc2 : ∀ o, (w.alloc o).cell? ⟨cb, 0, none⟩ = some (.int .i64 k) := fun o => (World.grownBy_alloc w o none).cell hc (by simp)
  go_enter Try.func39, Try.ntmps39
  go_wp2
  go_ret
  exact ⟨rfl, World.grownBy_alloc w _ none⟩
/-- the first gap that is wide enough, or none -/
def firstG (k : Int) (l : List (Int × Int)) (r : Int) : Prop := (∃ i : Nat, r = (i : Int) ∧ (∃ p, l[i]? = some p ∧ k ≤ p.2) ∧ ∀ j p, j < i → l[j]? = some p → ¬ k ≤ p.2) ∨ (r = -1 ∧ ∀ p ∈ l, ¬ k ≤ p.2)
def IdxPost (w : World) (k : Int) (l : List (Int × Int)) (e : Ending) (w' : World) : Prop := ∃ r, e = .returned (.int .i64 r) ∧ firstG k l r ∧ w.grownBy w' none
section
variable {w : World} {lo c cb : Nat} {l : List (Int × Int)} {A : Option Addr}
set_option maxHeartbeats 400000 in
theorem index_at (h : GRow w lo (.slice A l.length c) l) (k : Int) (hc : w.cell? ⟨cb, 0, none⟩ = some (.int .i64 k)) (hn : l.length ≤ 1000000) :
    Calls Try.prog 40 #[.slice A l.length c, .func (.func 39) #[] #[.pointer (some ⟨cb, 0, none⟩)]] w (IdxPost w k l) := by
  obtain ⟨n, HN⟩ : ∃ n, Hid (l.length = n) := ⟨_, Lib.hid rfl⟩
  have HG := Lib.hid h
  have HC := Lib.hid hc
  rw [HN.out] at hn HG ⊢
  clear h hc
  go_enter Try.func40, Try.ntmps40
  go_wp2_with fail
  go_loopg [8] n (fun m v wr => ∃ (i : Nat), v = .int .i64 (i : Int) ∧ Hid (m + i = n) ∧ Hid (w.grownBy wr none ∧ ∀ j p, j < i → l[j]? = some p → ¬ k ≤ p.2))
  case atStart => exact ⟨0, by go_num, Lib.hid (by omega), Lib.hid ⟨⟨rfl, rfl, rfl, Nat.le_refl _, fun _ _ _ => rfl⟩, by omega⟩⟩
  case round =>
    obtain ⟨i, rfl, HM, HI⟩ := hrel
    by_cases hlt : i < n
    · have hltI : (i : Int) < (n : Int) := by omega
      obtain ⟨g, cap', e⟩ := owns_some HG.out (by rw [HN.out]; omega)
      injection e with e1 e2 e3
      subst e1
      clear e2 e3
      obtain ⟨p, hp⟩ : ∃ p, l[i]? = some p := ⟨_, List.getElem?_eq_getElem (by rw [HN.out]; omega)⟩
      have HGr := HG
      rw [← HN.out] at HGr
      obtain ⟨c0, c1⟩ := GRow.cells (HGr.out.kept HI.out.1 (.inr (by simp [Value.ownBlock]))) hp
      have hix := ix54 g i n c hlt
      have hld := ld76 c0 c1
      have HP := Lib.hid hp
      have HE := Lib.hid (enough_at p.1 p.2 k cb wr (HI.out.1.cell HC.out (by simp)))
      obtain ⟨pa, pm⟩ := p
      dsimp only at c0 c1 hld HE
      clear hp HGr
      by_cases hk : k ≤ pm
      · have hkb : decide (k ≤ pm) = true := by simpa using hk
        rw [hkb] at HE
        have HF : Hid (firstG k l (i : Int)) := Lib.hid (.inl ⟨i, rfl, ⟨_, HP.out, hk⟩, HI.out.2⟩)
        clear hk hkb
        go_wp2_with (go_at_call 39; refine HE.out.mono ?_; rintro e w' ⟨rfl, hg'⟩; have HG' := Lib.hid hg'; clear hg')
        go_ret
        exact ⟨_, rfl, HF.out, grown_trans HI.out.1 HG'.out⟩
      · have hkb : decide (k ≤ pm) = false := by simpa using hk
        rw [hkb] at HE
        have HS : Hid (∀ j p, j < i + 1 → l[j]? = some p → ¬ k ≤ p.2) := Lib.hid fun j p hj hp => by
          by_cases hji : j = i
          · subst hji; rw [HP.out] at hp; injection hp with hp; subst hp; exact hk
          · exact HI.out.2 j p (by omega) hp
        clear hk hkb
        go_wp2_with (go_at_call 39; refine HE.out.mono ?_; rintro e w' ⟨rfl, hg'⟩; have HG' := Lib.hid hg'; clear hg')
        go_roundg (n - (i + 1))
        case measure => have := HM.out; omega
        case rel => exact ⟨i + 1, by go_num, Lib.hid (by omega), Lib.hid ⟨grown_trans HI.out.1 HG'.out, HS.out⟩⟩
    · have hltI : ¬ ((i : Int) < (n : Int)) := by omega
      have HF : Hid (firstG k l (-1)) := Lib.hid (.inr ⟨rfl, fun p hp => by
        obtain ⟨j, hj, e⟩ := List.getElem_of_mem hp
        exact HI.out.2 j p (by rw [HN.out] at hj; omega) (by rw [← e]; exact List.getElem?_eq_getElem hj)⟩)
      go_wp2
      go_ret
      exact ⟨_, rfl, HF.out, HI.out.1⟩
end
section
variable {w : World} {lo b : Nat} {h : Hd} {V : Vl}
/-- only the bytes turn -/
def BytePost (w : World) (lo b : Nat) (h : Hd) (V : Vl) (l : List Int) (e : Ending) (w' : World) : Prop := e = .returned (.tuple #[]) ∧ ∃ v, VAt w' lo b { h with vB := v } { V with bs := l } ∧ Stp b h { h with vB := v } w w'
set_option maxHeartbeats 400000 in
theorem reach_at (x : VAt w lo b h V) (k : Nat) (hk : k ≤ 1048576) (hn : V.bs.length ≤ 1048576) :
    Calls Try.prog 43 #[.pointer (some ⟨b, 0, none⟩), .int .i64 (k : Int)] w (BytePost w lo b h V (V.bs ++ List.replicate (k - V.bs.length) 0)) := by
  obtain ⟨A, c, e⟩ := owns_slice x.rB
  have c1 := x.c1
  have f1 := x.free 1
  rw [e] at c1
  obtain ⟨n, HN⟩ : ∃ n, Hid (V.bs.length = n) := ⟨_, Lib.hid rfl⟩
  by_cases hle : k ≤ V.bs.length
  · have e0 : V.bs ++ List.replicate (k - V.bs.length) 0 = V.bs := by rw [show k - V.bs.length = 0 by omega]; simp
    rw [e0]
    have HX : Hid (BytePost w lo b h V V.bs (.returned (.tuple #[])) w) := Lib.hid ⟨rfl, h.vB, x, Stp.refl _ _ _⟩
    rw [HN.out] at c1 hle hn
    clear x e e0
    have hd : ¬ (0 < (k : Int) - (n : Int)) := by omega
    go_enter Try.func43, Try.ntmps43
    go_wp2
    go_end0
    exact HX.out
  · have hlo := x.own_lo (.inl rfl)
    obtain ⟨g', c', w', hr, ho, hg, hft⟩ := append_zeros x.rB (k := k - V.bs.length) (by omega) (by omega) (by omega) 31
    have hxs : rvals benc V.bs ++ List.replicate (k - V.bs.length) (Value.int .u8 0) = rvals benc (V.bs ++ List.replicate (k - V.bs.length) 0) := by
      rw [rvals_append]
      congr 1
      generalize k - V.bs.length = j
      induction j with
      | zero => rfl
      | succ j ih => rw [List.replicate_succ, List.replicate_succ, ih]; rfl
    have hl : (V.bs ++ List.replicate (k - V.bs.length) (0 : Int)).length = V.bs.length + (k - V.bs.length) := by simp
    obtain ⟨hv, hst⟩ := x.setB (w1 := w') (l := V.bs ++ List.replicate (k - V.bs.length) 0) (v := .slice (some ⟨g', 0, none⟩) (V.bs.length + (k - V.bs.length)) c') hg (by rw [hl, ← hxs]; exact ho) (by
      rcases hft with hft | hft
      · exact .inl hft
      · exact .inr (fun j hj => by injection hj with hj; have hj : g' = j := hj; omega))
    have HX : Hid (BytePost w lo b h V (V.bs ++ List.replicate (k - V.bs.length) 0) (.returned (.tuple #[])) (w'.setCell ⟨b, 1, none⟩ (.slice (some ⟨g', 0, none⟩) (V.bs.length + (k - V.bs.length)) c'))) := Lib.hid ⟨rfl, _, hv, hst⟩
    have hb : w'.heap[b]? = w.heap[b]? := hg.block b x.blt (fun e => x.neB e.symm rfl)
    have d1 : w'.cell? ⟨b, 1, none⟩ = some (.slice A V.bs.length c) := (World.cell?_of_block hb).trans c1
    have g1 : w'.frozen? ⟨b, 1, none⟩ = false := (World.frozen?_of_block hb).trans f1
    rw [e] at hr
    rw [HN.out] at hr HX c1 d1 hle hn ⊢
    have HR : Hid ((Builtin.append_ #[31, 3] 31 #[.slice A n c, .int .i64 ((k : Int) - (n : Int))]).run Try.prog w = .ok (.slice (some ⟨g', 0, none⟩) (n + (k - n)) c') w') := Lib.hid (by
      rw [show ((k : Int) - (n : Int)) = ((k - n : Nat) : Int) by omega]; exact hr)
    clear x e hr ho hg hft hxs hl hv hst hb hlo
    have hd : 0 < (k : Int) - (n : Int) := by omega
    go_enter Try.func43, Try.ntmps43
    go_wp2_with (at_builtin; refine append_runT rfl (.tmp 18) (.tmp 19) 31 3 rfl rfl rfl HR.out ?_)
    go_end0
    exact HX.out
end
end Go.Proofs.Ythpcjgfbngemiaa
