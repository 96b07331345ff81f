/-
  Put: a key gets a node.
-/
import Derived.Test.YtnhjnciadmgkeaaDoorOps
namespace Go.Proofs.YtnhjnciadmgkeaaDoor
open Go.ChangeShapes Go.WideShapes Go.ChangeAt Go.RowKit
set_option linter.unusedVariables false

def IsT (w : World) (lo b : Nat) (T : Tb) : Prop := (∃ gN gO, TAt w lo b gN gO T) ∧ Good T
structure PutRel (T : Tb) (key node : Int) (T' : Tb) : Prop where
  look : ∀ k2, Wd k2 → T'.look k2 = if k2 = key then some node else T.look k2
  cnt : T'.cnt = if (T.look key).isSome then T.cnt else T.cnt + 1
  k : T'.k = if (T.look key).isSome then T.k else if 2 ^ T.k < 2 * (T.cnt + 1) then T.k + 1 else T.k
  mv0 : T.mv ≤ T'.mv
  mv4 : T'.mv ≤ T.mv + 4
  non : T.o = none → T'.k = T.k → T'.mv = T.mv ∧ T'.o = none
def PutPost (w : World) (lo b : Nat) (T : Tb) (key node : Int) (r : Ending) (w' : World) : Prop :=
  r = .returned (.bool (!(T.look key).isSome)) ∧ ∃ T', IsT w' lo b T' ∧ PutRel T key node T' ∧ Keep lo w w'
section
variable {w w' : World} {lo b gN gO c : Nat} {T T' : Tb}
theorem look_some {key : Int} {e : Ent} (h : T.fnd key = some e) : (T.look key).isSome = true := by unfold Tb.look; rw [h]; rfl
theorem look_none {key : Int} (h : T.fnd key = none) : (T.look key).isSome = false := by unfold Tb.look; rw [h]; rfl
theorem has_post (h : TAt w lo b gN gO T) (hG : Good T) {key node : Int} (hk : Wd key) (hi : i32in node) {e : Ent} (hf : T.fnd key = some e)
    (hp : SomePost (w.setCell ⟨e.blk, 1, none⟩ (.int .i32 node)) lo b gN gO (T.ren key node) w') : PutPost w lo b T key node (.returned (.bool false)) w' := by
  obtain ⟨T', h1, h2, h3⟩ := hp
  obtain ⟨⟨a, ha⟩, hl, _⟩ := h.in_ent (fnd_in h hk hf).1
  have hpre : Pre (T.ren key node) := ⟨hG.half, fun j hj => by rw [ren_pot]; have := (hG.wait j hj).2; show T.pot + 32 * T.cnt ≤ _; omega⟩
  refine ⟨by rw [look_some hf]; rfl, T', ⟨⟨gN, gO, h1⟩, hpre.good h2 h1⟩, ⟨fun k2 hk2 => ?_, ?_, ?_, h2.mv0, h2.mv4, fun hn _ => h2.non hn⟩, (Keep.of_block (grown_setCell w e.blk 1 _) hl ha rfl).trans h3⟩
  · unfold Tb.look
    rw [h2.fnd k2 hk2, ren_fndT]
    by_cases hkk : k2 = key
    · subst hkk; rw [if_pos rfl, if_pos rfl, hf]; rfl
    · rw [if_neg hkk, if_neg hkk]
  · rw [look_some hf, if_pos rfl]; exact h2.cnt
  · rw [look_some hf, if_pos rfl]; exact h2.k
set_option maxHeartbeats 1000000 in
theorem put_has (h : TAt w lo b gN gO T) (hG : Good T) (key node : Int) (hk : Wd key) (hi : i32in node) (ht : Tab w) (hlo : 1 < lo) (hm : T.mv + 4 ≤ 1099511627776) {e : Ent} (hf : T.fnd key = some e) :
    Calls Tryd.prog 13 #[.pointer (some ⟨b, 0, none⟩), .int .u64 key, .int .i32 node] w (PutPost w lo b T key node) := by
  have h1 := tfind_at h key hk ht
  rw [hf] at h1
  have H1 : Hid (Calls Tryd.prog 25 #[.pointer (some ⟨b, 0, none⟩), .int .u64 key] w fun r w' => r = .returned (.pointer (some ⟨e.blk, 0, none⟩)) ∧ w = w') := Lib.hid h1
  obtain ⟨⟨a, ha⟩, hl, _⟩ := h.in_ent (fnd_in h hk hf).1
  have d1 := ha.cell1
  have f1 := ha.free 1
  have hren := h.ren hk hi hf
  have HS := Lib.hid (some_any .returning hren (ht.keep (Keep.of_block (lo := lo) (grown_setCell w e.blk 1 _) hl ha rfl) hlo) hlo hm)
  have HP := Lib.hid (fun w' => has_post (w' := w') h hG hk hi hf)
  clear h h1 hk ht hf ha hl hren hm hlo hi hG
  obtain ⟨eb, ek, en⟩ := e
  dsimp only at *
  go_enter_defers Tryd.func13, Tryd.ntmps13
  go_wp2_with (first | (go_at_call 25; refine H1.out.mono ?_; rintro e w' ⟨rfl, rfl⟩) | (refine wpList_store_cell rfl 21 _ _ rfl rfl rfl rfl size21 d1 f1 ?_))
  refine leaves_cons (f := 24) (args := #[.pointer (some ⟨b, 0, none⟩)]) (by simp) (by simp [go_sem]) ?_
  refine HS.out.mono ?_
  rintro r u' w2 ⟨rfl, rfl, hp⟩
  refine ⟨_, results_tmp rfl _ _ _, ?_⟩
  exact HP.out w2 hp
/-- a new key is laid, and some are moved -/
theorem new_post (h : TAt w lo b gN gO T) (hG : Good T) {key node : Int} (hk : Wd key) {e : Ent} (hek : e.key = key) (hen : e.node = node) (hf : T.fnd key = none) {T1 : Tb} {gN1 gO1 : Nat} {w1 w2 : World}
    (h1 : TRaw w1 lo b gN1 gO1 T1 (T.cnt + 1)) (hfn : ∀ k2, Wd k2 → T1.fnd k2 = T.fnd k2) (hmv : T1.mv = T.mv) (hkk : T1.k = if 2 ^ T.k < 2 * (T.cnt + 1) then T.k + 1 else T.k) (hkp : Keep lo w w2) (hnon : T1.k = T.k → T1.o = T.o)
    (hpre : Pre { T1.laid e with cnt := T.cnt + 1 }) (hp : SomePost w2 lo b gN1 gO1 { T1.laid e with cnt := T.cnt + 1 } w') : PutPost w lo b T key node (.returned (.bool true)) w' := by
  obtain ⟨T', g1, g2, g3⟩ := hp
  refine ⟨by rw [look_none hf]; rfl, T', ⟨⟨gN1, gO1, g1⟩, hpre.good g2 g1⟩, ⟨fun k2 hk2 => ?_, ?_, ?_, ?_, ?_, fun hn hk' => ?_⟩, hkp.trans g3⟩
  · unfold Tb.look
    rw [g2.fnd k2 hk2]
    have : ({ T1.laid e with cnt := T.cnt + 1 } : Tb).fnd k2 = (T1.laid e).fnd k2 := rfl
    rw [this, laid_fnd, hek, hfn k2 hk2]
    by_cases hkk : k2 = key
    · rw [if_pos hkk, if_pos hkk, ← hen]; rfl
    · rw [if_neg hkk, if_neg hkk]
  · rw [look_none hf]; exact g2.cnt
  · rw [look_none hf]; exact g2.k.trans hkk
  · rw [← hmv]; exact g2.mv0
  · rw [← hmv]; exact g2.mv4
  · have e1 : T1.k = T.k := by rw [← hk']; exact g2.k.symm
    have := g2.non (by show T1.o = none; rw [hnon e1]; exact hn)
    exact ⟨this.1.trans hmv, this.2⟩
theorem fnd_fresh (h : TAt w lo b gN gO T) {key : Int} (hf : T.fnd key = none) : ∀ x, T.In x → x.key ≠ key := by
  intro x hx e
  subst e
  unfold Tb.fnd at hf
  rw [Option.or_eq_none_iff] at hf
  rcases hx with hx | hx
  · rw [h.now.in_fnd hx] at hf; cases hf.1
  · cases ho : T.o with
    | none => rw [so_none ho] at hx; obtain ⟨i, hi2, _⟩ := hx; exact absurd hi2 (Nat.not_lt_zero i)
    | some j =>
      rw [so_some ho] at hx
      rw [fo_some ho, (h.old j ho).arr.in_fnd hx] at hf; cases hf.2
/-- the world in which the new entry is laid -/
def boxW (w : World) (key node : Int) : World := w.alloc (.cells #[.int .u64 key, .int .i32 node, .pointer none] 62)
theorem box_at (w : World) (key node : Int) : EntAt (boxW w key node) ⟨w.heap.size, key, node⟩ none := heap_alloc_new w _
theorem box_grown (w : World) (key node : Int) : w.grownBy (boxW w key node) none := World.grownBy_alloc w _ none
set_option maxHeartbeats 1000000 in
theorem put_new (h : TAt w lo b gN gO T) (hG : Good T) (key node : Int) (hk : Wd key) (hi : i32in node) (ht : Tab w) (hlo : 1 < lo) (hm : T.mv + 4 ≤ 1099511627776) (hc : T.cnt ≤ 1000000) (hf : T.fnd key = none) (hn : ¬ 2 ^ T.k < 2 * (T.cnt + 1)) :
    Calls Tryd.prog 13 #[.pointer (some ⟨b, 0, none⟩), .int .u64 key, .int .i32 node] w (PutPost w lo b T key node) := by
  have h1 := tfind_at h key hk ht
  rw [hf] at h1
  have H1 : Hid (Calls Tryd.prog 25 #[.pointer (some ⟨b, 0, none⟩), .int .u64 key] w fun r w' => r = .returned (.pointer none) ∧ w = w') := Lib.hid h1
  have c3 := h.c3
  have f3 := h.free 3
  obtain ⟨s1, s2⟩ := h.raw.setCnt (T.cnt + 1)
  have s3 := s1.kept (grown_drewN _ 1 none)
  have k1 := s2.drew
  have t1 := ht.keep k1 hlo
  have hfresh := fnd_fresh h hf
  have hblt := h.blt
  have hblo := h.blo
  have ec : ((T.cnt + 1 : Nat) : Int) = (T.cnt : Int) + 1 := by omega
  rw [ec] at s1 s2 s3 k1 t1
  generalize hw1 : (w.setCell ⟨b, 3, none⟩ (.int .i64 ((T.cnt : Int) + 1))).drewN 1 = w1 at s3
  have hw1' : (w.setCell ⟨b, 3, none⟩ (.int .i64 ((T.cnt : Int) + 1))).drew = w1 := hw1
  rw [hw1'] at k1 t1
  have hsz : w.heap.size ≤ w1.heap.size := k1.size
  have hbox := s3.kept (box_grown w1 key node)
  have tbox := t1.keep (Keep.of_new (lo := lo) (box_grown w1 key node)) hlo
  have hlay := lay_at hbox.now (by have := h.k3; omega) h.k30 tbox ⟨w1.heap.size, key, node⟩ none (box_at w1 key node) (by show lo ≤ w1.heap.size; omega) hk hi (fun x hx => hfresh x (.inl hx))
  have HEND : Hid (∀ r w2, LayPost (boxW w1 key node) lo gN T.k T.bn ⟨w1.heap.size, key, node⟩ r w2 → CallsD Tryd.prog 24 #[.pointer (some ⟨b, 0, none⟩)] .returning w2 fun e u' w' => u' = .returning ∧ (e = .returned (.tuple #[]) ∧ PutPost w lo b T key node (.returned (.bool true)) w')) := by
    refine Lib.hid fun r w2 hp => ?_
    obtain ⟨r1, r2⟩ := hbox.laid (box_at w1 key node) (by show lo ≤ w1.heap.size; omega) hk hfresh hp
    have htot : T.cnt + 1 = tot (T.laid ⟨w1.heap.size, key, node⟩).bn (2 ^ T.k) + tot T.bo T.so := by
      rw [laid_tot h.raw ⟨w1.heap.size, key, node⟩ hk]; have := h.tot; omega
    have r3 := r1.done htot (by omega)
    have hkp : Keep lo w w2 := (k1.trans (Keep.of_new (box_grown w1 key node))).trans r2
    have hpre : Pre { T.laid ⟨w1.heap.size, key, node⟩ with cnt := T.cnt + 1 } := ⟨by show 2 * (T.cnt + 1) ≤ 2 ^ T.k; omega, fun j hj => by
      have := (hG.wait j hj).2
      show T.pot + 32 * (T.cnt + 1) ≤ _
      omega⟩
    refine (some_any .returning r3 (ht.keep hkp hlo) hlo hm).mono ?_
    rintro e u' w' ⟨e1, e2, hp⟩
    exact ⟨e1, e2, new_post h hG hk rfl rfl hf s3 (fun _ _ => rfl) rfl (by rw [if_neg hn]) hkp (fun _ => rfl) hpre hp⟩
  have HLAY := Lib.hid hlay
  have c0' := s3.c0
  have c3' := s3.c3
  have HW := Lib.hid hw1
  have HT := Lib.hid (⟨h, hG, ht, hfresh, s3, hbox, tbox⟩ : TAt w lo b gN gO T ∧ Good T ∧ Tab w ∧ _ ∧ _ ∧ _ ∧ _)
  have cb : (T.cnt : Int) ≤ 1000000 := by omega
  have k29 : 2 ^ T.k ≤ 1073741824 := Nat.pow_le_pow_right (n := 2) (j := 30) (by decide) h.k30
  clear h hG ht hfresh s3 hbox tbox hlay h1 s1 s2 k1 t1 hf HT hm hlo hi hk hc hblt hblo hsz hw1 hw1'
  obtain ⟨n, hnn⟩ : ∃ n, n = 2 ^ T.k := ⟨_, rfl⟩
  rw [← hnn] at c0' hn k29 HLAY
  have hgt : ¬ ((n : Int) / 2 < (T.cnt : Int) + 1) := by omega
  clear hnn hn
  unfold boxW at *
  rw [ec] at c3'
  go_enter_defers Tryd.func13, Tryd.ntmps13
  go_wp2_with (first | (go_at_call 25; refine H1.out.mono ?_; rintro e w' ⟨rfl, rfl⟩) | (refine wpList_store_cell rfl 3 _ _ rfl rfl rfl rfl size3 c3 f3 ?_))
  refine region_tail 10 (by kernel_rfl) (by kernel_rfl) ?_
  intro w2 hw2
  obtain rfl : w2 = w1 := hw2.trans HW.out
  clear hw2 c3 f3 HW
  simp only [List.take_succ_cons, List.take_zero, List.drop_succ_cons, List.drop_zero]
  repeat still_step
  refine wpStill_nil ?_
  go_wp2_with fail
  refine HLAY.out.mono ?_
  rintro r w2 hp
  obtain rfl := hp.1
  go_wp2_with fail
  refine leaves_cons (f := 24) (args := #[.pointer (some ⟨b, 0, none⟩)]) (by simp) (by simp [go_sem]) ?_
  refine (HEND.out _ _ hp).mono ?_
  rintro r u' w3 ⟨rfl, rfl, hp3⟩
  refine ⟨_, results_tmp rfl _ _ _, ?_⟩
  exact hp3
set_option maxHeartbeats 1000000 in
theorem put_grow (h : TAt w lo b gN gO T) (hG : Good T) (key node : Int) (hk : Wd key) (hi : i32in node) (ht : Tab w) (hlo : 1 < lo) (hm : T.mv + 4 ≤ 1099511627776) (hc : T.cnt ≤ 1000000) (hf : T.fnd key = none) (hn : 2 ^ T.k < 2 * (T.cnt + 1)) :
    Calls Tryd.prog 13 #[.pointer (some ⟨b, 0, none⟩), .int .u64 key, .int .i32 node] w (PutPost w lo b T key node) := by
  have h1 := tfind_at h key hk ht
  rw [hf] at h1
  have H1 : Hid (Calls Tryd.prog 25 #[.pointer (some ⟨b, 0, none⟩), .int .u64 key] w fun r w' => r = .returned (.pointer none) ∧ w = w') := Lib.hid h1
  have c3 := h.c3
  have f3 := h.free 3
  obtain ⟨s1, s2⟩ := h.raw.setCnt (T.cnt + 1)
  have s3 := s1.kept (grown_drewN _ 1 none)
  have k1 := s2.drew
  have t1 := ht.keep k1 hlo
  have hfresh := fnd_fresh h hf
  have hblt := h.blt
  have hblo := h.blo
  have ec : ((T.cnt + 1 : Nat) : Int) = (T.cnt : Int) + 1 := by omega
  rw [ec] at s1 s2 s3 k1 t1
  generalize hw1 : (w.setCell ⟨b, 3, none⟩ (.int .i64 ((T.cnt : Int) + 1))).drewN 1 = w1 at s3
  have hw1' : (w.setCell ⟨b, 3, none⟩ (.int .i64 ((T.cnt : Int) + 1))).drew = w1 := hw1
  rw [hw1'] at k1 t1
  have hsz : w.heap.size ≤ w1.heap.size := k1.size
  have k3 := h.k3
  have hhalf := hG.half
  have hcnt : 2 * T.cnt = 2 ^ T.k := by
    have : 2 ^ T.k = 2 * 2 ^ (T.k - 1) := by rw [← Nat.pow_succ']; congr 1; omega
    omega
  have hk19 : T.k ≤ 29 := by
    refine Nat.le_of_not_lt fun h => ?_
    have : 2 ^ 30 ≤ 2 ^ T.k := Nat.pow_le_pow_right (by decide) h
    omega
  have ho : T.o = none := by
    cases hj : T.o with
    | none => rfl
    | some j =>
      have h1 := hG.wait j hj
      have h2 := (h.old j hj).jk
      rw [pot_some hj] at h1
      have h3 : 2 ^ T.k = 2 ^ j * 2 := by rw [← h2, Nat.pow_succ]
      omega
  obtain ⟨a1, a2, a3⟩ := s3.anew hk19
  have hanew := anew_raw (w := w1) (b := b) (gN := gN) (2 ^ T.k) (2 ^ (T.k + 1)) _ _ (.int .i64 0) s3.c0 s3.c1 s3.c2 s3.free (by rw [Nat.pow_succ]; omega) (Nat.pow_le_pow_right (n := 2) (j := 30) (by decide) (by omega))
  generalize hwa : anewW w1 b gN (2 ^ T.k) (2 ^ (T.k + 1)) = wa at a1 a2 a3 hanew
  have ta := t1.keep a2 hlo
  have hsa : w.heap.size ≤ wa.heap.size := by omega
  have hbox := a1.kept (box_grown wa key node)
  have tbox := ta.keep (Keep.of_new (lo := lo) (box_grown wa key node)) hlo
  have hfreshA : ∀ x, T.anew.In x → x.key ≠ key := by
    rintro x (⟨i, _, hx⟩ | hx)
    · cases hx
    · exact hfresh x (.inl hx)
  have hlay : Calls Tryd.prog 27 #[.slice (some ⟨w1.heap.size, 0, none⟩) (2 ^ (T.k + 1)) (2 ^ (T.k + 1)), .pointer (some ⟨wa.heap.size, 0, none⟩)] (boxW wa key node) (LayPost (boxW wa key node) lo w1.heap.size (T.k + 1) (fun _ => []) ⟨wa.heap.size, key, node⟩) :=
    lay_at hbox.now (by show 1 ≤ T.k + 1; omega) (by show T.k + 1 ≤ 30; omega) tbox ⟨wa.heap.size, key, node⟩ none (box_at wa key node) (by show lo ≤ wa.heap.size; omega) hk hi (fun x hx => hfreshA x (.inl hx))
  have HEND : Hid (∀ r w2, LayPost (boxW wa key node) lo w1.heap.size (T.k + 1) (fun _ => []) ⟨wa.heap.size, key, node⟩ r w2 → CallsD Tryd.prog 24 #[.pointer (some ⟨b, 0, none⟩)] .returning w2 fun e u' w' => u' = .returning ∧ (e = .returned (.tuple #[]) ∧ PutPost w lo b T key node (.returned (.bool true)) w')) := by
    refine Lib.hid fun r w2 hp => ?_
    obtain ⟨r1, r2⟩ := hbox.laid (e := ⟨wa.heap.size, key, node⟩) (box_at wa key node) (by show lo ≤ wa.heap.size; omega) hk hfreshA hp
    have htn : tot T.bn (2 ^ T.k) = T.cnt := by have := h.tot; rw [so_none ho] at this; exact this.symm
    have htot : T.cnt + 1 = tot (T.anew.laid ⟨wa.heap.size, key, node⟩).bn (2 ^ (T.k + 1)) + tot T.bn (2 ^ T.k) := by
      rw [show tot (T.anew.laid ⟨wa.heap.size, key, node⟩).bn (2 ^ (T.k + 1)) = tot T.anew.bn (2 ^ T.anew.k) + 1 from laid_tot a1 ⟨wa.heap.size, key, node⟩ hk, show tot T.anew.bn (2 ^ T.anew.k) = 0 from tot_none (fun _ _ => rfl), htn]; omega
    have r3 := r1.done htot (by omega)
    have hkp : Keep lo w w2 := ((k1.trans a2).trans (Keep.of_new (box_grown wa key node))).trans r2
    have hpre : Pre { T.anew.laid ⟨wa.heap.size, key, node⟩ with cnt := T.cnt + 1 } := ⟨by
      show 2 * (T.cnt + 1) ≤ 2 ^ (T.k + 1)
      have e8 : 2 ^ 3 ≤ 2 ^ T.k := Nat.pow_le_pow_right (by decide) k3
      rw [Nat.pow_succ]; omega, fun j hj => by
      have e8 : 2 ^ 3 ≤ 2 ^ T.k := Nat.pow_le_pow_right (by decide) k3
      have hj' : some T.k = some j := hj
      obtain rfl := Option.some.inj hj'
      show 8 * tot T.bn (2 ^ T.k) + (2 ^ T.k - 0) + 32 * (T.cnt + 1) ≤ _
      omega⟩
    refine (some_any .returning r3 (ht.keep hkp hlo) hlo hm).mono ?_
    rintro e u' w' ⟨e1, e2, hp⟩
    exact ⟨e1, e2, new_post h hG hk rfl rfl hf a1 (fun k2 _ => anew_fnd s3 ho k2) rfl (by rw [if_pos hn]; rfl) hkp (fun e => absurd e (Nat.succ_ne_self T.k)) hpre hp⟩
  have HLAY := Lib.hid hlay
  have c0' := s3.c0
  have c3' := s3.c3
  have HANEW : Hid (Calls Tryd.prog 26 #[.pointer (some ⟨b, 0, none⟩)] w1 fun r w' => r = .returned (.tuple #[]) ∧ w' = wa) := Lib.hid hanew
  have c0a : wa.cell? ⟨b, 0, none⟩ = some (.slice (some ⟨w1.heap.size, 0, none⟩) (2 ^ (T.k + 1)) (2 ^ (T.k + 1))) := a1.c0
  have HW := Lib.hid hw1
  have HT := Lib.hid (⟨h, hG, ht, hfresh, s3, hbox, tbox⟩ : TAt w lo b gN gO T ∧ Good T ∧ Tab w ∧ _ ∧ _ ∧ _ ∧ _)
  have cb : (T.cnt : Int) ≤ 1000000 := by omega
  have k29 : 2 ^ T.k ≤ 1073741824 := Nat.pow_le_pow_right (n := 2) (j := 30) (by decide) h.k30
  clear h hG ht hfresh s3 hbox tbox hlay h1 s1 s2 k1 t1 hf HT hm hlo hi hk hc hblt hblo hsz hw1 hw1' k3 hhalf hcnt hk19 ho a1 a2 a3 ta hsa hfreshA hanew hwa
  obtain ⟨n, hnn⟩ : ∃ n, n = 2 ^ T.k := ⟨_, rfl⟩
  rw [← hnn] at c0' hn k29
  have hgt : (n : Int) / 2 < (T.cnt : Int) + 1 := by omega
  obtain ⟨m, hmm⟩ : ∃ m, m = 2 ^ (T.k + 1) := ⟨_, rfl⟩
  rw [← hmm] at c0a HLAY
  clear hmm
  clear hnn hn
  unfold boxW at *
  rw [ec] at c3'
  go_enter_defers Tryd.func13, Tryd.ntmps13
  go_wp2_with (first | (go_at_call 25; refine H1.out.mono ?_; rintro e w' ⟨rfl, rfl⟩) | (refine wpList_store_cell rfl 3 _ _ rfl rfl rfl rfl size3 c3 f3 ?_))
  refine region_tail 10 (by kernel_rfl) (by kernel_rfl) ?_
  intro w2 hw2
  obtain rfl : w2 = w1 := hw2.trans HW.out
  clear hw2 c3 f3 HW
  simp only [List.take_succ_cons, List.take_zero, List.drop_succ_cons, List.drop_zero]
  repeat still_step
  refine wpStill_nil ?_
  go_wp2_with fail
  refine HANEW.out.mono ?_
  rintro r w' ⟨rfl, rfl⟩
  clear c0' c3'
  go_wp2_with fail
  refine HLAY.out.mono ?_
  rintro r w2 hp
  obtain rfl := hp.1
  go_wp2_with fail
  refine leaves_cons (f := 24) (args := #[.pointer (some ⟨b, 0, none⟩)]) (by simp) (by simp [go_sem]) ?_
  refine (HEND.out _ _ hp).mono ?_
  rintro r u' w3 ⟨rfl, rfl, hp3⟩
  refine ⟨_, results_tmp rfl _ _ _, ?_⟩
  exact hp3
theorem put_is (h : IsT w lo b T) (key node : Int) (hk : Wd key) (hi : i32in node) (ht : Tab w) (hlo : 1 < lo) (hm : T.mv + 4 ≤ 1099511627776) (hc : T.cnt ≤ 1000000) :
    Calls Tryd.prog 13 #[.pointer (some ⟨b, 0, none⟩), .int .u64 key, .int .i32 node] w (PutPost w lo b T key node) := by
  obtain ⟨⟨gN, gO, h1⟩, hG⟩ := h
  cases hf : T.fnd key with
  | some e => exact put_has h1 hG key node hk hi ht hlo hm hf
  | none =>
    by_cases hn : 2 ^ T.k < 2 * (T.cnt + 1)
    · exact put_grow h1 hG key node hk hi ht hlo hm hc hf hn
    · exact put_new h1 hG key node hk hi ht hlo hm hc hf hn
end
end Go.Proofs.YtnhjnciadmgkeaaDoor
