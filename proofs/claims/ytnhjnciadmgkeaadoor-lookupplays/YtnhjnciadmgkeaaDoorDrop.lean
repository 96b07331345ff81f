/-
  Drop: a key goes. New: a table without keys.
-/
import Derived.Test.YtnhjnciadmgkeaaDoorPut
namespace Go.Proofs.YtnhjnciadmgkeaaDoor
open Go.ChangeShapes Go.WideShapes Go.ChangeAt Go.RowKit
set_option linter.unusedVariables false

structure DropRel (T : Tb) (key : Int) (T' : Tb) : Prop where
  look : ∀ k2, Wd k2 → T'.look k2 = if k2 = key then none else T.look k2
  cnt : T'.cnt + (if (T.look key).isSome then 1 else 0) = T.cnt
  k : T'.k = T.k
  mv0 : T.mv ≤ T'.mv
  mv4 : T'.mv ≤ T.mv + 4
def DropPost (w : World) (lo b : Nat) (T : Tb) (key : Int) (r : Ending) (w' : World) : Prop :=
  r = .returned (.bool (T.look key).isSome) ∧ ∃ T', IsT w' lo b T' ∧ DropRel T key T' ∧ Keep lo w w'
section
variable {w w' : World} {lo b gN gO c : Nat} {T T' : Tb}
/-- behind a key that went, or was not there, some are moved -/
theorem gone_end (h : TAt w lo b gN gO T) (hG : Good T) (ht : Tab w) (hlo : 1 < lo) (hm : T.mv + 4 ≤ 1099511627776) {key : Int} {T1 : Tb} {w1 : World} (h1 : TAt w1 lo b gN gO T1) (hk1 : Keep lo w w1)
    (hf : ∀ k2, Wd k2 → T1.fnd k2 = if k2 = key then none else T.fnd k2) (hc : T1.cnt + (if (T.look key).isSome then 1 else 0) = T.cnt) (hk : T1.k = T.k) (ho : T1.o = T.o) (hmv : T1.mv = T.mv) (hp : T1.pot ≤ T.pot) :
    CallsD Tryd.prog 24 #[.pointer (some ⟨b, 0, none⟩)] .returning w1 fun e u' w' => u' = .returning ∧ (e = .returned (.tuple #[]) ∧ DropPost w lo b T key (.returned (.bool (T.look key).isSome)) w') := by
  refine (some_any .returning h1 (ht.keep hk1 hlo) hlo (by rw [hmv]; exact hm)).mono ?_
  rintro e u' w' ⟨e1, e2, T', g1, g2, g3⟩
  have hpre : Pre T1 := ⟨by rw [hk]; have := hG.half; omega, fun j hj => by have := (hG.wait j (by rw [← ho]; exact hj)).2; omega⟩
  refine ⟨e1, e2, rfl, T', ⟨⟨gN, gO, g1⟩, hpre.good g2 g1⟩, ⟨fun k2 hk2 => ?_, by rw [g2.cnt]; exact hc, g2.k.trans hk, by rw [← hmv]; exact g2.mv0, by rw [← hmv]; exact g2.mv4⟩, hk1.trans g3⟩
  unfold Tb.look
  rw [g2.fnd k2 hk2, hf k2 hk2]
  by_cases hkk : k2 = key
  · rw [if_pos hkk, if_pos hkk]; rfl
  · rw [if_neg hkk, if_neg hkk]
theorem remN_fnd (key k2 : Int) : (T.remN key).fnd k2 = (if k2 = key then none else fndB T.k T.bn k2).or (T.fo k2) := by
  unfold Tb.fnd
  show (fndB T.k (put T.bn _ _) k2).or (T.fo k2) = _
  rw [fndB_rem]
theorem remO_fo {j : Nat} (hj : T.o = some j) (key k2 : Int) : (T.remO j key).fo k2 = if k2 = key then none else T.fo k2 := by
  rw [fo_some (T := T.remO j key) hj, fo_some hj]
  show fndB j (put T.bo _ _) k2 = _
  rw [fndB_rem]
/-- a key that is in the slots that are is not in those that were -/
theorem fo_none_of (h : TAt w lo b gN gO T) {key : Int} (hk : Wd key) {e : Ent} (hf : fndB T.k T.bn key = some e) : T.fo key = none := by
  have k3 := h.k3
  have k30 := h.k30
  obtain ⟨h1, h2⟩ := h.now.fnd_in (by omega) k30 hk hf
  cases hj : T.o with
  | none => exact fo_none hj _
  | some j =>
    rw [fo_some hj]
    have ho := h.old j hj
    have hjk := ho.jk
    unfold fndB
    rw [fnd_none]
    intro x hx e2
    exact ho.dis e x h1 ⟨_, slotN_lt hk (by omega) (by omega), hx⟩ (h2.trans e2.symm)
set_option maxHeartbeats 1000000 in
theorem drop_now (h : TAt w lo b gN gO T) (hG : Good T) (key : Int) (hk : Wd key) (ht : Tab w) (hlo : 1 < lo) (hm : T.mv + 4 ≤ 1099511627776) {e : Ent} (hf : fndB T.k T.bn key = some e) :
    Calls Tryd.prog 15 #[.pointer (some ⟨b, 0, none⟩), .int .u64 key] w (DropPost w lo b T key) := by
  have k3 := h.k3
  have hfo := fo_none_of h hk hf
  have hfn : T.fnd key = some e := by unfold Tb.fnd; rw [hf]; rfl
  have htk := take_at h.now (by omega) h.k30 key hk ht
  have hcpos : 1 ≤ T.cnt := by have := h.tot; have h2 := tot_rem h.now hk (by omega) h.k30; rw [hf] at h2; simp at h2; omega
  have HEND : Hid (∀ r w1, TakePost w lo gN T.k T.bn key r w1 → TRaw w1 lo b gN gO (T.remN key) T.cnt ∧ CallsD Tryd.prog 24 #[.pointer (some ⟨b, 0, none⟩)] .returning (w1.setCell ⟨b, 3, none⟩ (.int .i64 ((T.cnt : Int) - 1))) fun e u' w' => u' = .returning ∧ (e = .returned (.tuple #[]) ∧ DropPost w lo b T key (.returned (.bool true)) w')) := by
    refine Lib.hid fun r w1 hp => ?_
    obtain ⟨r1, r2⟩ := h.raw.remN hk hp
    refine ⟨r1, ?_⟩
    obtain ⟨s1, s2⟩ := r1.setCnt (T.cnt - 1)
    rw [show ((T.cnt - 1 : Nat) : Int) = (T.cnt : Int) - 1 by omega] at s1 s2
    have htr := tot_rem h.now hk (by omega) h.k30
    rw [hf] at htr
    have h3 : ({ T.remN key with cnt := T.cnt - 1 } : Tb).cnt = tot (T.remN key).bn (2 ^ T.k) + tot T.bo T.so := by
      have := h.tot
      show T.cnt - 1 = tot (put T.bn _ _) _ + _
      simp at htr
      omega
    have r3 := s1.done h3 (by have := h.cb; omega)
    have := gone_end (key := key) h hG ht hlo hm r3 (r2.trans s2) (fun k2 hk2 => ?_) (by rw [look_some hfn]; show T.cnt - 1 + 1 = _; omega) rfl rfl rfl (Nat.le_refl _)
    · rw [look_some hfn] at this; exact this
    · show (T.remN key).fnd k2 = _
      rw [remN_fnd]
      by_cases hkk : k2 = key
      · subst hkk; rw [if_pos rfl, if_pos rfl, hfo]; rfl
      · rw [if_neg hkk, if_neg hkk]; rfl
  have c0 := h.c0
  have cb := h.cb
  have htk2 : Calls Tryd.prog 28 #[.slice (some ⟨gN, 0, none⟩) (2 ^ T.k) (2 ^ T.k), .int .u64 key] w fun r w' => r = .returned (.bool true) ∧ TakePost w lo gN T.k T.bn key (.returned (.bool true)) w' := htk.mono fun r w' hp => by
    have e1 := hp.1
    rw [hf] at e1
    refine ⟨e1, ?_⟩
    have hp2 := hp
    rw [e1] at hp2
    exact hp2
  have HT := Lib.hid htk2
  clear h hG hk ht hlo hm hf hfo hfn htk htk2 k3
  generalize 2 ^ T.k = n at *
  go_enter_defers Tryd.func15, Tryd.ntmps15
  go_wp2_with fail
  refine HT.out.mono ?_
  rintro r w1 ⟨rfl, hp⟩
  have hr := (HEND.out _ _ hp).1
  have c3 := hr.c3
  have f3 := hr.free 3
  have HP := Lib.hid hp
  clear hr hp c0
  go_wp2_with (refine wpList_store_cell rfl 3 _ _ rfl rfl rfl rfl size3 c3 f3 ?_)
  refine leaves_cons (f := 24) (args := #[.pointer (some ⟨b, 0, none⟩)]) (by simp) (by simp [go_sem]) ?_
  refine (HEND.out _ _ HP.out).2.mono ?_
  rintro r u' w3 ⟨rfl, rfl, hp3⟩
  refine ⟨_, results_tmp rfl _ _ _, ?_⟩
  exact hp3
theorem remN_self (h : TAt w lo b gN gO T) {key : Int} (hf : fndB T.k T.bn key = none) : T.remN key = T := by
  unfold Tb.remN
  rw [rem_none (fnd_none.1 hf), put_self]
theorem remO_self {j : Nat} {key : Int} (hf : fndB j T.bo key = none) : T.remO j key = T := by
  unfold Tb.remO
  rw [rem_none (fnd_none.1 hf), put_self]
/-- the key was not there -/
theorem no_end (h : TAt w lo b gN gO T) (hG : Good T) (ht : Tab w) (hlo : 1 < lo) (hm : T.mv + 4 ≤ 1099511627776) {key : Int} {w1 : World} (h1 : TRaw w1 lo b gN gO T T.cnt) (hk1 : Keep lo w w1) (hf : T.fnd key = none) :
    CallsD Tryd.prog 24 #[.pointer (some ⟨b, 0, none⟩)] .returning w1 fun e u' w' => u' = .returning ∧ (e = .returned (.tuple #[]) ∧ DropPost w lo b T key (.returned (.bool false)) w') := by
  have := gone_end (key := key) h hG ht hlo hm (h1.done h.tot h.cb) hk1 (fun k2 hk2 => ?_) (by rw [look_none hf]; rfl) rfl rfl rfl (Nat.le_refl _)
  · rw [look_none hf] at this; exact this
  · show T.fnd k2 = _
    by_cases hkk : k2 = key
    · subst hkk; rw [if_pos rfl, hf]
    · rw [if_neg hkk]
def OldPost (w : World) (lo b gN gO : Nat) (T : Tb) (key : Int) (w1 : World) (r : Ending) (w2 : World) : Prop :=
  r = .returned (.bool (T.look key).isSome) ∧ TRaw w2 lo b gN gO T T.cnt ∧ Keep lo w1 w2
set_option maxHeartbeats 1000000 in
theorem drop_no (h : TAt w lo b gN gO T) (hG : Good T) (key : Int) (hk : Wd key) (ht : Tab w) (hlo : 1 < lo) (hm : T.mv + 4 ≤ 1099511627776) (hf : T.fnd key = none) :
    Calls Tryd.prog 15 #[.pointer (some ⟨b, 0, none⟩), .int .u64 key] w (DropPost w lo b T key) := by
  have k3 := h.k3
  have hf2 := hf
  unfold Tb.fnd at hf2
  rw [Option.or_eq_none_iff] at hf2
  have htk := take_at h.now (by omega) h.k30 key hk ht
  have htk2 : Calls Tryd.prog 28 #[.slice (some ⟨gN, 0, none⟩) (2 ^ T.k) (2 ^ T.k), .int .u64 key] w fun r w' => r = .returned (.bool false) ∧ TRaw w' lo b gN gO T T.cnt ∧ Keep lo w w' := htk.mono fun r w' hp => by
    have e1 := hp.1
    rw [hf2.1] at e1
    obtain ⟨r1, r2⟩ := h.raw.remN hk hp
    rw [remN_self h hf2.1] at r1
    exact ⟨e1, r1, r2⟩
  have htk3 : ∀ w1, TRaw w1 lo b gN gO T T.cnt → Keep lo w w1 → Calls Tryd.prog 28 #[vold T gO, .int .u64 key] w1 fun r w' => r = .returned (.bool false) ∧ TRaw w' lo b gN gO T T.cnt ∧ Keep lo w w' := by
    intro w1 h1 hk1
    cases hj : T.o with
    | none =>
      rw [vold_none hj]
      refine (take_none key w1).mono ?_
      rintro r w' ⟨rfl, rfl⟩
      exact ⟨rfl, h1, hk1⟩
    | some j =>
      rw [vold_some hj]
      have ho := h1.old j hj
      have hjk := ho.jk
      have k30 := h.k30
      have hfo : fndB j T.bo key = none := by rw [← fo_some hj]; exact hf2.2
      refine (take_at ho.arr (by omega) (by omega) key hk (ht.keep hk1 hlo)).mono ?_
      intro r w' hp
      have e1 := hp.1
      rw [hfo] at e1
      obtain ⟨r1, r2⟩ := h1.remO hk hj hp
      rw [remO_self hfo] at r1
      exact ⟨e1, r1, hk1.trans r2⟩
  have HEND : Hid (∀ w1, TRaw w1 lo b gN gO T T.cnt → Keep lo w w1 → CallsD Tryd.prog 24 #[.pointer (some ⟨b, 0, none⟩)] .returning w1 fun e u' w' => u' = .returning ∧ (e = .returned (.tuple #[]) ∧ DropPost w lo b T key (.returned (.bool false)) w')) :=
    Lib.hid fun w1 h1 hk1 => no_end h hG ht hlo hm h1 hk1 hf
  have c0 := h.c0
  obtain ⟨A, m, e1, -⟩ := vold_slice T gO
  have HT := Lib.hid htk2
  have HT3 := Lib.hid htk3
  have HV := Lib.hid e1
  clear h hG hk ht hlo hm hf hf2 htk htk2 htk3 k3 e1
  generalize 2 ^ T.k = n at *
  go_enter_defers Tryd.func15, Tryd.ntmps15
  go_wp2_with fail
  refine HT.out.mono ?_
  rintro r w1 ⟨rfl, h1, hk1⟩
  have c1 := h1.c1
  rw [HV.out] at c1
  have c := HT3.out w1 h1 hk1
  rw [HV.out] at c
  have HC := Lib.hid c
  clear h1 hk1 c c0 HT HT3
  go_wp2_with fail
  refine HC.out.mono ?_
  rintro r w2 ⟨rfl, h2, hk2⟩
  have H2 := Lib.hid h2
  have HK2 := Lib.hid hk2
  clear h2 hk2 c1
  go_wp2_with fail
  refine leaves_cons (f := 24) (args := #[.pointer (some ⟨b, 0, none⟩)]) (by simp) (by simp [go_sem]) ?_
  refine (HEND.out _ H2.out HK2.out).mono ?_
  rintro r u' w3 ⟨rfl, rfl, hp3⟩
  refine ⟨_, results_tmp rfl _ _ _, ?_⟩
  exact hp3
set_option maxHeartbeats 1000000 in
theorem drop_old (h : TAt w lo b gN gO T) (hG : Good T) (key : Int) (hk : Wd key) (ht : Tab w) (hlo : 1 < lo) (hm : T.mv + 4 ≤ 1099511627776) (hf : fndB T.k T.bn key = none) {j : Nat} (hj : T.o = some j) {e : Ent} (hfo : fndB j T.bo key = some e) :
    Calls Tryd.prog 15 #[.pointer (some ⟨b, 0, none⟩), .int .u64 key] w (DropPost w lo b T key) := by
  have k3 := h.k3
  have k30 := h.k30
  have hjk := (h.old j hj).jk
  have hfn : T.fnd key = some e := by unfold Tb.fnd; rw [hf, fo_some hj, hfo]; rfl
  have htk := take_at h.now (by omega) h.k30 key hk ht
  have htk2 : Calls Tryd.prog 28 #[.slice (some ⟨gN, 0, none⟩) (2 ^ T.k) (2 ^ T.k), .int .u64 key] w fun r w' => r = .returned (.bool false) ∧ TRaw w' lo b gN gO T T.cnt ∧ Keep lo w w' := htk.mono fun r w' hp => by
    have e1 := hp.1
    rw [hf] at e1
    obtain ⟨r1, r2⟩ := h.raw.remN hk hp
    rw [remN_self h hf] at r1
    exact ⟨e1, r1, r2⟩
  have htk3 : ∀ w1, TRaw w1 lo b gN gO T T.cnt → Keep lo w w1 → Calls Tryd.prog 28 #[.slice (some ⟨gO, 0, none⟩) (2 ^ j) (2 ^ j), .int .u64 key] w1 fun r w' => r = .returned (.bool true) ∧ TRaw w' lo b gN gO (T.remO j key) T.cnt ∧ Keep lo w w' := by
    intro w1 h1 hk1
    have ho := h1.old j hj
    refine (take_at ho.arr (by omega) (by omega) key hk (ht.keep hk1 hlo)).mono ?_
    intro r w' hp
    have e1 := hp.1
    rw [hfo] at e1
    obtain ⟨r1, r2⟩ := h1.remO hk hj hp
    exact ⟨e1, r1, hk1.trans r2⟩
  have htr := tot_rem (h.old j hj).arr hk (by omega) (by omega)
  rw [hfo] at htr
  simp only [Option.isSome_some, if_true] at htr
  have hcpos : 1 ≤ T.cnt := by have := h.tot; rw [so_some hj] at this; omega
  have HEND : Hid (∀ w1, TRaw w1 lo b gN gO (T.remO j key) T.cnt → Keep lo w w1 → CallsD Tryd.prog 24 #[.pointer (some ⟨b, 0, none⟩)] .returning (w1.setCell ⟨b, 3, none⟩ (.int .i64 ((T.cnt : Int) - 1))) fun e u' w' => u' = .returning ∧ (e = .returned (.tuple #[]) ∧ DropPost w lo b T key (.returned (.bool true)) w')) := by
    refine Lib.hid fun w1 r1 r2 => ?_
    obtain ⟨s1, s2⟩ := r1.setCnt (T.cnt - 1)
    rw [show ((T.cnt - 1 : Nat) : Int) = (T.cnt : Int) - 1 by omega] at s1 s2
    have h3 : ({ T.remO j key with cnt := T.cnt - 1 } : Tb).cnt = tot T.bn (2 ^ T.k) + tot (T.remO j key).bo (T.remO j key).so := by
      have := h.tot
      rw [so_some hj] at this
      rw [so_some (T := T.remO j key) hj]
      show T.cnt - 1 = _ + tot (put T.bo _ _) _
      omega
    have r3 := s1.done h3 (by have := h.cb; omega)
    have := gone_end (key := key) h hG ht hlo hm r3 (r2.trans s2) (fun k2 hk2 => ?_) (by rw [look_some hfn]; show T.cnt - 1 + 1 = _; omega) rfl rfl rfl ?_
    · rw [look_some hfn] at this; exact this
    · show (fndB T.k T.bn k2).or ((T.remO j key).fo k2) = _
      rw [remO_fo hj]
      by_cases hkk : k2 = key
      · subst hkk; rw [if_pos rfl, if_pos rfl, hf]; rfl
      · rw [if_neg hkk, if_neg hkk]; rfl
    · rw [pot_some hj, pot_some (T := { T.remO j key with cnt := T.cnt - 1 }) hj]
      show 8 * tot (put T.bo _ _) _ + (2 ^ j - T.nx) ≤ _
      omega
  have c0 := h.c0
  have cb := h.cb
  have HT := Lib.hid htk2
  have HT3 := Lib.hid htk3
  have HV : Hid (vold T gO = .slice (some ⟨gO, 0, none⟩) (2 ^ j) (2 ^ j)) := Lib.hid (vold_some hj)
  clear h hG hk ht hlo hm hf hfo hfn hj hjk htk htk2 htk3 k3 k30 htr
  generalize 2 ^ T.k = n at *
  generalize 2 ^ j = n2 at *
  go_enter_defers Tryd.func15, Tryd.ntmps15
  go_wp2_with fail
  refine HT.out.mono ?_
  rintro r w1 ⟨rfl, h1, hk1⟩
  have c1 := h1.c1
  rw [HV.out] at c1
  have HC := Lib.hid (HT3.out w1 h1 hk1)
  clear h1 hk1 c0 HT HT3
  go_wp2_with fail
  refine HC.out.mono ?_
  rintro r w2 ⟨rfl, h2, hk2⟩
  have c3 := h2.c3
  have f3 := h2.free 3
  have H2 := Lib.hid h2
  have HK2 := Lib.hid hk2
  clear h2 hk2 c1
  go_wp2_with (refine wpList_store_cell rfl 3 _ _ rfl rfl rfl rfl size3 c3 f3 ?_)
  refine leaves_cons (f := 24) (args := #[.pointer (some ⟨b, 0, none⟩)]) (by simp) (by simp [go_sem]) ?_
  refine (HEND.out _ H2.out HK2.out).mono ?_
  rintro r u' w3 ⟨rfl, rfl, hp3⟩
  refine ⟨_, results_tmp rfl _ _ _, ?_⟩
  exact hp3
theorem drop_is (h : IsT w lo b T) (key : Int) (hk : Wd key) (ht : Tab w) (hlo : 1 < lo) (hm : T.mv + 4 ≤ 1099511627776) :
    Calls Tryd.prog 15 #[.pointer (some ⟨b, 0, none⟩), .int .u64 key] w (DropPost w lo b T key) := by
  obtain ⟨⟨gN, gO, h1⟩, hG⟩ := h
  cases hf : fndB T.k T.bn key with
  | some e => exact drop_now h1 hG key hk ht hlo hm hf
  | none =>
    cases hj : T.o with
    | none => exact drop_no h1 hG key hk ht hlo hm (by unfold Tb.fnd; rw [hf, fo_none hj]; rfl)
    | some j =>
      cases hfo : fndB j T.bo key with
      | some e => exact drop_old h1 hG key hk ht hlo hm hf hj hfo
      | none => exact drop_no h1 hG key hk ht hlo hm (by unfold Tb.fnd; rw [hf, fo_some hj, hfo]; rfl)

/-! ### a new table -/
def Tb.new : Tb := ⟨3, fun _ => [], none, fun _ => [], 0, 0, 0⟩
def newW (w : World) : World := (w.alloc (.cells (madeCells #[.pointer none] 8) 59)).alloc (.cells #[.slice (some ⟨w.heap.size, 0, none⟩) 8 8, .slice none 0 0, .int .i64 0, .int .i64 0, .int .u64 0] 49)
set_option maxHeartbeats 400000 in
theorem new_raw (w : World) : Calls Tryd.prog 7 #[] w fun r w' => r = .returned (.pointer (some ⟨w.heap.size + 1, 0, none⟩)) ∧ w' = newW w := by
  have hmk := run_make_row' (P := Tryd.prog) 47 59 (.pointer none) 8 Tryd.underlying47 info59 rfl .i64 .i64 8 (by omega) (by omega)
  have hmk : ∀ w : World, (Instr.makeSlice 47 (.int .i64 8) (.int .i64 8)).run Tryd.prog w = .ok (.slice (some ⟨w.heap.size, 0, none⟩) 8 8) (w.alloc (.cells (madeCells #[.pointer none] 8) 59)) := hmk
  unfold newW
  go_enter Tryd.func7, Tryd.ntmps7
  go_wp2
  go_ret
  exact ⟨rfl, rfl⟩
theorem new_at (w : World) (lo : Nat) (hl : lo ≤ w.heap.size) : IsT (newW w) lo (w.heap.size + 1) Tb.new ∧ w.grownBy (newW w) none ∧ (newW w).heap.size = w.heap.size + 2 := by
  have hb : (newW w).heap[w.heap.size + 1]? = some (.cells #[.slice (some ⟨w.heap.size, 0, none⟩) 8 8, .slice none 0 0, .int .i64 0, .int .i64 0, .int .u64 0] 49) := by
    have := heap_alloc_new (w.alloc (.cells (madeCells #[.pointer none] 8) 59)) (.cells #[.slice (some ⟨w.heap.size, 0, none⟩) 8 8, .slice none 0 0, .int .i64 0, .int .i64 0, .int .u64 0] 49)
    rwa [World.size_alloc] at this
  have hg : (newW w).heap[w.heap.size]? = some (.cells (madeCells #[.pointer none] 8) 59) := (Below.heap_alloc _ _ _ (by simp)).trans (heap_alloc_new w _)
  refine ⟨⟨⟨w.heap.size, 0, ⟨by decide, by decide, by omega, hb, made_arr (k := 3) hl hg, fun j hj => by (cases hj), fun h => absurd rfl h, ?_, by decide, by decide, by decide⟩⟩, ⟨by decide, fun j hj => by cases hj⟩⟩, ?_, by simp [newW]⟩
  · show 0 = tot (fun _ => []) (2 ^ 3) + 0
    rw [tot_none (fun _ _ => rfl)]
  · exact grown_trans (World.grownBy_alloc _ _ none) (World.grownBy_alloc _ _ none)
theorem new_is (w : World) : Calls Tryd.prog 7 #[] w fun r w' => r = .returned (.pointer (some ⟨w.heap.size + 1, 0, none⟩)) ∧ IsT w' w.heap.size (w.heap.size + 1) Tb.new ∧ w.grownBy w' none := by
  refine (new_raw w).mono ?_
  rintro r w' ⟨rfl, rfl⟩
  obtain ⟨h1, h2, _⟩ := new_at w w.heap.size (Nat.le_refl _)
  exact ⟨rfl, h1, h2⟩
theorem new_look (key : Int) : Tb.new.look key = none := rfl
end
end Go.Proofs.YtnhjnciadmgkeaaDoor
