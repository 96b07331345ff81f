/-
  Keys: all keys, rising.
-/
import Derived.Test.YtnhjnciadmgkeaaDoorAppend
namespace Go.Proofs.YtnhjnciadmgkeaaDoor
open Go.ChangeShapes Go.WideShapes Go.ChangeAt Go.RowKit
set_option linter.unusedVariables false

theorem apk_none (v : Value) (A : Option Addr) (m c : Nat) (w : World) : Calls Tryd.prog 22 #[.slice none 0 0, .slice A m c] w fun r w' => r = .returned (.slice A m c) ∧ w = w' := by
  go_enter Tryd.func22, Tryd.ntmps22
  go_wp2_with fail
  refine wp_loop_rounds 1 ?_
  rw [rounds_succ]
  go_wp2
  go_ret
  exact ⟨rfl, rfl⟩
theorem KR.grown {w0 w w' : World} (h : KR w0.heap.size w w') (h0 : w0.grownBy w none) : w0.grownBy w' none :=
  ⟨h.os.trans h0.os, h.tape.trans h0.tape, h.output.trans h0.output, Nat.le_trans h0.size h.size, fun k hk hr => (h.block k (Nat.lt_of_lt_of_le hk h0.size) (.inl hk)).trans (h0.block k hk hr)⟩
/-- the row that is owned, as the sort sees it -/
theorem owns_dat {w : World} {base q kk c : Nat} {zs : List Int} (ho : w.ownsRow base 23 1 (.slice (some ⟨q, 0, none⟩) kk c) kk (uvals zs)) (hk : kk = zs.length) : DAt w q kk (fun i => zs[i]?.getD 0) ∧ base ≤ q := by
  rcases ho.2 with ⟨h, _⟩ | ⟨g, cap, cur, e, hg, hgb, hnc, hcm, hcs, htake⟩
  · cases h
  · injection e with e1 e2 e3
    injection e1 with e1
    injection e1 with e1
    subst e1
    have hsz : kk ≤ cur.size := by rw [hcs]; omega
    refine ⟨⟨cur, hgb, hsz, fun i hi => ?_⟩, hg⟩
    have h1 : (cur.toList.take (kk * 1))[i]? = (uvals zs)[i]? := by rw [htake]
    rw [List.getElem?_take, if_pos (by omega), Array.getElem?_toList] at h1
    rw [h1]
    unfold uvals
    rw [List.getElem?_map]
    show Option.map (Value.int .u64) zs[i]? = some (Value.int .u64 (zs[i]?.getD 0))
    rw [List.getElem?_eq_getElem (show i < zs.length by omega)]; rfl
theorem vals_get (zs : List Int) : vals (fun i => zs[i]?.getD 0) zs.length = zs := by
  refine List.ext_getElem? fun i => ?_
  unfold vals
  rw [List.getElem?_map]
  by_cases h : i < zs.length
  · rw [List.getElem?_range h, List.getElem?_eq_getElem h]; simp [h]
  · rw [List.getElem?_eq_none (by simpa using h), List.getElem?_eq_none (by omega)]; rfl
/-- all keys of a table, in no order -/
def Tb.keys (T : Tb) : List Int := kcat T.bn (2 ^ T.k) ++ kcat T.bo T.so
theorem Tb.keys_len {w : World} {lo b gN gO : Nat} {T : Tb} (h : TAt w lo b gN gO T) : T.keys.length = T.cnt := by
  unfold Tb.keys
  rw [List.length_append, kcat_len, kcat_len]; exact h.tot.symm
section
variable {w : World} {lo b gN gO : Nat} {T : Tb}
theorem old_keys (h : TAt w lo b gN gO T) {base q kk c : Nat} {zs : List Int} {w1 : World} (hk1 : KR base w w1) (hlen : kk = zs.length) (ho : w1.ownsRow base 23 1 (.slice (some ⟨q, 0, none⟩) kk c) kk (uvals zs)) (hb : base ≤ w1.heap.size) (hn : zs.length + tot T.bo T.so ≤ 900000) :
    Calls Tryd.prog 22 #[vold T gO, .slice (some ⟨q, 0, none⟩) kk c] w1 fun r w' => ∃ q' c' k2, r = .returned (.slice (some ⟨q', 0, none⟩) k2 c') ∧ k2 = (zs ++ kcat T.bo T.so).length ∧ w'.ownsRow base 23 1 (.slice (some ⟨q', 0, none⟩) k2 c') k2 (uvals (zs ++ kcat T.bo T.so)) ∧ KR base w1 w' := by
  cases hj : T.o with
  | none =>
    rw [vold_none hj, so_none hj]
    refine (apk_none (.slice none 0 0) _ _ _ w1).mono ?_
    rintro r w' ⟨rfl, rfl⟩
    exact ⟨q, c, kk, rfl, by simpa [kcat] using hlen, by simpa [kcat] using ho, KR.refl _ _⟩
  | some j =>
    rw [so_some hj] at hn ⊢
    rw [vold_some hj]
    have h0 := h.old j hj
    exact apk_at (h0.arr.kr hk1) (by have := h0.jk; have := h.k30; omega) q kk c zs hlen ho hb hn
set_option maxHeartbeats 2000000 in
theorem keys_at (h : TAt w lo b gN gO T) (hc : T.cnt < 65536) :
    Calls Tryd.prog 11 #[.pointer (some ⟨b, 0, none⟩)] w fun r w' => ∃ q c kk d', r = .returned (.slice (some ⟨q, 0, none⟩) kk c) ∧ kk = T.cnt ∧ DAt w' q kk d' ∧ Srt 0 kk d' ∧ (vals d' kk).Perm T.keys ∧ w.heap.size ≤ q ∧ w.grownBy w' none := by
  obtain ⟨i0, hi, hz0, hz1, hz2⟩ := info_parts info23
  obtain ⟨w1, hrun, ho1, hg1⟩ := run_make_own (P := Tryd.prog) w w.heap.size 34 23 i0 (.int .u64 0) 1 Tryd.underlying34 hi hz0 hz1 .i64 .i64 T.cnt (by rw [hz2]; omega) (by unfold maxLen; omega) (Nat.le_refl _)
  have c3 := h.c3
  have hT1 := h.kept hg1
  have c0 := hT1.c0
  have htot := h.tot
  have hk1 : KR w.heap.size w w1 := ⟨hg1.os, hg1.tape, hg1.output, hg1.size, fun k hk _ => hg1.block k hk (by simp)⟩
  have H1 := Lib.hid (apk_at hT1.now h.k30 w.heap.size 0 T.cnt [] rfl ho1 hg1.size (by simp; omega))
  have HT := Lib.hid h
  have HK1 := Lib.hid hk1
  have HG1 := Lib.hid hg1
  have HTOT := Lib.hid htot
  obtain ⟨n, hn⟩ : ∃ n, n = 2 ^ T.k := ⟨_, rfl⟩
  rw [← hn] at c0 H1
  have HN := Lib.hid hn
  obtain ⟨A, m, eV, -⟩ := vold_slice T gO
  have HV := Lib.hid eV
  have HT1 := Lib.hid hT1
  clear h hT1 hk1 hg1 ho1 htot hn eV hi hz0 hz1 hz2
  go_enter Tryd.func11, Tryd.ntmps11
  go_wp2_with fail
  refine H1.out.mono ?_
  rintro r w2 ⟨q2, c2, k2, rfl, hk2, ho2, hkr2⟩
  have hkr : KR w.heap.size w w2 := HK1.out.trans hkr2
  have hT2 : TAt w2 lo b gN gO T := HT.out.stay fun x hx => hkr.block x (HT.out.lt_of hx) (.inr fun cur f e => by
    obtain ⟨_, cur', t, f', e1, e2⟩ := HT.out.blk_own hx
    rw [e] at e1
    cases e1
    cases e2)
  have c1 := hT2.c1
  rw [HV.out] at c1
  have hold := old_keys HT.out hkr (zs := kcat T.bn (2 ^ T.k)) (q := q2) (kk := k2) (c := c2) (by rw [← HN.out]; simpa using hk2) (by rw [← HN.out]; simpa using ho2) hkr.size (by rw [kcat_len]; have := HTOT.out; omega)
  rw [HV.out] at hold
  have HOLD := Lib.hid hold
  have HKR := Lib.hid hkr
  clear hold hk2 ho2 hkr2 hkr hT2 c0 c3 hrun H1
  go_wp2_with fail
  refine HOLD.out.mono ?_
  rintro r w3 ⟨q3, c3, k3, rfl, hk3, ho3, hkr3⟩
  obtain ⟨hd3, hq3⟩ := owns_dat ho3 hk3
  have hk3' : k3 = T.cnt := by rw [hk3, ← Tb.keys_len HT.out]; rfl
  have HS := Lib.hid (sort_at (cap := c3) hd3 (by omega))
  have HKR3 := Lib.hid (HKR.out.trans hkr3)
  have HQ := Lib.hid hq3
  have HK3 := Lib.hid (⟨hk3, hk3'⟩ : _ ∧ _)
  clear hd3 hq3 hk3 ho3 hkr3 hk3' HOLD c1
  go_wp2_with fail
  refine HS.out.mono ?_
  rintro r w4 ⟨rfl, d', hsp, hsr⟩
  have HSP := Lib.hid hsp
  have HSR := Lib.hid hsr
  clear hsp hsr HS
  go_wp2
  go_ret
  refine ⟨q3, c3, k3, d', rfl, HK3.out.2, HSP.out.at_, HSR.out, ?_, HQ.out, ?_⟩
  · have hp := HSP.out.pr.perm
    have e : vals (fun i => (kcat T.bn (2 ^ T.k) ++ kcat T.bo T.so)[i]?.getD 0) k3 = kcat T.bn (2 ^ T.k) ++ kcat T.bo T.so := by rw [HK3.out.1]; exact vals_get _
    rw [e] at hp
    exact hp
  · have g3 := HKR3.out.grown (World.grownBy.refl w none)
    have hb := HSP.out.sw
    exact ⟨hb.os.trans g3.os, hb.tape.trans g3.tape, hb.output.trans g3.output, Nat.le_trans g3.size hb.size, fun k hk hr => (hb.block k (Nat.lt_of_lt_of_le hk g3.size) (by have := HQ.out; show ¬ k = q3; omega)).trans (g3.block k hk hr)⟩
end
end Go.Proofs.YtnhjnciadmgkeaaDoor
