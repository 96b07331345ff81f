/-
  The walk of the law that what any Puts and Drops make of a table is as the document says.
-/
import Derived.Test.YtnhjnciadmgkeaaDoorPlay
import Derived.Deep.RegionHeld3
namespace Go.Proofs.YtnhjnciadmgkeaaDoor
open Go.ChangeShapes Go.WideShapes Go.ChangeAt Go.RowKit
set_option linter.unusedVariables false
set_option maxRecDepth 100000
theorem vals_sorted {d : Nat → Int} {n : Nat} (h : Srt 0 n d) : (vals d n).Pairwise (· ≤ ·) := by
  unfold vals
  refine List.pairwise_map.2 (List.Pairwise.imp_of_mem (R := (· < ·)) ?_ List.pairwise_lt_range)
  intro a b ha hb hab
  exact h a b (Nat.zero_le _) (Nat.le_of_lt hab) (List.mem_range.1 hb)
/-- both rows of keys -/
theorem both_keys {w w1 w2 : World} {lo b : Nat} {T : Tb} {ps : List (Int × Int)} (h : IsT w lo b T) (hr : RL T ps) {n q c : Nat} {d : Nat → Int} (hn : n = ps.length) (hd : DAt w1 q n d) (hs : Srt 0 n d) (hp : (vals d n).Perm T.keys) (hg : w1.grownBy w2 none)
    {base : Nat} {A' : Option Addr} {c' : Nat} (ho : w2.ownsRow base 23 1 (.slice A' n c') n (uvals (ps.map (·.1)))) (h1000 : n ≤ 1000) {w3 : World} (hg3 : w2.grownBy w3 none) :
    Calls Tryd.prog 10 #[.slice (some ⟨q, 0, none⟩) n c, .slice A' n c'] w3 fun r w' => r = .returned (.bool true) ∧ ∃ m, w' = w3.drewN m := by
  obtain ⟨⟨gN, gO, ht⟩, _⟩ := h
  have hk := hr.keys ht hp (vals_sorted hs)
  refine same_at (d := d) (e := fun i => (ps.map (·.1))[i]?.getD 0) (fun _ => ⟨q, rfl, (hd.kept hg).kept hg3⟩) (fun h0 => ?_) (fun i hi => ?_) (by omega)
  · obtain ⟨g, cap, e⟩ := owns_some ho (by omega)
    injection e with e1 e2 e3
    subst e1
    exact ⟨g, rfl, ((owns_dat ho (by simp [hn])).1).kept hg3⟩
  · have e1 : (vals d n)[i]? = some (d i) := by
      unfold vals
      rw [List.getElem?_map, List.getElem?_range hi]
      rfl
    rw [hk] at e1
    simp only [e1, Option.getD_some]
def LawPost (w : World) (e : Ending) (w' : World) : Prop := e = .returned (.bool true) ∧ w.grownBy w' none
set_option maxHeartbeats 1000000 in
theorem plays_many (AA : Option Addr) (len cap : Nat) (key0 : Int) (w : World) (htab : Tab w) (h150 : 150 < len) :
    Calls Tryd.prog 3 #[.slice AA len cap, .int .u64 key0] w (LawPost w) := by
  have hd : decide (150 < (len : Int)) = true := by simp; omega
  have HAl := Lib.hid (alive_any w htab)
  clear htab
  go_enter Tryd.func3, Tryd.ntmps3
  go_wp2_with fail
  refine HAl.out.mono ?_
  rintro e w1 ⟨rfl, hg⟩
  have HG := Lib.hid hg
  clear hg
  go_wp2
  go_ret
  exact ⟨rfl, HG.out⟩
set_option maxHeartbeats 1000000 in
theorem plays_walk (AA : Option Addr) (len cap : Nat) (acts : List ActV) (key0 : Int) (w : World) (htab : Tab w) (hlen : acts.length = len) (hok : ∀ a ∈ acts, a.ok) (hA : ActsAt w w.heap.size AA acts) (h150 : len ≤ 150) (hk0 : Wd key0) :
    Calls Tryd.prog 3 #[.slice AA len cap, .int .u64 key0] w (LawPost w) := by
  have hd : decide (150 < (len : Int)) = false := by simp; omega
  have HNew := Lib.hid (new_is w)
  have HTab := Lib.hid htab
  have HPlay : Hid (∀ w', w.grownBy w' none → IsT w' w.heap.size (w.heap.size + 1) Tb.new → Calls Tryd.prog 8 #[.pointer (some ⟨w.heap.size + 1, 0, none⟩), .agg #[.slice none 0 0, .int .i64 8], .slice AA len cap, .int .u64 key0] w' (PlayPost w' w.heap.size (w.heap.size + 1))) :=
    Lib.hid fun w' hg hT => play_at w' w.heap.size (w.heap.size + 1) AA len cap acts key0 hlen hok (hA.keep (Keep.of_new hg)) h150 hT (htab.kept hg) htab.size hg.size hk0
  clear htab hlen hok hA hk0
  go_enter Tryd.func3, Tryd.ntmps3
  go_wp2_with fail
  refine HNew.out.mono ?_
  rintro e w1 ⟨rfl, hT1, hg1⟩
  have HT1 := Lib.hid hT1
  have HG1 := Lib.hid hg1
  clear hT1 hg1 HNew
  go_wp2_with fail
  refine (rnew_at w1).mono ?_
  rintro e w2 ⟨rfl, hg2⟩
  have HG2 := Lib.hid (grown_trans HG1.out hg2)
  have HT2 := Lib.hid (HT1.out.kept hg2)
  clear hg2 HG1 HT1
  go_wp2_with fail
  refine (HPlay.out w2 HG2.out HT2.out).mono ?_
  rintro e w5 ⟨A, n, c, s, T, ps, rfl, hT, hr, hp, hn, hmv, hkp⟩
  have HG5 := Lib.hid (hkp.grown HG2.out (Nat.le_refl _))
  have HT5 := Lib.hid hT
  have HR := Lib.hid hr
  have HP5 := Lib.hid hp
  clear hT hr hp hkp HPlay HT2 HG2 hmv
  have hga := World.grownBy_alloc w5 (.cells #[.slice A n c, .int .i64 s] 29) none
  have HGa := Lib.hid (grown_trans HG5.out hga)
  have HTa := Lib.hid (HT5.out.kept hga)
  have HPa := Lib.hid (HP5.out.kept hga)
  have HB := Lib.hid (heap_alloc_new w5 (.cells #[.slice A n c, .int .i64 s] 29))
  obtain ⟨B, HBB⟩ : ∃ B, Hid (w5.heap.size = B) := ⟨_, Lib.hid rfl⟩
  clear hga HG5 HT5 HP5
  go_wp2_with fail
  rw [HBB.out] at HB ⊢
  generalize w5.alloc (.cells #[.slice A n c, .int .i64 s] 29) = w6 at *
  obtain ⟨b0, b1, _, _, _⟩ := cells2 HB.out
  have HK : Hid (∀ w', w6.grownBy w' none → Calls Tryd.prog 11 #[.pointer (some ⟨w.heap.size + 1, 0, none⟩)] w' fun r w'' => ∃ q1 c1 d1, r = .returned (.slice (some ⟨q1, 0, none⟩) n c1) ∧ Hid (DAt w'' q1 n d1 ∧ Srt 0 n d1 ∧ (vals d1 n).Perm T.keys ∧ w6.grownBy w'' none)) := Lib.hid fun w' hg => by
    obtain ⟨⟨gN, gO, ht⟩, _⟩ := HTa.out
    have hc : T.cnt = n := by rw [HR.out.cnt, HPa.out.2]
    refine (keys_at (ht.kept hg) (by omega)).mono ?_
    rintro r w' ⟨q1, c1, kk, d', rfl, hkk, h1, h2, h3, h4, h5⟩
    rw [hc] at hkk
    subst hkk
    exact ⟨q1, c1, d', rfl, Lib.hid ⟨h1, h2, h3, grown_trans hg h5⟩⟩
  have HRK : Hid (∀ w', w6.grownBy w' none → Calls Tryd.prog 12 #[.agg #[.slice A n c, .int .i64 s]] w' fun r w'' => ∃ A' c', r = .returned (.slice A' n c') ∧ Hid (w''.ownsRow w'.heap.size 23 1 (.slice A' n c') n (uvals (ps.map (·.1))) ∧ w'.grownBy w'' none)) := Lib.hid fun w' hg =>
    (rkeys_at (HPa.out.kept hg) s (by omega)).mono fun r w'' ⟨A', c', h1, h2, h3⟩ => ⟨A', c', h1, Lib.hid ⟨h2, h3⟩⟩
  go_region_held3 (fun w' => w'.cell? ⟨B, 0, none⟩ = some (.slice A n c) ∧ w'.cell? ⟨B, 1, none⟩ = some (.int .i64 s)) (first | exact ⟨b0, b1⟩ | exact ⟨k0, k1⟩ | exact ⟨m0, m1⟩ | exact ⟨o0, o1⟩ | go_keep)
    (first | (go_at_call 11; refine (HK.out w6.drew ⟨rfl, rfl, rfl, Nat.le_refl _, fun _ _ _ => rfl⟩).mono ?_; rintro e wk ⟨q1, c1, d1, rfl, Hk⟩; obtain ⟨k0, k1, _, _, _⟩ := cells2 (kept2 HB.out Hk.out.2.2.2)) | (go_at_call 12; refine (HRK.out wk Hk.out.2.2.2).mono ?_; rintro e wm ⟨A2, c2, rfl, Hm⟩; obtain ⟨m0, m1, _, _, _⟩ := cells2 (kept2 (kept2 HB.out Hk.out.2.2.2) Hm.out.2)) | (go_at_call 10; refine (both_keys HTa.out HR.out (HPa.out.2) Hk.out.1 Hk.out.2.1 Hk.out.2.2.1 Hm.out.2 Hm.out.1 (by omega) (World.grownBy.refl wm none)).mono ?_; rintro e wn ⟨rfl, qn, rfl⟩) | (go_at_call 6; refine (alive_any (wm.drewN qn) (HTab.out.kept (grown_trans HGa.out (grown_trans Hk.out.2.2.2 (grown_trans Hm.out.2 (gdrew wm qn)))))).mono ?_; rintro e wo ⟨rfl, hgo⟩; obtain ⟨o0, o1, _, _, _⟩ := cells2 (kept2 (kept2 (kept2 HB.out Hk.out.2.2.2) Hm.out.2) (grown_trans (gdrew wm qn) hgo)); have HGo := Lib.hid hgo; clear hgo))
  go_wp2
  go_ret
  exact ⟨rfl, grown_trans HGa.out (grown_trans Hk.out.2.2.2 (grown_trans Hm.out.2 (grown_trans (gdrew wm qn) HGo.out)))⟩
theorem lookupPlays_law (A : Option Addr) (len cap : Nat) (acts : List ActV) (key : Int) (W : World) (hlen : acts.length = len) (hok : ∀ a ∈ acts, a.ok) (hA : ActsAt W W.heap.size A acts) (wk : (Lit.int .u64 key).wf = true) (hT : Tab W) :
    Calls Tryd.prog 3 #[.slice A len cap, .int .u64 key] W fun e W' => e = .returned (.bool true) ∧ Below W.heap.size W W' := by
  have hk : Wd key := by have := bounds_u64 wk; constructor <;> omega
  have h : Calls Tryd.prog 3 #[.slice A len cap, .int .u64 key] W (LawPost W) := by
    by_cases h150 : len ≤ 150
    · exact plays_walk A len cap acts key W hT hlen hok hA h150 hk
    · exact plays_many A len cap key W hT (by omega)
  refine h.mono ?_
  rintro e W' ⟨he, hg⟩
  exact ⟨he, (Below.refl _ W).grown hg (Nat.le_refl _) (by simp)⟩
end Go.Proofs.YtnhjnciadmgkeaaDoor
