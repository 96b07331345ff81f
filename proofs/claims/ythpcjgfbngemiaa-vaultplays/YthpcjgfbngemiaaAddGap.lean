/-
  Bytes become a gap: addGap.
-/
import Derived.Test.YthpcjgfbngemiaaJoin
namespace Go.Proofs.Ythpcjgfbngemiaa
open Go.ChangeShapes Go.WideShapes Go.ChangeAt Go.RowKit
set_option linter.unusedVariables false
set_option maxRecDepth 100000
/-- the gap at i and the one behind it, made one if they touch -/
def jn (l : List (Int × Int)) (i : Int) : List (Int × Int) :=
  if i < 0 then l else match l[i.toNat]?, l[i.toNat + 1]? with
    | some p, some q => if p.1 + p.2 = q.1 then (l.set i.toNat (p.1, p.2 + q.2)).eraseIdx (i.toNat + 1) else l
    | _, _ => l
theorem jn_len (l : List (Int × Int)) (i : Int) : (jn l i).length ≤ l.length := by
  unfold jn
  split
  · exact Nat.le_refl _
  · split
    · split
      · rw [List.length_eraseIdx, List.length_set]; split <;> omega
      · exact Nat.le_refl _
    · exact Nat.le_refl _
theorem GB.jn {l : List (Int × Int)} (h : GB l) (i : Int) : GB (jn l i) := by
  unfold Ythpcjgfbngemiaa.jn
  split
  · exact h
  · split
    · rename_i p q hp hq
      split
      · rename_i he
        intro r hr
        have hr := List.mem_of_mem_eraseIdx hr
        rcases List.mem_or_eq_of_mem_set hr with hr | rfl
        · exact h r hr
        · have := h.get hp
          have := h.get hq
          dsimp only
          omega
      · exact h
    · exact h
theorem GB.ins {l : List (Int × Int)} (h : GB l) (i : Nat) {x : Int × Int} (hx : 0 ≤ x.1 ∧ 0 ≤ x.2 ∧ x.1 + x.2 ≤ 1048576) : GB (ins l i x) := by
  intro r hr
  unfold Ythpcjgfbngemiaa.ins at hr
  rcases List.mem_append.1 hr with hr | hr
  · exact h r (List.mem_of_mem_take hr)
  · rcases List.mem_cons.1 hr with rfl | hr
    · exact hx
    · exact h r (List.mem_of_mem_drop hr)
section
variable {w : World} {lo b : Nat} {h : Hd} {V : Vl}
theorem join_at (x : VAt w lo b h V) (hB : GB V.gp) (hn : V.gp.length ≤ 1000000) (i : Int) (hi : -1 ≤ i ∧ i ≤ 1000000) :
    Calls Try.prog 38 #[.pointer (some ⟨b, 0, none⟩), .int .i64 i] w (GapPost w lo b h V (jn V.gp i)) := by
  unfold jn
  by_cases h0 : i < 0
  · rw [if_pos h0]; exact join_none x i (.inl h0) (by omega)
  · rw [if_neg h0]
    obtain ⟨k, rfl⟩ : ∃ k : Nat, i = (k : Int) := ⟨i.toNat, by omega⟩
    simp only [Int.toNat_natCast]
    cases hp : V.gp[k]? with
    | none => exact join_none x _ (.inr (by have := List.getElem?_eq_none_iff.1 hp; omega)) (by omega)
    | some p =>
      cases hq : V.gp[k + 1]? with
      | none => exact join_none x _ (.inr (by have := List.getElem?_eq_none_iff.1 hq; omega)) (by omega)
      | some q =>
        dsimp only
        by_cases he : p.1 + p.2 = q.1
        · rw [if_pos he]; exact join_one x hB hn hp hq he
        · rw [if_neg he]; exact join_apart x hB hn hp hq he
/-- the gaps behind addGap -/
def AddPost (w : World) (lo b : Nat) (h : Hd) (V : Vl) (a m : Int) (e : Ending) (w' : World) : Prop :=
  ∃ i, SP V.gp a i ∧ GapPost w lo b h V (jn (jn (ins V.gp i (a, m)) (i : Int)) ((i : Int) - 1)) e w'
set_option maxHeartbeats 400000 in
theorem addGap_at (x : VAt w lo b h V) (hB : GB V.gp) (hr : V.gp.Pairwise fun a b => a.1 < b.1) (hn : V.gp.length ≤ 999999) (a m : Int) (ha : 0 ≤ a ∧ 0 < m ∧ a + m ≤ 1048576) :
    Calls Try.prog 21 #[.pointer (some ⟨b, 0, none⟩), .int .i64 a, .int .i64 m] w (AddPost w lo b h V a m) := by
  have hm : (m == 0) = false := beq_eq_false_iff_ne.2 (by omega)
  obtain ⟨A, c, e⟩ := owns_slice x.rG
  have c4 := x.c4
  rw [e] at c4
  have hgr := x.rG
  rw [e] at hgr
  have HS := Lib.hid (search_at hgr hr a (by omega))
  have HX := Lib.hid x
  have HE := Lib.hid e
  have HB := Lib.hid hB
  obtain ⟨n, HN⟩ : ∃ n, Hid (V.gp.length = n) := ⟨_, Lib.hid rfl⟩
  rw [HN.out] at c4 HS hn
  have HG := Lib.hid hgr
  clear x e hB hr hgr
  go_enter Try.func21, Try.ntmps21
  go_wp2_with fail
  refine HS.out.mono ?_
  rintro e w1 ⟨i, bb, rfl, hsp, hg1⟩
  have HSP := Lib.hid hsp
  have hil : i ≤ n := by rw [← HN.out]; exact hsp.le
  have HX1 := Lib.hid (HX.out.kept hg1)
  have HG1 := Lib.hid hg1
  have hga := World.grownBy_alloc w1 (.cells #[.int .i64 a, .int .i64 m] 76) none
  have hq := heap_alloc_new w1 (.cells #[.int .i64 a, .int .i64 m] 76)
  have hxa := HX1.out.kept hga
  have hins := insert_at (w := w1.alloc (.cells #[.int .i64 a, .int .i64 m] 76)) (lo := lo) (A := A) (c := c) (l := V.gp) (x := (a, m)) (i := i) (q := w1.heap.size) (by have := hxa.rG; rw [HE.out] at this; exact this) hq (by
    have hl := HX1.out.rG
    rw [HE.out] at hl
    cases A with
    | none => exact .inl rfl
    | some ad => exact .inr ⟨ad, rfl, fun e => by have := (hl.lt ad.block rfl).2; omega⟩) (by rw [HN.out]; omega) hsp.le (by have := hxa.own_lo (.inl rfl); omega)
  rw [HN.out] at hins
  have HI := Lib.hid hins
  have HXA := Lib.hid hxa
  have d4 := HX1.out.c4
  rw [HE.out, HN.out] at d4
  clear hsp hg1 hga hq hxa hins c4 HS
  go_wp2_with fail
  refine HI.out.mono ?_
  rintro e w2 ⟨g2, c2, rfl, hg2, hgw, hft⟩
  have HLI : Hid ((ins V.gp i (a, m)).length = n + 1) := Lib.hid (by rw [ins_len (by rw [HN.out]; exact hil), HN.out])
  obtain ⟨hv, hst⟩ := HXA.out.setG (w1 := w2) (l := ins V.gp i (a, m)) (v := .slice (some ⟨g2, 0, none⟩) (ins V.gp i (a, m)).length c2) (by rw [HE.out, HN.out]; exact hgw) hg2 (by
    rcases hft with hft | hft
    · exact .inl (by rw [HE.out, HN.out]; exact hft)
    · exact .inr (fun k hk => by injection hk with hk; have hk : g2 = k := hk; omega))
  have hb2 : w2.heap[b]? = (w1.alloc (.cells #[.int .i64 a, .int .i64 m] 76)).heap[b]? := hgw.block b HXA.out.blt (fun e => by
    exact HX.out.neG (by rw [HE.out, HN.out]; exact e.symm) rfl)
  have e4 : w2.cell? ⟨b, 4, none⟩ = some (.slice A n c) := by
    have := HXA.out.c4
    rw [HE.out, HN.out] at this
    exact (World.cell?_of_block hb2).trans this
  have f4 : w2.frozen? ⟨b, 4, none⟩ = false := (World.frozen?_of_block hb2).trans (HXA.out.free 4)
  rw [HLI.out] at hv hst ⊢
  have HV := Lib.hid hv
  have HST : Hid (Stp b h { h with vG := .slice (some ⟨g2, 0, none⟩) (n + 1) c2 } w (w2.setCell ⟨b, 4, none⟩ (.slice (some ⟨g2, 0, none⟩) (n + 1) c2))) := Lib.hid (((Stp.of_new HG1.out).trans (Stp.of_new (World.grownBy_alloc w1 _ none))).trans hst)
  clear hv hst hg2 hgw hft hb2 d4 HI
  go_wp2_with fail
  clear e4 f4
  generalize w2.setCell ⟨b, 4, none⟩ (.slice (some ⟨g2, 0, none⟩) (n + 1) c2) = w3 at *
  generalize hH1 : ({ h with vG := .slice (some ⟨g2, 0, none⟩) (n + 1) c2 } : Hd) = h1 at HV HST
  have HH1 := Lib.hid hH1
  clear hH1
  have hB1 : GB (ins V.gp i (a, m)) := HB.out.ins i ⟨ha.1, by omega, ha.2.2⟩
  refine (join_at HV.out hB1 (by show (ins V.gp i (a, m)).length ≤ _; rw [HLI.out]; omega) (i : Int) (by omega)).mono ?_
  rintro e w4 ⟨rfl, v4, hv4, hs4⟩
  have HV4 := Lib.hid hv4
  have HS4 := Lib.hid (HST.out.trans hs4)
  clear hv4 hs4 HV HST
  go_wp2_with fail
  refine (join_at HV4.out (show GB (jn (ins V.gp i (a, m)) (i : Int)) from hB1.jn _) (by have := jn_len (ins V.gp i (a, m)) i; rw [HLI.out] at this; show (jn (ins V.gp i (a, m)) i).length ≤ _; omega) ((i : Int) - 1) (by omega)).mono ?_
  rintro e w5 ⟨rfl, v5, hv5, hs5⟩
  have HV5 := Lib.hid hv5
  have HS5 := Lib.hid (HS4.out.trans hs5)
  clear hv5 hs5 HV4 HS4
  go_wp2
  go_end0
  have hh : h1 = { h with vG := .slice (some ⟨g2, 0, none⟩) (n + 1) c2 } := HH1.out.symm
  have h5 := HV5.out
  have s5 := HS5.out
  rw [hh] at h5 s5
  exact ⟨i, HSP.out, rfl, v5, h5, s5⟩
theorem addGap_zero (a : Int) (p : Value) : Calls Try.prog 21 #[p, .int .i64 a, .int .i64 0] w fun e w' => e = .returned (.tuple #[]) ∧ w = w' := by
  go_enter Try.func21, Try.ntmps21
  go_wp2
  refine bodyPost_ret (results_none rfl _ _ _) rfl ?_
  exact ⟨rfl, rfl⟩
end
end Go.Proofs.Ythpcjgfbngemiaa
