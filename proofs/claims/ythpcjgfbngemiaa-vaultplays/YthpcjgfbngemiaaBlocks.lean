/-
  All blocks, by their places: Blocks.
-/
import Derived.Test.YthpcjgfbngemiaaSortB
import Derived.Shelf.SlSortCmp.NoneTotal
namespace Go.Proofs.Ythpcjgfbngemiaa
open Go.ChangeShapes Go.WideShapes Go.ChangeAt Go.RowKit
set_option linter.unusedVariables false
set_option maxRecDepth 100000
theorem info59 : (Try.prog.info? 59).map (fun i => (i.zero, i.size, i.bytes)) = some (some (.agg #[.int .i64 0, .int .i64 0, .int .i64 0]), 3, 24) := by kernel_rfl
theorem sort_none (p : Option Addr) (cap : Nat) (fv : Value) (w : World) : Calls Try.prog 32 #[.slice p 0 cap, fv] w fun e w' => e = .returned (.tuple #[]) ∧ w' = w := AnyF.slices_SortFunc_none sortB p cap fv w
/-- one block more at a row's end -/
theorem app59 {w : World} {base k cap : Nat} {A : Option Addr} {ps : List (Int × Int × Int)} (ho : w.ownsRow base 59 3 (.slice A k cap) k (rvals kenc ps)) (hk : k ≤ 1000000) (hb : base ≤ w.heap.size) (x : Int × Int × Int) :
    ∃ g' cap' w1, (Builtin.append_ #[49, 49] 49 #[.slice A k cap, .slice (some ⟨w.heap.size, 0, none⟩) 1 1]).run Try.prog (w.alloc (.cells #[.int .i64 x.1, .int .i64 x.2.1, .int .i64 x.2.2] 59)) = .ok (.slice (some ⟨g', 0, none⟩) (k + 1) cap') w1 ∧
      w1.ownsRow base 59 3 (.slice (some ⟨g', 0, none⟩) (k + 1) cap') (k + 1) (rvals kenc (ps ++ [x])) ∧ (∀ w0 : World, w0.heap.size ≤ base → w0.grownBy w none → w0.grownBy w1 none) ∧ (w.alloc (.cells #[.int .i64 x.1, .int .i64 x.2.1, .int .i64 x.2.2] 59)).grownBy w1 (Value.slice A k cap).ownBlock ∧ ((Value.slice A k cap).ownBlock = some g' ∨ w.heap.size < g') := by
  obtain ⟨i0, hi, hz0, hz1, hz2⟩ := info_parts info59
  obtain ⟨g', cap', w1, hrun, ho1, hgr, hft⟩ := run_append_foot (P := Try.prog) (w.alloc (.cells #[.int .i64 x.1, .int .i64 x.2.1, .int .i64 x.2.2] 59)) base 49 49 59 i0 (.agg #[.int .i64 0, .int .i64 0, .int .i64 0]) 3 24 Try.underlying49 hi hz0 hz1 hz2 rfl (by decide) (.slice A k cap) k (rvals kenc ps) (ho.alloc _) ⟨w.heap.size, 0, none⟩ 1 (kenc x) rfl
    (fun j u hu => by
      have hc := fun o => cell_of_head (heap_alloc_new w (.cells #[.int .i64 x.1, .int .i64 x.2.1, .int .i64 x.2.2] 59)) o
      have hj : j < 3 := (List.getElem?_eq_some_iff.1 hu).1
      obtain rfl | rfl | rfl : j = 0 ∨ j = 1 ∨ j = 2 := by omega
      · simp [kenc] at hu; subst hu; exact hc 0
      · simp [kenc] at hu; subst hu; exact hc 1
      · simp [kenc] at hu; subst hu; exact hc 2) (kenc_one x) (by unfold maxLen; omega) (by omega) (by simp; omega)
  have hgg := grown_trans (grown_any (World.grownBy_alloc w (.cells #[.int .i64 x.1, .int .i64 x.2.1, .int .i64 x.2.2] 59) none) (Value.slice A k cap).ownBlock) hgr
  refine ⟨g', cap', w1, hrun, by rw [rvals_append]; simpa [rvals] using ho1, fun w0 h0 h1 => ?_, hgr, hft.imp id (fun h => by simp at h; omega)⟩
  exact ⟨hgg.os.trans h1.os, hgg.tape.trans h1.tape, hgg.output.trans h1.output, Nat.le_trans h1.size hgg.size, fun j hj hn => (hgg.block j (Nat.lt_of_lt_of_le hj h1.size) (fun e => by have := (ho.lt j e.symm).1; omega)).trans (h1.block j hj hn)⟩
def alive (l : List (Int × Int × Int)) : List (Int × Int × Int) := l.filter fun p => !(p.1 == -1)
section
variable {w : World} {lo b : Nat} {h : Hd} {V : Vl}
def BlocksPost (w : World) (l : List (Int × Int × Int)) (e : Ending) (w' : World) : Prop :=
  ∃ A c l', e = .returned (.slice A l'.length c) ∧ l'.Perm (alive l) ∧ l'.Pairwise (fun a b => ¬ ltB b a) ∧ w'.ownsRow w.heap.size 59 3 (.slice A l'.length c) l'.length (rvals kenc l') ∧ w.grownBy w' none
theorem alive_take {l : List (Int × Int × Int)} {i : Nat} {p : Int × Int × Int} (hp : l[i]? = some p) : alive (l.take (i + 1)) = if p.1 = -1 then alive (l.take i) else alive (l.take i) ++ [p] := by
  unfold alive
  rw [List.take_add_one, hp, Option.toList_some, List.filter_append]
  by_cases h : p.1 = -1 <;> simp [h]
set_option maxHeartbeats 1000000 in
theorem blocks_at (x : VAt w lo b h V) (hn : V.bk.length ≤ 100000) : Calls Try.prog 20 #[.pointer (some ⟨b, 0, none⟩)] w (BlocksPost w V.bk) := by
  have HX := Lib.hid x
  obtain ⟨A, c, e⟩ := owns_slice x.rK
  have HE := Lib.hid e
  have c2 := x.c2
  rw [e] at c2
  obtain ⟨n, HN⟩ : ∃ n, Hid (V.bk.length = n) := ⟨_, Lib.hid rfl⟩
  rw [HN.out] at c2 hn
  clear x e
  go_enter Try.func20, Try.ntmps20
  go_wp2_with fail
  clear c2
  go_loopg [3, 13] n (fun m u v wr => ∃ (i k : Nat) (A2 : Option Addr) (c2 : Nat), u = .slice A2 k c2 ∧ v = .int .i64 (i : Int) ∧ i ≤ n ∧ Hid (m + i = n) ∧ Hid (wr.ownsRow w.heap.size 59 3 (.slice A2 k c2) k (rvals kenc (alive (V.bk.take i))) ∧ k = (alive (V.bk.take i)).length ∧ w.grownBy wr none))
  case atStart => exact ⟨0, 0, none, 0, rfl, by go_num, by omega, Lib.hid (by omega), Lib.hid ⟨World.ownsRow_nil _ _ _ _, rfl, ⟨rfl, rfl, rfl, Nat.le_refl _, fun _ _ _ => rfl⟩⟩⟩
  case round =>
    obtain ⟨i, k, A2, c2, rfl, rfl, hi, HM, HS⟩ := hrel
    have hk : k ≤ 1000000 := by
      have h1 := HS.out.2.1
      have h2 : (alive (V.bk.take i)).length ≤ (V.bk.take i).length := List.length_filter_le _ _
      have h3 : (V.bk.take i).length ≤ i := List.length_take_le _ _
      omega
    by_cases hlt : i < n
    · have hltI : (i : Int) < (n : Int) := by omega
      obtain ⟨p, hp⟩ : ∃ p, V.bk[i]? = some p := ⟨_, List.getElem?_eq_getElem (by rw [HN.out]; exact hlt)⟩
      obtain ⟨g, c', e', k0, k1, k2⟩ := (HX.out.kept HS.out.2.2).kcells hp
      rw [HE.out] at e'
      injection e' with e1 _ e3
      subst e1 e3
      have hix := ix49 g i n c hlt
      have hld := ld59 k0 k1 k2
      have HAT := Lib.hid (alive_take hp)
      obtain ⟨pa, pb, pc⟩ := p
      dsimp only at k0 k1 k2 hld HAT
      have hga := World.grownBy_alloc wr (.cells #[.int .i64 pa, .int .i64 pb, .int .i64 pc] 59) none
      clear hp
      by_cases hpa : pa = -1
      · subst hpa
        have HS2 : Hid ((wr.alloc (.cells #[.int .i64 (-1), .int .i64 pb, .int .i64 pc] 59)).ownsRow w.heap.size 59 3 (.slice A2 k c2) k (rvals kenc (alive (V.bk.take (i + 1)))) ∧ k = (alive (V.bk.take (i + 1))).length ∧ w.grownBy (wr.alloc (.cells #[.int .i64 (-1), .int .i64 pb, .int .i64 pc] 59)) none) := Lib.hid (by
          rw [HAT.out, if_pos rfl]
          exact ⟨HS.out.1.alloc _, HS.out.2.1, grown_trans HS.out.2.2 hga⟩)
        clear hga
        go_wp2_with fail
        go_roundg (n - (i + 1))
        case measure => have := HM.out; omega
        case rel => exact ⟨i + 1, k, _, _, rfl, by go_num, by omega, Lib.hid (by omega), HS2⟩
      · have hpb : (pa != -1) = true := by simpa using hpa
        obtain ⟨g', cap', w3, hrun, ho1, hgr, _, _⟩ := app59 (w := wr.alloc (.cells #[.int .i64 pa, .int .i64 pb, .int .i64 pc] 59)) (HS.out.1.alloc _) hk (by have := HS.out.2.2.size; simp; omega) (pa, pb, pc)
        rw [World.size_alloc] at hrun
        have HRun := Lib.hid hrun
        have HS2 : Hid (w3.ownsRow w.heap.size 59 3 (.slice (some ⟨g', 0, none⟩) (k + 1) cap') (k + 1) (rvals kenc (alive (V.bk.take (i + 1)))) ∧ k + 1 = (alive (V.bk.take (i + 1))).length ∧ w.grownBy w3 none) := Lib.hid (by
          rw [HAT.out, if_neg hpa]
          exact ⟨ho1, by rw [List.length_append, ← HS.out.2.1]; rfl, hgr w (Nat.le_refl _) (grown_trans HS.out.2.2 hga)⟩)
        clear hga hrun ho1 hgr hpa
        go_wp2_with (at_builtin; refine append_run rfl (.tmp 20) (.tmp 22) 49 rfl rfl rfl HRun.out ?_)
        go_roundg (n - (i + 1))
        case measure => have := HM.out; omega
        case rel => exact ⟨i + 1, k + 1, _, _, rfl, by go_num, by omega, Lib.hid (by omega), HS2⟩
    · obtain rfl : i = n := by omega
      have hltI : ¬ ((i : Int) < (i : Int)) := by omega
      have hall : V.bk.take i = V.bk := List.take_of_length_le (by rw [HN.out]; exact Nat.le_refl _)
      have hS := HS.out
      rw [hall] at hS
      obtain ⟨ho, hkl, hg⟩ := hS
      by_cases hk0 : k = 0
      · subst hk0
        have hal : alive V.bk = [] := List.eq_nil_of_length_eq_zero hkl.symm
        have HFin : Hid (BlocksPost w V.bk (.returned (.slice A2 0 c2)) wr) := Lib.hid ⟨A2, c2, [], rfl, by rw [hal], List.Pairwise.nil, by rw [hal] at ho; exact ho, hg⟩
        have HC := Lib.hid (sort_none A2 c2 (.func (.func 33) #[] #[]) wr)
        clear ho hkl hg hal
        go_wp2_with fail
        refine HC.out.mono ?_
        rintro e w' ⟨rfl, rfl⟩
        go_wp2
        go_ret
        exact HFin.out
      · obtain ⟨g, cap', e⟩ := owns_some ho (by omega)
        injection e with e1 e2 e3
        subst e1 e3
        rw [hkl] at ho
        have hs := sort_at ho (by omega)
        rw [← hkl] at hs
        have HC := Lib.hid hs
        have HLo : Hid (w.heap.size ≤ g) := Lib.hid (ho.lt g rfl).1
        have HKL := Lib.hid hkl
        have HG := Lib.hid hg
        clear ho hkl hg hs e2
        go_wp2_with fail
        refine HC.out.mono ?_
        rintro e w' ⟨rfl, l', hp, hsr, ho', hg'⟩
        have hll : l'.length = k := by rw [hp.length_eq, HKL.out]
        have HFin : Hid (BlocksPost w V.bk (.returned (.slice (some ⟨g, 0, none⟩) k c2)) w') := Lib.hid ⟨some ⟨g, 0, none⟩, c2, l', by rw [hll], hp, hsr, by rw [hll, HKL.out]; exact ho', grown_new HG.out hg' HLo.out⟩
        clear hp hsr ho' hg' hll
        go_wp2
        go_ret
        exact HFin.out
end
end Go.Proofs.Ythpcjgfbngemiaa
