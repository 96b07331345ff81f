/-
  The document's example, call by call.
-/
import Derived.Test.YthpcjgfbngemiaaDrop
import Derived.Lib.SlBytesConst
namespace Go.Proofs.Ythpcjgfbngemiaa
open Go.ChangeShapes Go.WideShapes Go.ChangeAt Go.RowKit
set_option linter.unusedVariables false
set_option maxRecDepth 100000
/-- a call that answers e and leaves the vault V' -/
def Goes (w : World) (lo b : Nat) (h : Hd) (V' : Vl) (v : Value) (e : Ending) (w' : World) : Prop := e = .returned v ∧ ∃ h', VAt w' lo b h' V' ∧ Stp b h h' w w'
section
variable {w : World} {lo b : Nat} {h : Hd} {V : Vl}
theorem Goes.of_eq {V1 V2 : Vl} {v : Value} {e : Ending} {w' : World} (x : Goes w lo b h V1 v e w') (he : V1 = V2) : Goes w lo b h V2 v e w' := he ▸ x
/-- a value in a new block of bytes -/
theorem new_src (w : World) (ys : List Int) (o : Obj) {fr : Nat × Nat} (ho : o = .cells (rvals benc ys).toArray 5 fr) : ∀ j u, (rvals benc ys)[j]? = some u → (w.alloc o).cell? ⟨w.heap.size, 0 + j, none⟩ = some u := fun j u hu => by
  subst ho
  rw [World.cell?_alloc_mark, Nat.zero_add]
  simpa using hu
/-- Put from a gap, with a new number -/
theorem put_gn (x : VAt w lo b h V) {ys : List Int} {m i ga gm : Nat} {o : Obj} {fr : Nat × Nat} (ho : o = .cells (rvals benc ys).toArray 5 fr) (hm : 0 < m) (hy : ys.length = m) (hfr : V.fr = []) (hgi : V.gp[i]? = some ((ga : Int), (gm : Int))) (hkm : m ≤ gm)
    (hfirst : ∀ j p, j < i → V.gp[j]? = some p → ¬ (m : Int) ≤ p.2) (hgl : V.gp.length ≤ 1000000) (hend : ga + gm ≤ 1048576) (hbs : V.bs.length ≤ 1048576) (hroom : V.used + m ≤ V.room) (hr6 : V.room ≤ 1048576) (hk : V.bk.length ≤ 999999) (c : Nat) :
    Calls Try.prog 9 #[.pointer (some ⟨b, 0, none⟩), .slice (some ⟨w.heap.size, 0, none⟩) m c] (w.alloc o) (Goes w lo b h { V with gp := takeG V.gp i ga gm m, bs := over (V.bs ++ List.replicate (ga + m - V.bs.length) 0) ga ys, used := V.used + m, bk := (V.bk ++ [(0, 0, 0)]).set V.bk.length ((V.bk.length : Int), (ga : Int), (m : Int)) } (.tuple #[.int .i64 (V.bk.length : Int), .int .i64 0])) := by
  have hga := World.grownBy_alloc w o none
  have hx := x.kept hga
  refine (put_at hx (V1 := { V with gp := takeG V.gp i ga gm m, bs := V.bs ++ List.replicate (ga + m - V.bs.length) 0 }) (P := fun V3 => V3 = { V with gp := takeG V.gp i ga gm m, bs := over (V.bs ++ List.replicate (ga + m - V.bs.length) 0) ga ys, used := V.used + m, bk := V.bk ++ [(0, 0, 0)] }) (num := V.bk.length) (at' := ga) (o := 0) hm hy (new_src w ys o ho) (fun hn => by have := (x.own_lo hn).2; omega) (by simp) hroom hr6 (fun w' hx' => ?_) ?_ ?_ rfl (fun w2 h2 hx2 => ?_) (fun V3 hV3 => ?_)).mono ?_
  · refine (takeB_gap hx' hm hgi hkm hfirst hgl hend hbs).mono ?_
    rintro e w1 ⟨he, vB, vG, hv, hs⟩
    exact ⟨he, _, hv, hs⟩
  · show ga + m ≤ (V.bs ++ List.replicate (ga + m - V.bs.length) 0).length
    rw [List.length_append, List.length_replicate]; omega
  · show (V.bs ++ List.replicate (ga + m - V.bs.length) 0).length ≤ 1048576
    rw [List.length_append, List.length_replicate]; omega
  · refine (takeN_new hx2 hfr hk).mono ?_
    rintro e w3 ⟨he, v, hv, hs⟩
    exact ⟨he, _, _, rfl, hv, hs⟩
  · subst hV3
    show V.bk.length < (V.bk ++ [(0, 0, 0)]).length ∧ (V.bk ++ [(0, 0, 0)]).length ≤ 1000000
    rw [List.length_append]; simp; omega
  · rintro e w' ⟨he, h3, V3, rfl, hv, hs⟩
    exact ⟨he, h3, hv, (Stp.of_new hga).trans hs⟩
def A0 : Vl := ⟨10, [], [], [], [(0, 10)], 0, 0, 0⟩
def A1 : Vl := ⟨10, [97, 97, 97, 97], [(0, 0, 4)], [], [(4, 6)], 4, 0, 0⟩
def A2 : Vl := ⟨10, [97, 97, 97, 97, 98, 98, 98], [(0, 0, 4), (1, 4, 3)], [], [(7, 3)], 7, 0, 0⟩
def A3 : Vl := ⟨10, [97, 97, 97, 97, 98, 98, 98, 99, 99, 99], [(0, 0, 4), (1, 4, 3), (2, 7, 3)], [], [], 10, 0, 0⟩
def A4 : Vl := ⟨10, [97, 97, 97, 97, 98, 98, 98, 99, 99, 99], [(-1, 0, 4), (1, 4, 3), (2, 7, 3)], [0], [(0, 4)], 6, 0, 0⟩
def A5 : Vl := ⟨10, [97, 97, 97, 97, 98, 98, 98, 99, 99, 99], [(-1, 0, 4), (1, 4, 3), (-1, 7, 3)], [0, 2], [(0, 4), (7, 3)], 3, 0, 0⟩
def A6 : Vl := ⟨10, [98, 98, 98, 100, 100, 100, 100, 100, 100, 99], [(0, 3, 6), (1, 0, 3), (-1, 7, 3)], [2], [(9, 1)], 9, 1, 3⟩
theorem put1 (x : VAt w lo b h A0) : Calls Try.prog 9 #[.pointer (some ⟨b, 0, none⟩), .slice (some ⟨w.heap.size, 0, none⟩) 4 4] (w.alloc (.cells #[.int .u8 97, .int .u8 97, .int .u8 97, .int .u8 97] 5 (4, 5))) (Goes w lo b h A1 (.tuple #[.int .i64 0, .int .i64 0])) :=
  (put_gn x (ys := [97, 97, 97, 97]) (m := 4) (i := 0) (ga := 0) (gm := 10) rfl (by decide) rfl rfl rfl (by decide) (fun j p hj => absurd hj (Nat.not_lt_zero j)) (by decide) (by decide) (by decide) (by decide) (by decide) (by decide) 4).mono fun e w' hg => hg.of_eq rfl
theorem put2 (x : VAt w lo b h A1) : Calls Try.prog 9 #[.pointer (some ⟨b, 0, none⟩), .slice (some ⟨w.heap.size, 0, none⟩) 3 3] (w.alloc (.cells #[.int .u8 98, .int .u8 98, .int .u8 98] 5 (3, 4))) (Goes w lo b h A2 (.tuple #[.int .i64 1, .int .i64 0])) :=
  (put_gn x (ys := [98, 98, 98]) (m := 3) (i := 0) (ga := 4) (gm := 6) rfl (by decide) rfl rfl rfl (by decide) (fun j p hj => absurd hj (Nat.not_lt_zero j)) (by decide) (by decide) (by decide) (by decide) (by decide) (by decide) 3).mono fun e w' hg => hg.of_eq rfl
theorem put3 (x : VAt w lo b h A2) : Calls Try.prog 9 #[.pointer (some ⟨b, 0, none⟩), .slice (some ⟨w.heap.size, 0, none⟩) 3 3] (w.alloc (.cells #[.int .u8 99, .int .u8 99, .int .u8 99] 5 (3, 4))) (Goes w lo b h A3 (.tuple #[.int .i64 2, .int .i64 0])) :=
  (put_gn x (ys := [99, 99, 99]) (m := 3) (i := 0) (ga := 7) (gm := 3) rfl (by decide) rfl rfl rfl (by decide) (fun j p hj => absurd hj (Nat.not_lt_zero j)) (by decide) (by decide) (by decide) (by decide) (by decide) (by decide) 3).mono fun e w' hg => hg.of_eq rfl
theorem drop0 (x : VAt w lo b h A3) : Calls Try.prog 12 #[.pointer (some ⟨b, 0, none⟩), .int .i64 0] w (Goes w lo b h A4 (.bool true)) := by
  have hd := drop_at (d := fun _ => 0) (n := 0) ⟨x, rfl⟩ (fun i h1 h2 => absurd h2 (Nat.not_lt_zero i)) (by decide) (i := 0) (a := 0) (m := 4) rfl (by decide) (by decide) (by decide) (by decide) (by decide) (fun p hp => by simp [A3] at hp) List.Pairwise.nil (by decide)
  refine hd.mono ?_
  rintro e w' ⟨he, h', d', gi, hsp, hh, hperm, hv, hs⟩
  obtain rfl : gi = 0 := by have := hsp.le; simpa [A3] using this
  have h0 : d' 0 = 0 := by
    have : (vals d' 1) = [d' 0] := rfl
    rw [this] at hperm
    have := hperm.eq_singleton
    simpa [vals] using this
  refine ⟨he, h', ?_, hs⟩
  have e1 : vals d' (0 + 1) = [0] := by show [d' 0] = [0]; rw [h0]
  rw [e1] at hv
  exact hv
theorem drop2 (x : VAt w lo b h A4) : Calls Try.prog 12 #[.pointer (some ⟨b, 0, none⟩), .int .i64 2] w (Goes w lo b h A5 (.bool true)) := by
  have hd := drop_at (d := fun _ => 0) (n := 1) ⟨x, rfl⟩ (fun i h1 h2 => by omega) (by decide) (i := 2) (a := 7) (m := 3) rfl (by decide) (by decide) (by decide) (by decide) (by decide) (fun p hp => by simp [A4] at hp; subst hp; decide) (by simp [A4]) (by decide)
  refine hd.mono ?_
  rintro e w' ⟨he, h', d', gi, hsp, hh, hperm, hv, hs⟩
  obtain rfl : gi = 1 := by
    have h1 := hsp.le
    have h2 : ¬ gi = 0 := fun e => by
      have := hsp.hi 0 (0, 4) (by omega) rfl
      exact this (by decide)
    simp [A4] at h1; omega
  have h01 : d' 0 = 0 ∧ d' 1 = 2 := by
    have e2 : vals d' (1 + 1) = [d' 0, d' 1] := rfl
    rw [e2] at hperm
    have hle := hh 1 (by omega) (by omega)
    have hm0 : d' 0 ∈ [((2 : Nat) : Int), 0] := hperm.mem_iff.1 (by simp)
    have hm1 : d' 1 ∈ [((2 : Nat) : Int), 0] := hperm.mem_iff.1 (by simp)
    have hs0 : (0 : Int) ∈ [d' 0, d' 1] := hperm.mem_iff.2 (by simp [vals])
    have hs2 : (2 : Int) ∈ [d' 0, d' 1] := hperm.mem_iff.2 (by simp)
    simp at hm0 hm1 hs0 hs2 hle
    omega
  refine ⟨he, h', ?_, hs⟩
  have e1 : vals d' (1 + 1) = [0, 2] := by show [d' 0, d' 1] = [0, 2]; rw [h01.1, h01.2]
  rw [e1] at hv
  exact hv
end
end Go.Proofs.Ythpcjgfbngemiaa
