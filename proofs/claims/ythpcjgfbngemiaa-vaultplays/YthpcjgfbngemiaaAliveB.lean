/-
  The document's example: the Put for which the vault is packed.
-/
import Derived.Test.YthpcjgfbngemiaaAliveA
namespace Go.Proofs.Ythpcjgfbngemiaa
open Go.ChangeShapes Go.WideShapes Go.ChangeAt Go.RowKit
set_option linter.unusedVariables false
set_option maxRecDepth 100000
section
variable {w : World} {lo b : Nat} {h : Hd} {V : Vl}
theorem one_list {l : List (Int × Int × Int)} (hp : l.Perm (alive A5.bk)) : l = [(1, 4, 3)] := by
  have e : alive A5.bk = [(1, 4, 3)] := by decide
  rw [e] at hp
  exact List.perm_singleton.1 hp
def A5p : Vl := ⟨10, [98, 98, 98, 97, 98, 98, 98, 99, 99, 99], [(-1, 0, 4), (1, 0, 3), (-1, 7, 3)], [0, 2], [(3, 7)], 3, 1, 3⟩
theorem packA5 : packF [(1, 4, 3)] A5 = A5p := by rfl
theorem okA5 : PkOk [(1, 4, 3)] 0 A5 ∧ (pkF [(1, 4, 3)] 0 A5).2 ≤ A5.room := by
  refine ⟨⟨fun hn => absurd (by decide) hn, fun _ => ⟨1, 4, 3, rfl, rfl, by decide, by decide, by decide, by decide, by decide, trivial⟩⟩, by decide⟩
theorem put4 (x : VAt w lo b h A5) : Calls Try.prog 9 #[.pointer (some ⟨b, 0, none⟩), .slice (some ⟨w.heap.size, 0, none⟩) 6 6] (w.alloc (.cells #[.int .u8 100, .int .u8 100, .int .u8 100, .int .u8 100, .int .u8 100, .int .u8 100] 5 (6, 7))) (Goes w lo b h A6 (.tuple #[.int .i64 0, .int .i64 0])) := by
  have hga := World.grownBy_alloc w (.cells #[.int .u8 100, .int .u8 100, .int .u8 100, .int .u8 100, .int .u8 100, .int .u8 100] 5 (6, 7)) none
  have hx := x.kept hga
  refine (put_at hx (V1 := { A5p with gp := [(9, 1)] }) (P := fun V3 => V3 = { A6 with bk := [(-1, 0, 4), (1, 0, 3), (-1, 7, 3)] }) (num := 0) (at' := 3) (o := 0) (m := 6) (ys := [100, 100, 100, 100, 100, 100]) (by decide) rfl (new_src w _ _ rfl) (fun hn => by have := (x.own_lo hn).2; omega) (by simp) (by decide) (by decide) (fun w' hx' => ?_) (by decide) (by decide) rfl (fun w2 h2 hx2 => ?_) (fun V3 hV3 => ?_)).mono ?_
  · refine (takeB_pack hx' (k := 6) (by decide) (fun p hp => by simp [A5] at hp; rcases hp with rfl | rfl <;> decide) (by decide) (by decide) (by decide) (by decide) (fun l hp _ => by rw [one_list hp]; exact okA5) (fun l hp _ => by rw [one_list hp, packA5]; exact ⟨3, 7, rfl, by decide, by decide, by decide⟩)).mono ?_
    rintro e w1 ⟨l, ga, gm, hp, hs, hgp, hkm, he, vB, vG, hv, hst⟩
    obtain rfl := one_list hp
    rw [packA5] at hgp hv
    have e1 : ((3 : Int), (7 : Int)) = (((ga : Nat) : Int), ((gm : Nat) : Int)) := by
      have := hgp
      simp only [A5p, List.cons.injEq, and_true] at this
      exact this
    injection e1 with e2 e3
    obtain rfl : ga = 3 := by omega
    obtain rfl : gm = 7 := by omega
    exact ⟨he, _, hv, hst⟩
  · refine (takeN_free (d := fun i => if i = 0 then 0 else 2) (n := 1) ⟨hx2, rfl⟩ (fun i h1 h2 => by
      obtain rfl : i = 1 := by omega
      decide) (by decide)).mono ?_
    rintro e w3 ⟨he, v, d', hv, hs, hh, hperm⟩
    have h2 : d' 0 = 2 := by
      have e2 : vals (fun i => if i = 0 then (0 : Int) else 2) (1 + 1) = [0, 2] := rfl
      have e3 : vals d' 1 = [d' 0] := rfl
      rw [e2] at hperm
      have := (List.perm_cons _).1 (show ([0, 2] : List Int).Perm (0 :: [d' 0]) from hperm)
      have := List.perm_singleton.1 this.symm
      simpa using this
    have e1 : vals d' 1 = [2] := by show [d' 0] = [2]; rw [h2]
    rw [e1] at hv
    exact ⟨he, _, _, rfl, hv, hs⟩
  · subst hV3
    exact ⟨by decide, by decide⟩
  · rintro e w' ⟨he, h3, V3, rfl, hv, hs⟩
    exact ⟨he, h3, hv, (Stp.of_new hga).trans hs⟩
theorem two_list {l : List (Int × Int × Int)} (hp : l.Perm (alive A6.bk)) (hs : l.Pairwise (fun a b => ¬ ltB b a)) : l = [(1, 0, 3), (0, 3, 6)] := by
  have e : alive A6.bk = [(0, 3, 6), (1, 0, 3)] := by decide
  rw [e] at hp
  have hl := hp.length_eq
  match l, hl with
  | [p, q], _ =>
    have h1 : p ∈ [((0 : Int), (3 : Int), (6 : Int)), (1, 0, 3)] := hp.mem_iff.1 (by simp)
    have h2 : q ∈ [((0 : Int), (3 : Int), (6 : Int)), (1, 0, 3)] := hp.mem_iff.1 (by simp)
    have h3 := (List.pairwise_cons.1 hs).1 q (by simp)
    have m1 : ((0 : Int), (3 : Int), (6 : Int)) ∈ [p, q] := hp.mem_iff.2 (by simp)
    have m2 : ((1 : Int), (0 : Int), (3 : Int)) ∈ [p, q] := hp.mem_iff.2 (by simp)
    simp only [List.mem_cons, List.not_mem_nil, or_false] at h1 h2 m1 m2
    rcases h1 with rfl | rfl <;> rcases h2 with rfl | rfl
    · rcases m2 with m | m <;> cases m
    · exact absurd (by decide) h3
    · rfl
    · rcases m1 with m | m <;> cases m
end
end Go.Proofs.Ythpcjgfbngemiaa
