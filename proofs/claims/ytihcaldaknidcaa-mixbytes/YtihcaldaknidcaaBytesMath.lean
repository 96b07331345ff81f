/-
  Plain facts on bytes that are stirred, one behind the other.
-/
import Derived.Test.YtihcaldaknidcaaMath
namespace Go.Proofs.Ytihcaldaknidcaa
open Go Go.RowKit

def bytesI (zs : List Int) : Int := zs.foldl (fun h c => mixI (IntKind.u64.wrap (h + c))) 11400714819323198485
def rbytesI (zs : List Int) : Int := zs.foldl (fun h c => refI (IntKind.u64.wrap (h + c))) 11400714819323198485

theorem wrap_wf (n : Int) : (Lit.int .u64 (IntKind.u64.wrap n)).wf = true := by
  have := IntKind.wrap_u64 n
  exact WalkArith.wf_u64 (by omega)
theorem mixI_wf (n : Int) (h : (Lit.int .u64 n).wf = true) : (Lit.int .u64 (mixI n)).wf = true := by
  obtain ⟨x, rfl⟩ := as_bv n h
  rw [mix_bv]
  have := (mixB x).isLt
  exact WalkArith.wf_u64 (by omega)
theorem fold_eq (zs : List Int) : ∀ h, zs.foldl (fun h c => mixI (IntKind.u64.wrap (h + c))) h = zs.foldl (fun h c => refI (IntKind.u64.wrap (h + c))) h := by
  induction zs with
  | nil => intro h; rfl
  | cons z r ih => intro h; rw [List.foldl_cons, List.foldl_cons, ih, mix_eq_ref _ (wrap_wf _)]
theorem bytes_eq (zs : List Int) : bytesI zs = rbytesI zs := fold_eq zs _
theorem bytesI_snoc (zs : List Int) (c : Int) : bytesI (zs ++ [c]) = mixI (IntKind.u64.wrap (bytesI zs + c)) := by
  unfold bytesI; rw [List.foldl_append]; rfl
theorem rbytesI_snoc (zs : List Int) (c : Int) : rbytesI (zs ++ [c]) = refI (IntKind.u64.wrap (rbytesI zs + c)) := by
  unfold rbytesI; rw [List.foldl_append]; rfl
theorem bytes_more (zs : List Int) (c : Int) : bytesI (zs ++ [c]) = refI (IntKind.u64.wrap (bytesI zs + c)) := by
  rw [bytesI_snoc, mix_eq_ref _ (wrap_wf _)]
theorem take_more (zs : List Int) (k : Nat) (h : k < zs.length) : zs.take (k + 1) = zs.take k ++ [zs[k]?.getD 0] := by
  rw [List.take_succ_eq_append_getElem h]; simp [h]
end Go.Proofs.Ytihcaldaknidcaa
