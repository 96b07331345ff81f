/-
  Nodes that are laid at a list's end, one behind the other; those that stand already are passed over.
-/
import Derived.Test.YtmjccpgkgkindaaJoin
import Derived.Test.YtmjccpgkgkindaaAlive
namespace Go.Proofs.Ytmjccpgkgkindaa
open Go.ChangeShapes Go.WideShapes Go.ChangeAt Go.RowKit
set_option linter.unusedVariables false

/-- the slice at A reads as the bytes zs -/
def BRow (w : World) (A : Option Addr) (zs : List Nat) : Prop :=
  zs = [] ∨ ∃ b off, A = some ⟨b, off, none⟩ ∧ b < w.heap.size ∧ ∀ (i x : Nat), zs[i]? = some x → w.cell? ⟨b, off + i, none⟩ = some (.int .u8 (x : Int))
theorem BRow.kept {w w' : World} {A : Option Addr} {zs : List Nat} (h : BRow w A zs) (hg : w.grownBy w' none) : BRow w' A zs := by
  refine h.imp_right ?_
  rintro ⟨b, off, hA, hb, hc⟩
  exact ⟨b, off, hA, Nat.lt_of_lt_of_le hb hg.size, fun i x hx => hg.cell (hc i x hx) (by simp)⟩
def addN (l : List Nat) (x : Nat) : List Nat := if x ∈ l then l else l ++ [x]
def dl (zs : List Nat) : List Nat := zs.foldl addN []
theorem dl_snoc (zs : List Nat) (x : Nat) : dl (zs ++ [x]) = addN (dl zs) x := by simp [dl]
theorem dl_take {zs : List Nat} {k x : Nat} (h : zs[k]? = some x) : dl (zs.take (k + 1)) = addN (dl (zs.take k)) x := by rw [take_snoc h, dl_snoc]
theorem addN_len (l : List Nat) (x : Nat) : (addN l x).length ≤ l.length + 1 ∧ l.length ≤ (addN l x).length ∧ addN l x ≠ [] := by
  unfold addN
  split
  · rename_i h
    exact ⟨by omega, Nat.le_refl _, fun e => by rw [e] at h; cases h⟩
  · exact ⟨by simp, by simp, by simp⟩
theorem foldl_len : ∀ (zs : List Nat) (l : List Nat), (zs.foldl addN l).length ≤ l.length + zs.length
  | [], l => by simp
  | x :: zs, l => by
    have h1 := foldl_len zs (addN l x)
    have h2 := (addN_len l x).1
    simp only [List.foldl_cons, List.length_cons]
    omega
theorem dl_len (zs : List Nat) : (dl zs).length ≤ zs.length := by have := foldl_len zs []; simpa [dl] using this
theorem dl_ne {zs : List Nat} (h : zs ≠ []) : dl zs ≠ [] := by
  rcases snoc_cases (l := zs) with rfl | ⟨l, q, rfl⟩
  · exact absurd rfl h
  · rw [dl_snoc]; exact (addN_len _ _).2.2

/-- chains all whose lists but the first are empty -/
def chn (rest : Nat) (l : List Nat) : Ch := ⟨256, l :: List.replicate rest []⟩
theorem chn_of0 (rest : Nat) (l : List Nat) : (chn rest l).of 0 = l := rfl
theorem chn_put (rest : Nat) (l l' : List Nat) : (chn rest l).put 0 l' = chn rest l' := rfl
theorem chn_ofS (rest : Nat) (l : List Nat) (j : Nat) : (chn rest l).of (j + 1) = [] := by
  unfold Ch.of chn
  rw [List.getD_eq_getElem?_getD, List.getElem?_cons_succ, List.getElem?_replicate]
  split <;> rfl
theorem chn_free {rest : Nat} {l : List Nat} {x : Nat} (h : x ∉ l) : (chn rest l).free x := by
  intro i hi
  cases i with
  | zero => exact h hi
  | succ j => rw [chn_ofS] at hi; cases hi
theorem chn_has {rest : Nat} {l : List Nat} {x : Nat} (h : x ∈ l) : (chn rest l).has (x : Int) = true := Ch.has_iff.2 ⟨by omega, 0, by rw [Int.toNat_natCast]; exact h⟩
theorem chn_len (rest : Nat) (l : List Nat) : (chn rest l).ls.length = rest + 1 := by simp [chn]
theorem behind_add {w : World} {lo b gL gN rest x : Nat} {l : List Nat} (h : IsCh w lo b gL gN (chn rest l)) (hx : x < 256) :
    Calls Try.prog 14 #[.pointer (some ⟨b, 0, none⟩), .int .i64 0, .int .i32 (x : Int)] w fun e w' => ∃ v, e = .returned (.int .i64 v) ∧ IsCh w' lo b gL gN (chn rest (addN l x)) ∧ Kp gL gN w w' := by
  unfold addN
  by_cases hm : x ∈ l
  · rw [if_pos hm]
    have hc : (chn rest l).enter 0 (x : Int) = 8 := by
      unfold Ch.enter
      rw [show inN (chn rest l).ls.length 0 = true from inN_nat (x := 0) (by rw [chn_len]; omega), show inN (chn rest l).N (x : Int) = true from inN_nat hx, chn_has hm]; rfl
    refine (behind_er h (by constructor <;> omega) (by rw [hc]; decide)).mono ?_
    rintro e w' ⟨rfl, rfl⟩
    exact ⟨_, rfl, h, Stay.refl _ _⟩
  · rw [if_neg hm]
    refine (behind_is h (i := 0) (x := x) (by rw [chn_len]; omega) hx (chn_free hm)).mono ?_
    rintro e w' ⟨rfl, hs, hk⟩
    exact ⟨_, rfl, hs, hk⟩
theorem take_drop_at {l : List Nat} {i x : Nat} (h : l[i]? = some x) : l = l.take i ++ x :: l.drop (i + 1) := by
  have hi := (List.getElem?_eq_some_iff.1 h)
  obtain ⟨hi, he⟩ := hi
  rw [← he, ← List.drop_eq_getElem_cons hi, List.take_append_drop]
theorem NRow.at {w : World} {A : Option Addr} {n cap i x : Nat} {l : List Nat} (h : NRow w (.slice A n cap) l) (hx : l[i]? = some x) : ∃ b off, A = some ⟨b, off, none⟩ ∧ w.cell? ⟨b, off + i, none⟩ = some (.int .i32 (x : Int)) := by
  obtain ⟨A', cap', hv, _, _, _, h⟩ := h
  injection hv with e1 e2 e3
  subst e1
  rcases h with rfl | ⟨b, off, hA, _, hc⟩
  · simp at hx
  · exact ⟨b, off, hA, hc i x hx⟩
theorem NRow.dropped {w : World} {b o n cap : Nat} {l : List Nat} (h : NRow w (.slice (some ⟨b, o, none⟩) n cap) l) (k : Nat) (hk : k ≤ l.length) :
    (cap = k → NRow w (.slice (some ⟨b, o, none⟩) (n - k) 0) (l.drop k)) ∧ ∀ c', cap = k + (c' + 1) → NRow w (.slice (some ⟨b, o + k, none⟩) (n - k) (c' + 1)) (l.drop k) := by
  obtain ⟨A', cap', hv, h1, h2, h3, h⟩ := h
  injection hv with e1 e2 e3
  subst e1 e2 e3
  constructor
  · rintro rfl
    have e : l.drop cap = [] := List.drop_eq_nil_of_le h1
    rw [e]
    exact ⟨_, _, by rw [show l.length - cap = 0 by omega]; rfl, by simp, by omega, (fun h => by cases h), .inl rfl⟩
  · rintro c' rfl
    refine ⟨_, _, by rw [List.length_drop], by rw [List.length_drop]; omega, by omega, (fun h => by cases h), ?_⟩
    rcases h with rfl | ⟨b', off, hA, hcur, hc⟩
    · exact .inl (by simp)
    · cases hA
      refine .inr ⟨b, o + k, rfl, hcur, fun i x hi => ?_⟩
      rw [List.getElem?_drop] at hi
      rw [Nat.add_assoc]
      exact hc _ _ hi
/-- a slice of bytes that came in -/
theorem brow_of {w : World} {x : Addr} {len : Nat} {zs : List Int} (hl : len ≤ zs.length) (hc : ∀ i, i < zs.length → w.cell? (x.add i) = some (.int .u8 (zs.getD i 0))) (hw : ∀ n ∈ zs, (Lit.int .u8 n).wf = true) :
    ∃ ys : List Nat, ys.length = len ∧ (∀ y ∈ ys, y < 256) ∧ BRow w (some x) ys := by
  have hb : ∀ n ∈ zs, 0 ≤ n ∧ n < 256 := fun n hn => by have := bounds_u8 (hw n hn); omega
  refine ⟨(zs.take len).map Int.toNat, by rw [List.length_map, List.length_take]; omega, fun y hy => ?_, ?_⟩
  · obtain ⟨n, hn, rfl⟩ := List.mem_map.1 hy
    have := hb n (List.mem_of_mem_take hn)
    omega
  · by_cases h0 : len = 0
    · left; subst h0; simp
    · right
      obtain ⟨b, off, rfl, hc'⟩ := ints_at hc (by omega)
      refine ⟨b, off, rfl, block_lt_of_cell (hc' 0 (by omega)), fun i y hi => ?_⟩
      rw [List.getElem?_map] at hi
      obtain ⟨n, hn, rfl⟩ := Option.map_eq_some_iff.1 hi
      rw [List.getElem?_take] at hn
      split at hn
      · have hil : i < zs.length := (List.getElem?_eq_some_iff.1 hn).1
        have hm := hb n (List.mem_of_getElem? hn)
        rw [hc' i hil, List.getD_eq_getElem?_getD, hn, Option.getD_some, Int.toNat_of_nonneg hm.1]
      · cases hn
end Go.Proofs.Ytmjccpgkgkindaa
