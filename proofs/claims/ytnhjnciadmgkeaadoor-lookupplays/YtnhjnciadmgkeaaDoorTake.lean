/-
  A key is taken out of slots: take.
-/
import Derived.Test.YtnhjnciadmgkeaaDoorLay
namespace Go.Proofs.YtnhjnciadmgkeaaDoor
open Go.ChangeShapes Go.WideShapes Go.ChangeAt Go.RowKit
set_option linter.unusedVariables false

/-- the cell that leads to what comes behind pre -/
def lead (g p : Nat) (pre : List Ent) : Nat × Nat := match pre.getLast? with
  | none => (g, p)
  | some y => (y.blk, 2)
theorem lead_nil (g p : Nat) : lead g p [] = (g, p) := rfl
theorem lead_snoc (g p : Nat) (q : List Ent) (y : Ent) : lead g p (q ++ [y]) = (y.blk, 2) := by unfold lead; simp
theorem snoc_cases {α : Type} {l : List α} : l = [] ∨ ∃ t q, l = t ++ [q] := by
  rcases List.eq_nil_or_concat l with h | ⟨t, q, h⟩
  · exact .inl h
  · exact .inr ⟨t, q, by simpa using h⟩
section
variable {w : World} {lo g k : Nat} {bk : Nat → List Ent}
theorem chain_mid : ∀ {q t : List Ent} {y : Ent}, ChainAt w (q ++ y :: t) → EntAt w y (hd t)
  | [], _, _, h => h.1
  | _ :: q, _, _, h => chain_mid (q := q) h.2
set_option maxHeartbeats 1000000 in
theorem take_raw (p n : Nat) (key : Int) (l0 : List Ent) (hs : p < n) (c1 : w.cell? ⟨g, p, none⟩ = some (.pointer (hd l0))) (f1 : w.frozen? ⟨g, p, none⟩ = false) (hC : ChainAt w l0)
    (h0 : Calls Tryd.prog 33 #[.slice (some ⟨g, 0, none⟩) n n, .int .u64 key] w fun e w' => e = .returned (.int .i64 (p : Int)) ∧ w = w') :
    Calls Tryd.prog 28 #[.slice (some ⟨g, 0, none⟩) n n, .int .u64 key] w fun r w' => (r = .returned (.bool false) ∧ w' = w ∧ ∀ e ∈ l0, e.key ≠ key) ∨
      ∃ pre x t, l0 = pre ++ x :: t ∧ x.key = key ∧ (∀ e ∈ pre, e.key ≠ key) ∧ r = .returned (.bool true) ∧ w' = w.setCell ⟨(lead g p pre).1, (lead g p pre).2, none⟩ (.pointer (hd t)) := by
  have H0 := Lib.hid h0
  have HC := Lib.hid hC
  have hix := ix47 g p n n hs
  have hn2 : (n == 0) = false := beq_eq_false_iff_ne.2 (by omega)
  have hn : ((n : Int) == 0) = false := beq_eq_false_iff_ne.2 (by omega)
  have HS : Hid (w.cell? ⟨g, p, none⟩ = some (.pointer (hd l0)) ∧ w.frozen? ⟨g, p, none⟩ = false) := Lib.hid ⟨c1, f1⟩
  clear h0 hs hC c1 f1
  go_enter Tryd.func28, Tryd.ntmps28
  go_wp2_with (go_at_call 33; refine H0.out.mono ?_; rintro e w' ⟨rfl, rfl⟩)
  go_loopg [5] l0.length (fun m v wr => ∃ (pre l : List Ent) (b o : Nat), v = .pointer (some ⟨b, o, none⟩) ∧ m = l.length ∧ wr = w ∧ Hid (lead g p pre = (b, o) ∧ l0 = pre ++ l ∧ (∀ e ∈ pre, e.key ≠ key)) ∧ Hid (w.cell? ⟨b, o, none⟩ = some (.pointer (hd l)) ∧ w.frozen? ⟨b, o, none⟩ = false))
  case atStart => exact ⟨[], l0, g, p, rfl, rfl, rfl, Lib.hid ⟨rfl, rfl, by simp⟩, HS⟩
  case round =>
    obtain ⟨pre, l, b, o, rfl, hm, rfl, HL, HB⟩ := hrel
    have HMM := Lib.hid hm
    clear hm HS H0 hix hn hn2
    cases l with
    | nil =>
      have d := HB.out.1
      rw [hd_nil] at d
      go_wp2
      go_ret
      exact .inl ⟨rfl, rfl, by rw [HL.out.2.1]; simpa using HL.out.2.2⟩
    | cons x t =>
      have hx : EntAt wr x (hd t) := by have := HC.out; rw [HL.out.2.1] at this; exact chain_mid this
      have HX := Lib.hid hx
      have d := HB.out.1
      have f := HB.out.2
      rw [hd_cons] at d
      have d0 := hx.cell0
      have d2 := hx.cell2
      obtain ⟨u1, hu1⟩ : ∃ u, hd t = u := ⟨_, rfl⟩
      rw [hu1] at d2
      have HU1 := Lib.hid hu1
      clear hu1 hx
      obtain ⟨xb, xk, xn⟩ := x
      dsimp only at *
      by_cases hkey : xk = key
      · subst hkey
        go_wp2_with (refine wpList_store_cell rfl 59 _ _ rfl rfl rfl rfl size59 d f ?_)
        go_ret
        refine .inr ⟨pre, ⟨xb, xk, xn⟩, t, HL.out.2.1, rfl, HL.out.2.2, rfl, ?_⟩
        rw [HL.out.1, HU1.out]
      · have hkb : (xk == key) = false := by simpa using hkey
        have HK := Lib.hid hkey
        clear hkey
        go_wp2
        go_roundg t.length
        case measure => rw [HMM.out]; simp
        case rel =>
          refine ⟨pre ++ [⟨xb, xk, xn⟩], t, xb, 2, rfl, rfl, rfl, Lib.hid ⟨lead_snoc .., by rw [HL.out.2.1]; simp, ?_⟩, Lib.hid ⟨HX.out.cell2, HX.out.free 2⟩⟩
          intro e he
          rcases List.mem_append.1 he with he | he
          · exact HL.out.2.2 e he
          · obtain rfl := List.mem_singleton.1 he; exact HK.out
end
end Go.Proofs.YtnhjnciadmgkeaaDoor
