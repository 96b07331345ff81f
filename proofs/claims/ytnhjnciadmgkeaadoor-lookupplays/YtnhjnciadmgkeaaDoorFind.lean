/-
  Slots are asked for a key: find. A key is laid into slots: lay.
-/
import Derived.Test.YtnhjnciadmgkeaaDoorMem
import Derived.Test.YtnhjnciadmgkeaaDoorPlace
import Derived.Deep.LoopGhost
namespace Go.Proofs.YtnhjnciadmgkeaaDoor
open Go.ChangeShapes Go.WideShapes Go.ChangeAt Go.RowKit
set_option linter.unusedVariables false

def pE : Option Ent → Option Addr
  | none => none
  | some e => some ⟨e.blk, 0, none⟩
theorem find_none (key : Int) (w : World) : Calls Tryd.prog 32 #[.slice none 0 0, .int .u64 key] w fun e w' => e = .returned (.pointer none) ∧ w = w' := by
  go_enter Tryd.func32, Tryd.ntmps32
  go_wp2
  go_ret
  exact ⟨rfl, rfl⟩
theorem take_none (key : Int) (w : World) : Calls Tryd.prog 28 #[.slice none 0 0, .int .u64 key] w fun e w' => e = .returned (.bool false) ∧ w = w' := by
  go_enter Tryd.func28, Tryd.ntmps28
  go_wp2
  go_ret
  exact ⟨rfl, rfl⟩
section
variable {w : World} {lo g k : Nat} {bk : Nat → List Ent}
set_option maxHeartbeats 1000000 in
theorem find_at (h : Arr w lo g k bk) (h0 : 1 ≤ k) (h1 : k ≤ 30) (key : Int) (hk : Wd key) (ht : Tab w) :
    Calls Tryd.prog 32 #[.slice (some ⟨g, 0, none⟩) (2 ^ k) (2 ^ k), .int .u64 key] w fun e w' => e = .returned (.pointer (pE (fndB k bk key))) ∧ w = w' := by
  have H0 := Lib.hid (place_at g k key w h0 h1 hk ht)
  have hs := slotN_lt hk h0 h1
  have c1 := h.row.cell hs
  have hC : Hid (ChainAt w (bk (slotN k key))) := Lib.hid (h.ch _ hs)
  unfold fndB
  generalize hl : bk (slotN k key) = l0 at *
  generalize slotN k key = p at *
  have hp0 := Nat.two_pow_pos k
  have hpp : 2 ^ k ≤ 4611686018427387904 := pow_lt (by omega)
  clear h hl ht
  generalize 2 ^ k = n at *
  have hn : ((n : Int) == 0) = false := beq_eq_false_iff_ne.2 (by omega)
  have hn2 : (n == 0) = false := beq_eq_false_iff_ne.2 (by omega)
  obtain ⟨u0, hu0⟩ : ∃ u, hd l0 = u := ⟨_, rfl⟩
  rw [hu0] at c1
  have HU := Lib.hid hu0
  clear hu0
  have hix := ix47 g p n n hs
  clear hpp hp0 h0 h1
  go_enter Tryd.func32, Tryd.ntmps32
  go_wp2_with (go_at_call 33; refine H0.out.mono ?_; rintro e w' ⟨rfl, rfl⟩)
  go_loopg [5] l0.length (fun m v wr => ∃ (pre l : List Ent) (u : Option Addr), v = .pointer u ∧ m = l.length ∧ wr = w ∧ Hid (hd l = u ∧ l0 = pre ++ l ∧ ∀ e ∈ pre, e.key ≠ key))
  case atStart => exact ⟨[], l0, u0, rfl, rfl, rfl, Lib.hid ⟨HU.out, rfl, by simp⟩⟩
  case round =>
    obtain ⟨pre, l, u, rfl, hm, rfl, HL⟩ := hrel
    have HMM := Lib.hid hm
    clear hm c1 HU H0
    cases l with
    | nil =>
      obtain rfl : none = u := HL.out.1
      go_wp2
      go_ret
      refine ⟨?_, rfl⟩
      rw [HL.out.2.1, fnd_none.2 (by simpa using HL.out.2.2)]; rfl
    | cons x t =>
      obtain rfl : some ⟨x.blk, 0, none⟩ = u := HL.out.1
      have hx : EntAt wr x (hd t) := by have := hC.out; rw [HL.out.2.1] at this; exact this.right.1
      have d0 := hx.cell0
      have d2 := hx.cell2
      obtain ⟨u1, hu1⟩ : ∃ u, hd t = u := ⟨_, rfl⟩
      rw [hu1] at d2
      have HU1 := Lib.hid hu1
      clear hu1 hx
      by_cases hkey : x.key = key
      · have hkb : (x.key != key) = false := by simpa using hkey
        have HK := Lib.hid hkey
        clear hkey
        go_wp2
        go_ret
        refine ⟨?_, rfl⟩
        rw [HL.out.2.1, fnd_skip HL.out.2.2, fnd_cons, if_pos HK.out]; rfl
      · have hkb : (x.key != key) = true := by simpa using hkey
        have HK := Lib.hid hkey
        clear hkey
        go_wp2
        go_roundg t.length
        case measure => rw [HMM.out]; simp
        case rel =>
          refine ⟨pre ++ [x], t, u1, rfl, rfl, rfl, Lib.hid ⟨HU1.out, by rw [HL.out.2.1]; simp, ?_⟩⟩
          intro e he
          rcases List.mem_append.1 he with he | he
          · exact HL.out.2.2 e he
          · obtain rfl := List.mem_singleton.1 he; exact HK.out
end
end Go.Proofs.YtnhjnciadmgkeaaDoor
