/-
  Bytes read: ReadHex.
-/
import Derived.Test.YtieeanbmdaaldaaDoorHexV
import Derived.Deep.QuietTactic
namespace Go.Proofs.YtieeanbmdaaldaaDoor
open Go.Shelf Go.RowKit Go.Sort
open Go.Lib hiding intOf
set_option linter.unusedVariables false
theorem quiet_same {P : Program} {f : FuncId} {args : Array Value} {w : World} {n : Nat} {v : Value} (h : Calls P f args (w.drewN n) fun e w' => e = .returned v ∧ w.drewN n = w') :
    Calls P f args (w.drewN n) fun e w' => e = .returned v ∧ ∃ q, w' = w.drewN q := h.mono fun e w' ⟨h1, h2⟩ => ⟨h1, n, h2.symm⟩
/-- what a reader of bytes leaves -/
def RPost (l : List UInt8) (w : World) (e : Ending) (w' : World) : Prop := ∃ v, e = .returned (.tuple #[v, .bool (rhx l).isSome]) ∧ w'.ownsRow w.heap.size 5 1 v ((rhx l).getD []).length (bvals ((rhx l).getD [])) ∧ Below w.heap.size w w'
theorem rpost_none {l : List UInt8} {w w' : World} (h : rhx l = none) (hb : Below w.heap.size w w') : RPost l w (.returned (.tuple #[.slice none 0 0, .bool false])) w' := by
  refine ⟨.slice none 0 0, by rw [h]; rfl, ?_, hb⟩
  rw [h]
  exact World.ownsRow_nil _ _ _ _
theorem rpost_some {l y : List UInt8} {w w' : World} {v : Value} (h : rhx l = some y) (ho : w'.ownsRow w.heap.size 5 1 v y.length (bvals y)) (hb : Below w.heap.size w w') : RPost l w (.returned (.tuple #[v, .bool true])) w' := by
  refine ⟨v, by rw [h]; rfl, ?_, hb⟩
  rw [h]
  exact ho
theorem drop_two (s : ByteArray) (k : Nat) (h : k + 1 < s.size) : s.data.toList.drop k = s[k] :: s[k + 1] :: s.data.toList.drop (k + 2) := by
  rw [List.drop_eq_getElem_cons (by rw [size_list]; omega), List.drop_eq_getElem_cons (by rw [size_list]; omega)]
  rfl
theorem hv_ge (c : UInt8) : -1 ≤ hv c ∧ hv c ≤ 15 := by
  rcases hd_hv c with h | ⟨n, h1, h2, h3⟩
  · omega
  · omega
theorem shl4 (H : Nat) (hH : H < 16) (L : Nat) (hL : L < 16) : IntKind.u8.wrap (bits .or .i64 ((H : Int) * 16) (L : Int)) = ((H * 16 + L : Nat) : Int) := by
  have : ∀ (a b : Fin 16), IntKind.u8.wrap (bits .or .i64 ((a.val : Int) * 16) (b.val : Int)) = ((a.val * 16 + b.val : Nat) : Int) := by decide +kernel
  exact this ⟨H, hH⟩ ⟨L, hL⟩
set_option maxHeartbeats 1000000 in
set_option maxRecDepth 100000 in
theorem readHex_at (s : ByteArray) (hs : s.size ≤ 100000) (w : World) : Calls Tryd.prog 17 #[.string s] w fun e w' => RPost s.data.toList w e w' := by
  by_cases hev : s.size % 2 = 0
  · obtain ⟨c, hc⟩ : ∃ c, c = s.size / 2 := ⟨_, rfl⟩
    obtain ⟨w1, hmk, ho0, hb0⟩ := makeB c ((s.size : Int) / 2) (by omega) (by omega) w
    have H0 := Lib.hid (And.intro ho0 hb0)
    have hmod : (s.size : Int) % 2 = 0 := by omega
    have Hc := Lib.hid hc
    have HEv := Lib.hid hev
    clear ho0 hb0 hc hev
    go_enter Tryd.func17, Tryd.ntmps17
    go_wp2
    clear hmod
    go_loopw [4, 5] (fun v i wr => ∃ (k : Nat) (q : List UInt8), k ≤ s.size ∧ i = .int .i64 (k : Int) ∧ Hid (k % 2 = 0 ∧ q.length * 2 = k ∧ rhxFrom q (s.data.toList.drop k) = rhx s.data.toList) ∧ Hid (wr.ownsRow w.heap.size 5 1 v q.length (bvals q) ∧ Below w.heap.size w wr)) (fun _ i _ => s.size - (intOf i).toNat)
    case atStart => exact ⟨0, [], by omega, by go_num, Lib.hid ⟨rfl, rfl, by rw [List.drop_zero, rhxFrom_nil]⟩, H0⟩
    case round =>
      obtain ⟨k, q, hk, rfl, HK, HO⟩ := hrel
      by_cases hlt : k < s.size
      · have hlt2 : k + 1 < s.size := by have := HK.out.1; have := HEv.out; omega
        obtain ⟨A, hA⟩ : ∃ A : Int, A = ((s[k].toNat : Nat) : Int) := ⟨_, rfl⟩
        obtain ⟨B, hB⟩ : ∃ B : Int, B = ((s[k + 1].toNat : Nat) : Int) := ⟨_, rfl⟩
        obtain ⟨X, hX⟩ : ∃ X : Int, X = hv s[k] := ⟨_, rfl⟩
        obtain ⟨Y, hY⟩ : ∃ Y : Int, Y = hv s[k + 1] := ⟨_, rfl⟩
        have cA := fun W => hexV_at s[k] A X hA hX W
        have cB := fun W => hexV_at s[k + 1] B Y hB hY W
        have hD := drop_two s k hlt2
        have gX := hv_ge s[k]
        have gY := hv_ge s[k + 1]
        rw [← hX] at gX
        rw [← hY] at gY
        have iA : ∀ W, (Instr.index 9 (.string s) (.int .i64 (k : Int))).run Tryd.prog W = .ok (.int .u8 A) W := fun W => by
          rw [run_index_string W 9 s .i64 _ Tryd.underlying9, dif_pos ⟨by omega, by omega⟩, hA]
          rfl
        have iB : ∀ W, (Instr.index 9 (.string s) (.int .i64 ((k : Int) + 1))).run Tryd.prog W = .ok (.int .u8 B) W := fun W => by
          rw [run_index_string W 9 s .i64 _ Tryd.underlying9, dif_pos ⟨by omega, by omega⟩, hB]
          rfl
        have HX := Lib.hid (And.intro hX (And.intro hY hD))
        clear hA hB hX hY hD
        have hw1 : IntKind.i64.wrap ((k : Int) + 1) = (k : Int) + 1 := by rw [IntKind.wrap_i64]; omega
        go_wp2_with fail
        go_quiet (first | (go_at_call 29; exact quiet_same (cA _)) | (go_at_call 29; exact quiet_same (cB _)))
        rename_i nq
        by_cases hbad : X < 0 ∨ Y < 0
        · have HE : Hid (rhx s.data.toList = none) := Lib.hid (by rw [← HK.out.2.2, HX.out.2.2, rhxFrom_bad]; rw [← HX.out.1, ← HX.out.2.1]; exact hbad)
          have HB : Hid (Below w.heap.size w (wr.drewN nq)) := Lib.hid ⟨HO.out.2.os, HO.out.2.tape, HO.out.2.output, HO.out.2.size, HO.out.2.block⟩
          by_cases hx0 : X < 0
          · clear hbad
            go_wp2
            go_ret2
            exact rpost_none HE.out HB.out
          · have hy0 : Y < 0 := by omega
            clear hbad
            go_wp2
            go_ret2
            exact rpost_none HE.out HB.out
        · have hx0 : 0 ≤ X := by omega
          have hy0 : 0 ≤ Y := by omega
          have HE : Hid (rhxFrom (q ++ [UInt8.ofNat (X.toNat * 16 + Y.toNat)]) (s.data.toList.drop (k + 2)) = rhx s.data.toList) := Lib.hid (by
            rw [← HK.out.2.2, HX.out.2.2, rhxFrom_good, ← HX.out.1, ← HX.out.2.1]
            rw [← HX.out.1, ← HX.out.2.1]; exact hbad)
          obtain ⟨c8, hc8⟩ : ∃ c8, c8 = UInt8.ofNat (X.toNat * 16 + Y.toNat) := ⟨_, rfl⟩
          obtain ⟨Z, hZ⟩ : ∃ Z : Int, Z = (c8.toNat : Int) := ⟨_, rfl⟩
          have hZv : Z = X * 16 + Y := by rw [hZ, hc8, UInt8.toNat_ofNat']; omega
          have hor : IntKind.u8.wrap (bits .or .i64 (X * 16) Y) = Z := by
            have := shl4 X.toNat (by omega) Y.toNat (by omega)
            rw [Int.toNat_of_nonneg hx0, Int.toNat_of_nonneg hy0] at this
            rw [this, hZv]; omega
          have ho1 : (wr.drewN nq).ownsRow w.heap.size 5 1 u4 q.length (bvals q) := HO.out.1
          have hb1 : Below w.heap.size w (wr.drewN nq) := ⟨HO.out.2.os, HO.out.2.tape, HO.out.2.output, HO.out.2.size, HO.out.2.block⟩
          obtain ⟨v', w2, hrun, ho2, hb2⟩ := app1 c8 ho1 hb1.size (by have := HK.out.2.1; omega)
          rw [← hZ] at hrun
          have HR := Lib.hid hrun
          have HO2 := Lib.hid (And.intro ho2 (hb1.trans hb2))
          rw [← hc8] at HE
          clear hbad hc8 hZ hZv ho1 hb1 hrun ho2 hb2
          go_wp2_with (at_builtin; refine append_run rfl (.tmp 37) (.tmp 43) 32 rfl rfl rfl HR.out ?_)
          go_round
          case rel =>
            refine ⟨k + 2, q ++ [c8], by omega, by go_num, Lib.hid ⟨by have := HK.out.1; omega, by have := HK.out.2.1; simp; omega, HE.out⟩, Lib.hid ⟨?_, HO2.out.2⟩⟩
            have := HO2.out.1
            simpa using this
          case measure => simp only [intOf]; omega
      · have HE : Hid (rhx s.data.toList = some q) := Lib.hid (by rw [← HK.out.2.2, List.drop_of_length_le (by rw [size_list]; omega), rhxFrom_end])
        go_wp2
        go_ret2
        exact rpost_some HE.out HO.out.1 HO.out.2
  · have hmod : ¬ (s.size : Int) % 2 = 0 := by omega
    have hmod1 : (s.size : Int) % 2 = 1 := by omega
    have HE := Lib.hid (rhx_even s.data.toList.length s.data.toList (Nat.le_refl _) (by rw [size_list]; exact hev))
    clear hev
    go_enter Tryd.func17, Tryd.ntmps17
    go_wp2
    go_ret2
    exact rpost_none HE.out (Below.refl _ _)
end Go.Proofs.YtieeanbmdaaldaaDoor
