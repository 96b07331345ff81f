/-
  The document's ReadHex.
-/
import Derived.Test.YtieeanbmdaaldaaDoorRefH
import Derived.Deep.RegionHeld3
import Derived.BigRegion
import Derived.Laws.DeepStrings4
namespace Go.Proofs.YtieeanbmdaaldaaDoor
open Go.Shelf Go.RowKit Go.Sort
open Go.Lib hiding intOf
set_option linter.unusedVariables false
theorem below_grown {w w' : World} (h : Below w.heap.size w w') : w.grownBy w' none := ⟨h.os, h.tape, h.output, h.size, fun k hk _ => h.block k hk⟩
theorem below_drew {w : World} {B : Nat} {w' : World} (h : Below B w w') (n : Nat) : Below B w (w'.drewN n) := ⟨h.os, h.tape, h.output, h.size, h.block⟩
theorem own_below {w w' : World} {base n : Nat} {v : Value} {xs : List Value} {e s : Nat} (ho : w.ownsRow base e s v n xs) (h : Below w.heap.size w w') : w'.ownsRow base e s v n xs := by
  refine ho.kept (below_grown h) ?_
  cases e : v.ownBlock with
  | none => exact .inl rfl
  | some k => exact .inr (by simp)
theorem hex1_at (x : UInt8) (K : Int) (hK : K = (x.toNat : Int)) (w : World) : Calls Tryd.prog 19 #[.slice (some ⟨w.heap.size, 0, none⟩) 1 1] ((w.alloc (.cells #[.int .u8 K] 5)).drew) fun e w' => e = .returned (.string ⟨(hx2 x).toArray⟩) ∧ Below w.heap.size w w' := by
  have hb : Below w.heap.size w ((w.alloc (.cells #[.int .u8 K] 5)).drew) := ((Below.refl _ w).alloc (Nat.le_refl _) _).drew
  have c := rhex_at [x] (some ⟨w.heap.size, 0, none⟩) 1 (by simp) ((w.alloc (.cells #[.int .u8 K] 5)).drew) (.inr ⟨_, 0, rfl, fun j hj => by
    show (w.alloc _).cell? _ = _
    rw [World.cell?_alloc_new, hK]
    obtain rfl : j = 0 := by simpa using hj
    rfl⟩)
  refine c.mono fun e w' ⟨h1, h2⟩ => ⟨?_, hb.trans (h2.mono hb.size)⟩
  rw [h1, hstr]
  simp [hexOf]
theorem slice_two (s : ByteArray) (i j : Nat) (h1 : i ≤ j) (h2 : j ≤ s.size) (J : Int) (hJ : J = (j : Int)) (f : ByteArray) (hf : f = s.extract i j) (W : World) :
    (Instr.slice 9 (.string s) (some (.int .i64 (i : Int))) (some (.int .i64 J)) none).run Tryd.prog W = .ok (.string f) W := by
  subst hJ hf
  rw [run_slice_string_if W 9 s .i64 .i64 _ _ Tryd.underlying9, if_pos ⟨by omega, by omega⟩, if_pos ⟨by omega, by omega⟩]
  simp
theorem ext_two (s : ByteArray) (k : Nat) (h : k + 1 < s.size) : s.extract k (k + 2) = ⟨[s[k], s[k + 1]].toArray⟩ := by
  apply ByteArray.ext
  rw [ByteArray.data_extract]
  apply Array.toList_inj.1
  have := drop_two s k h
  rw [Array.toList_extract]
  simp only [List.extract_eq_take_drop, this]
  simp
set_option maxHeartbeats 1000000 in
set_option maxRecDepth 100000 in
theorem rreadHex_at (s : ByteArray) (hs : s.size ≤ 100000) (w : World) : Calls Tryd.prog 18 #[.string s] w fun e w' => RPost s.data.toList w e w' := by
  by_cases hev : s.size % 2 = 0
  · have hmod : (s.size : Int) % 2 = 0 := by omega
    have HEv := Lib.hid hev
    clear hev
    go_enter Tryd.func18, Tryd.ntmps18
    go_wp2
    clear hmod
    go_loopw [4, 5] (fun v i wr => ∃ (k : Nat) (q : List UInt8), k ≤ s.size ∧ i = .int .i64 (k : Int) ∧ Hid (k % 2 = 0 ∧ q.length * 2 = k ∧ rhxFrom q (s.data.toList.drop k) = rhx s.data.toList) ∧ Hid (wr.ownsRow w.heap.size 5 1 v q.length (bvals q) ∧ Below w.heap.size w wr)) (fun _ i _ => s.size - (intOf i).toNat)
    case atStart => exact ⟨0, [], by omega, by go_num, Lib.hid ⟨rfl, rfl, by rw [List.drop_zero, rhxFrom_nil]⟩, Lib.hid ⟨by simpa [bvals] using World.ownsRow_nil w w.heap.size 5 1, Below.refl _ _⟩⟩
    case round =>
      obtain ⟨k, q, hk, rfl, HK, HO⟩ := hrel
      by_cases hlt : k < s.size
      · have hlt2 : k + 1 < s.size := by have := HK.out.1; have := HEv.out; omega
        have hD := drop_two s k hlt2
        have hE := ext_two s k hlt2
        obtain ⟨a, ha⟩ : ∃ a, a = s[k] := ⟨_, rfl⟩
        obtain ⟨b, hb⟩ : ∃ b, b = s[k + 1] := ⟨_, rfl⟩
        rw [← ha, ← hb] at hD hE
        have HD := Lib.hid hD
        clear hD ha hb
        obtain ⟨f, hf⟩ : ∃ f, f = s.extract k (k + 2) := ⟨_, rfl⟩
        have HF := Lib.hid (hf.trans hE)
        have hb2 : (k : Int) + 2 ≤ (s.size : Int) := by omega
        have hw2 : IntKind.i64.wrap ((k : Int) + 2) = (k : Int) + 2 := by rw [IntKind.wrap_i64]; omega
        have hsl := slice_two s k (k + 2) (by omega) (by omega) ((k : Int) + 2) (by omega) f hf
        clear hE hf
        go_wp2_with fail
        obtain ⟨wo, hwo⟩ : ∃ wo : World, wo = wr := ⟨_, rfl⟩
        rw [← hwo] at HO ⊢
        clear hwo wr
        go_loopw [6] (fun kk wq => ∃ j : Nat, j ≤ 256 ∧ kk = .int .i64 (j : Int) ∧ Hid ((∀ i, i < j → hx2 (UInt8.ofNat i) ≠ [a, b]) ∧ Below wo.heap.size wo wq)) (fun kk _ => 256 - (intOf kk).toNat)
        case atStart => exact ⟨0, by omega, by go_num, Lib.hid ⟨fun i hi => by omega, Below.refl _ _⟩⟩
        case round =>
          obtain ⟨j, hj, rfl, HJ⟩ := hrel
          by_cases hj2 : j < 256
          · obtain ⟨d, hd⟩ : ∃ d : ByteArray, d = ⟨(hx2 (UInt8.ofNat j)).toArray⟩ := ⟨_, rfl⟩
            have hjt : (((UInt8.ofNat j).toNat : Nat) : Int) = (j : Int) := by rw [UInt8.toNat_ofNat']; omega
            have c19 := hex1_at (UInt8.ofNat j) (j : Int) hjt.symm wr
            rw [← hd] at c19
            have Hd := Lib.hid hd
            clear hd hjt
            have hjd : decide ((j : Int) < 256) = true := by simp; omega
            have hw8 : IntKind.u8.wrap (j : Int) = (j : Int) := by rw [IntKind.wrap_u8]; omega
            by_cases he : d = f
            · have HG : Hid (hx2 (UInt8.ofNat j) = [a, b]) := Lib.hid (by
                have := (Hd.out.symm.trans he).trans HF.out
                exact Array.toList_inj.2 (congrArg ByteArray.data this))
              have hg := find_good hj2 HG.out
              have HE : Hid (rhxFrom (q ++ [UInt8.ofNat j]) (s.data.toList.drop (k + 2)) = rhx s.data.toList) := Lib.hid (by
                rw [← HK.out.2.2, HD.out, rhxFrom_good _ _ _ _ hg.1, hg.2])
              have heq := bl_eq f
              rw [he] at c19
              have hne256 : ¬ (j : Int) = 256 := by omega
              have hneb : ((j : Int) == 256) = false := by simpa using hne256
              have HHK : Hid ((((UInt8.ofNat j).toNat : Nat) : Int) = (j : Int)) := Lib.hid (by rw [UInt8.toNat_ofNat']; omega)
              clear he hg
              go_wp2_with fail
              go_region_held3 (fun _ => True) (trivial) (first | (go_at_call 19; refine c19.mono ?_; rintro e wcl ⟨rfl, hbc⟩))
              have HQ : Hid (wcl.ownsRow w.heap.size 5 1 u4 q.length (bvals q) ∧ Below w.heap.size w wcl) := Lib.hid (by
                have hbo := HJ.out.2.trans (hbc.mono HJ.out.2.size)
                exact ⟨own_below HO.out.1 hbo, HO.out.2.trans (hbo.mono HO.out.2.size)⟩)
              obtain ⟨v', w2, hrun, ho2, hb2⟩ := app1 (UInt8.ofNat j) HQ.out.1 HQ.out.2.size (by have := HK.out.2.1; omega)
              rw [HHK.out] at hrun
              have HR := Lib.hid hrun
              have HO2 := Lib.hid (And.intro ho2 (HQ.out.2.trans hb2))
              clear hrun ho2 hb2
              go_wp2_with (at_builtin; refine append_run rfl (.tmp 35) (.tmp 38) 32 rfl rfl rfl HR.out ?_)
              go_round
              case rel =>
                refine ⟨k + 2, q ++ [UInt8.ofNat j], by omega, by go_num, Lib.hid ⟨by have := HK.out.1; omega, by have := HK.out.2.1; simp; omega, HE.out⟩, Lib.hid ⟨?_, HO2.out.2⟩⟩
                have := HO2.out.1
                simpa using this
              case measure => simp only [intOf]; omega
            · have hne := bl_ne he
              have HN : Hid (hx2 (UInt8.ofNat j) ≠ [a, b]) := Lib.hid (fun h => he (Hd.out.trans (by rw [HF.out, h])))
              clear he
              go_wp2_with fail
              go_region_held3 (fun _ => True) (trivial) (first | (go_at_call 19; refine c19.mono ?_; rintro e wcl ⟨rfl, hbc⟩))
              go_wp2
              go_round
              case rel =>
                refine ⟨j + 1, by omega, by go_num, Lib.hid ⟨fun i hi => ?_, HJ.out.2.trans (hbc.mono HJ.out.2.size)⟩⟩
                by_cases e : i = j
                · rw [e]; exact HN.out
                · exact HJ.out.1 i (by omega)
              case measure => simp only [intOf]; omega
          · have hj256 : j = 256 := by omega
            have HE : Hid (rhx s.data.toList = none) := Lib.hid (by
              rw [← HK.out.2.2, HD.out, rhxFrom_bad]
              exact find_bad (by rw [← hj256]; exact HJ.out.1))
            have HB : Hid (Below w.heap.size w wr) := Lib.hid (HO.out.2.trans (HJ.out.2.mono HO.out.2.size))
            subst hj256
            clear hsl hw2 hb2 hlt2 hj hj2
            go_wp2_with fail
            go_region
            all_goals go_wp2
            all_goals go_ret2
            all_goals exact rpost_none HE.out (below_drew HB.out 1)
      · have HE : Hid (rhx s.data.toList = some q) := Lib.hid (by rw [← HK.out.2.2, List.drop_of_length_le (by rw [size_list]; omega), rhxFrom_end])
        go_wp2
        go_ret2
        exact rpost_some HE.out HO.out.1 HO.out.2
  · have hmod : ¬ (s.size : Int) % 2 = 0 := by omega
    have hmod1 : (s.size : Int) % 2 = 1 := by omega
    have HE := Lib.hid (rhx_even s.data.toList.length s.data.toList (Nat.le_refl _) (by rw [size_list]; exact hev))
    clear hev
    go_enter Tryd.func18, Tryd.ntmps18
    go_wp2
    go_ret2
    exact rpost_none HE.out (Below.refl _ _)
end Go.Proofs.YtieeanbmdaaldaaDoor
