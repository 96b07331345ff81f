/-
  A vault without room; the law that a vault is never full as long as there are bytes enough: its walk.
-/
import Derived.Test.YthpcjgfbngemiaaActs
namespace Go.Proofs.Ythpcjgfbngemiaa
open Go.ChangeShapes Go.WideShapes Go.ChangeAt Go.RowKit
set_option linter.unusedVariables false
set_option maxRecDepth 100000
set_option maxHeartbeats 400000 in
theorem new_zero (w : World) : Calls Try.prog 7 #[.int .i64 0] w (NewPost w 0) := by
  have hga := World.grownBy_alloc w (.cells #[.int .i64 0, .slice none 0 0, .slice none 0 0, .slice none 0 0, .slice none 0 0, .int .i64 0, .int .i64 0, .int .i64 0] 56) none
  have hx : VAt (w.alloc (.cells #[.int .i64 0, .slice none 0 0, .slice none 0 0, .slice none 0 0, .slice none 0 0, .int .i64 0, .int .i64 0, .int .i64 0] 56)) w.heap.size w.heap.size ⟨.slice none 0 0, .slice none 0 0, .slice none 0 0, .slice none 0 0⟩ ⟨0, [], [], [], [], 0, 0, 0⟩ :=
    ⟨Nat.le_refl _, heap_alloc_new w _, World.ownsRow_nil _ _ _ _, World.ownsRow_nil _ _ _ _, World.ownsRow_nil _ _ _ _, World.ownsRow_nil _ _ _ _⟩
  have HFin : Hid (NewPost w 0 (.returned (.tuple #[.pointer (some ⟨w.heap.size, 0, none⟩), .int .i64 0])) (w.alloc (.cells #[.int .i64 0, .slice none 0 0, .slice none 0 0, .slice none 0 0, .slice none 0 0, .int .i64 0, .int .i64 0, .int .i64 0] 56))) := Lib.hid ⟨rfl, _, hx, hga⟩
  clear hx hga
  go_enter Try.func7, Try.ntmps7
  go_wp2_with fail
  refine (addGap_zero 0 _).mono ?_
  rintro e w' ⟨rfl, rfl⟩
  go_wp2
  go_ret2
  exact HFin.out
theorem new_any (w : World) (r : Nat) (hr : r ≤ 1048576) : Calls Try.prog 7 #[.int .i64 (r : Int)] w (NewPost w r) := by
  by_cases h0 : r = 0
  · subst h0; exact new_zero w
  · exact new_at w r hr (by omega)
/-- how a vault stands behind k acts -/
structure FI (w wr : World) (b room k : Nat) (V : Vl) : Prop where
  at_ : ∃ h, VAt wr w.heap.size b h V
  vm : VM V 0 0
  room : V.room = room
  kl : V.bk.length ≤ k
  moved : V.moved ≤ k * 1048576
  packs : V.packs ≤ k
  grown : w.grownBy wr none
theorem FI.step {w W W' : World} {b room k : Nat} {V V' : Vl} {h h' : Hd} (f : FI w W b room k V) (hx : VAt W w.heap.size b h V) (hx' : VAt W' w.heap.size b h' V') (hs : Stp b h h' W W') (n : Nx V V') : FI w W' b room (k + 1) V' := by
  refine ⟨⟨h', hx'⟩, n.vm, n.room.trans f.room, by have := n.kl; have := f.kl; omega, ?_, by have := n.packs; have := f.packs; omega, hs.grown (lo := 0) f.grown fun j hj => (hx.own_lo hj).1⟩
  have h1 := n.moved
  have h2 := f.moved
  have h3 := f.vm.ur
  have h4 := f.vm.room
  omega
theorem FI.more {w W W' : World} {b room k : Nat} {V : Vl} (f : FI w W b room k V) (hg : W.grownBy W' none) : FI w W' b room k V := by
  obtain ⟨h, hx⟩ := f.at_
  exact ⟨⟨h, hx.kept hg⟩, f.vm, f.room, f.kl, f.moved, f.packs, grown_trans f.grown hg⟩
theorem FI.up {w W : World} {b room k : Nat} {V : Vl} (f : FI w W b room k V) : FI w W b room (k + 1) V :=
  ⟨f.at_, f.vm, f.room, by have := f.kl; omega, Nat.le_trans f.moved (Nat.mul_le_mul_right _ (Nat.le_succ k)), by have := f.packs; omega, f.grown⟩
theorem PutR.nx {V V' : Vl} {num m : Nat} {ys : List Int} (r : PutR V V' num m ys) : Nx V V' := ⟨r.vm, r.room, r.kl, r.moved, r.packs⟩
theorem DropR.nx {V V' : Vl} {i : Nat} (r : DropR V V' i) : Nx V V' := ⟨r.vm, r.room, by have := r.kl; omega, by have := r.moved; omega, by have := r.packs; omega⟩
/-- a Put, whatever it answers -/
theorem fput {w W : World} {b room k : Nat} {V : Vl} (f : FI w W b room k V) (hk : k ≤ 1000) {A : Option Addr} {n c : Nat} {ys : List Int} (hs : Src w A n ys) :
    Calls Try.prog 9 #[.pointer (some ⟨b, 0, none⟩), .slice A n c] W fun e w' => ∃ v V', e = .returned v ∧ FI w w' b room (k + 1) V' := by
  obtain ⟨h, hx⟩ := f.at_
  have h1 := f.kl
  have h2 := f.moved
  have h3 := f.packs
  refine (put_any (c := c) hx f.vm (hs.kept f.grown) (fun hn0 q o e ho => ?_) (by omega) (by omega) (by omega)).mono ?_
  · obtain ⟨_, hz, _⟩ := hs
    have := (hx.own_lo ho).1
    rcases hz with hz | ⟨q2, o2, e2, hq2, _⟩
    · exact hn0 hz
    · rw [e] at e2
      injection e2 with e2
      injection e2 with e2
      omega
  · rintro e w' (⟨_, he, hg⟩ | ⟨_, num, h', V', he, hx', hst, r⟩)
    · exact ⟨_, V, he, (f.more hg).up⟩
    · exact ⟨_, V', he, f.step hx hx' hst r.nx⟩
theorem fdrop {w W : World} {b room k : Nat} {V : Vl} (f : FI w W b room k V) (hk : k ≤ 1000) (i : Int) :
    Calls Try.prog 12 #[.pointer (some ⟨b, 0, none⟩), .int .i64 i] W fun e w' => ∃ v V', e = .returned v ∧ FI w w' b room (k + 1) V' := by
  obtain ⟨h, hx⟩ := f.at_
  have h1 := f.kl
  refine (drop_any hx f.vm (by omega) i).mono ?_
  rintro e w' (⟨he, hg, _⟩ | ⟨k2, a, m, _, hb, he, h', V', hx', hst, r⟩)
  · exact ⟨_, V, he, (f.more hg).up⟩
  · exact ⟨_, V', he, f.step hx hx' hst r.nx⟩
theorem info_of {P : Program} {t : TypeId} {z : Value} {s b : Nat} (h : (P.info? t).map (fun i => (i.zero, i.size, i.bytes)) = some (some z, s, b)) : ∃ i, P.info? t = some i ∧ i.zero = some z ∧ i.size = s ∧ i.bytes = b := by
  obtain ⟨i, hi, hz⟩ := Option.map_eq_some_iff.1 h
  simp only [Prod.mk.injEq] at hz
  exact ⟨i, hi, hz.1, hz.2.1, hz.2.2⟩
theorem make31 (n : Nat) (hn : n ≤ 100000) (z : Int) (hz : z = (n : Int)) (w : World) : (Instr.makeSlice 31 (.int .i64 z) (.int .i64 z)).run Try.prog w = .ok (.slice (some ⟨w.heap.size, 0, none⟩) n n) (w.alloc (.cells (madeCells #[.int .u8 0] n) 5)) := by
  subst hz
  obtain ⟨i, hi, hz, hs, hb⟩ := info_of info5
  have hr := run_make (P := Try.prog) w 31 5 i _ Try.underlying31 hi hz .i64 .i64 n n (by omega) (Int.le_refl _) (by rw [hb]; omega) (by omega)
  rw [hr, hs, Int.toNat_natCast, Nat.mul_one]; rfl
theorem made_zero (n j : Nat) (hj : j < n) : (madeCells #[.int .u8 0] n)[j]? = some (.int .u8 0) := by
  unfold madeCells
  rw [Array.getElem?_map, show (Array.range n)[j]? = some j by simp [hj]]
  simp [Nat.mod_one]
theorem made_src (w : World) (n : Nat) : Src (w.alloc (.cells (madeCells #[.int .u8 0] n) 5)) (some ⟨w.heap.size, 0, none⟩) n (List.replicate n 0) := by
  refine ⟨by simp, .inr ⟨_, 0, rfl, by simp, fun j u hu => ?_⟩, fun y hy => by have := List.eq_of_mem_replicate hy; omega⟩
  have hj : j < n := by
    have := (List.getElem?_eq_some_iff.1 hu).1
    rw [rvals_len benc_len, List.length_replicate] at this
    omega
  have h2 := rvals_get benc_len (l := List.replicate n (0 : Int)) (i := j) (x := 0) (by rw [List.getElem?_replicate, if_pos hj]) (j := 0) (by omega)
  simp only [Nat.mul_one, Nat.add_zero] at h2
  rw [hu] at h2
  have := cell_of_head (heap_alloc_new w (.cells (madeCells #[.int .u8 0] n) 5)) j
  rw [made_zero n j hj] at this
  rw [Nat.zero_add, this, h2]
  rfl
set_option maxHeartbeats 1000000 in
theorem full_main (r : Nat) (hr : r ≤ 65535) (l : List AV) (A : Option Addr) (L cap : Nat) (hL : l.length = L) (h60 : L ≤ 60) (w : World) (ha : ActsAt w A l) :
    Calls Try.prog 5 #[.int .u16 (r : Int), .slice A L cap] w fun e w' => e = .returned (.bool true) ∧ w.grownBy w' none := by
  have HN := Lib.hid (new_any w r (by omega))
  have HA := Lib.hid ha
  have HL := Lib.hid hL
  have h60' : ¬ (60 : Int) < (L : Int) := by omega
  have hr0 : (r : Int) ≤ 65535 := by omega
  clear ha hL
  go_enter Try.func5, Try.ntmps5
  go_wp2_with fail
  refine HN.out.mono ?_
  rintro e w1 ⟨rfl, v, hx, hg⟩
  have HF : Hid (FI w w1 w.heap.size r 0 ⟨r, [], [], [], if r = 0 then [] else [(0, (r : Int))], 0, 0, 0⟩) := Lib.hid ⟨⟨_, hx⟩, VM.new r (by omega), rfl, by simp, by simp, by simp, hg⟩
  obtain ⟨B, HB⟩ : ∃ B, Hid (w.heap.size = B) := ⟨_, Lib.hid rfl⟩
  rw [HB.out] at HF ⊢
  clear hx hg HN
  go_wp2_with fail
  go_loopw [34] (fun i wr => ∃ (k : Nat) (V : Vl), k ≤ L ∧ i = .int .i64 (k : Int) ∧ Hid (FI w wr B r k V)) (fun i _ => L - (intOf i).toNat)
  case atStart => exact ⟨0, _, by omega, by go_num, HF⟩
  case round =>
    obtain ⟨k, V, hk, rfl, HK⟩ := hrel
    clear HF
    by_cases hlt : k < L
    · obtain ⟨a, HAK⟩ : ∃ a, Hid (l[k]? = some a) := ⟨_, Lib.hid (List.getElem?_eq_getElem (by rw [HL.out]; exact hlt))⟩
      rcases HA.out.kept HK.out.grown with e | ⟨g, off, rfl, hc⟩
      · rw [e] at HAK; have := HAK.out; simp at this
      · obtain ⟨p0, p1, p2, p3⟩ := hc k a HAK.out
        obtain ⟨pt, A2, n2, c2, nm, ys⟩ := a
        dsimp only at p0 p1 p2 p3
        have HS : Hid (Src w A2 n2 ys) := Lib.hid (by
          rcases HA.out with e | ⟨g2, off2, e2, hc2⟩
          · rw [e] at HAK; have := HAK.out; simp at this
          · exact (hc2 k _ HAK.out).2.2.2)
        clear hc p3 HA
        have HK2 : Hid (FI w (wr.alloc (.cells #[.bool pt, .slice A2 n2 c2, .int .i64 nm] 33)) B r k V) := Lib.hid (HK.out.more (World.grownBy_alloc _ _ none))
        have hk0 : k ≤ 1000 := by omega
        by_cases hbig : 2000 < n2
        · have hb1 : (2000 : Int) < (n2 : Int) := by omega
          go_wp2_with fail
          refine (alive_at _).mono ?_
          rintro e w3 ⟨rfl, hg3⟩
          have HG := Lib.hid (grown_trans HK2.out.grown hg3)
          clear hg3
          go_wp2
          go_ret
          exact ⟨rfl, HG.out⟩
        · have hb1 : ¬ (2000 : Int) < (n2 : Int) := by omega
          cases hpt : pt with
          | true =>
            subst hpt
            have HC := Lib.hid (fput (c := c2) HK2.out hk0 HS.out)
            clear HK2 HK
            go_wp2_with fail
            refine HC.out.mono ?_
            rintro e w3 ⟨v3, V3, rfl, f3⟩
            have HK3 := Lib.hid f3
            clear f3 HC
            go_wp2
            go_round
            case rel => exact ⟨k + 1, V3, by omega, by go_num, HK3⟩
            case measure => simp only [intOf]; omega
          | false =>
            subst hpt
            have HC := Lib.hid (fdrop HK2.out hk0 nm)
            clear HK2 HK
            go_wp2_with fail
            refine HC.out.mono ?_
            rintro e w3 ⟨v3, V3, rfl, f3⟩
            have HK3 := Lib.hid f3
            clear f3 HC
            go_wp2
            go_round
            case rel => exact ⟨k + 1, V3, by omega, by go_num, HK3⟩
            case measure => simp only [intOf]; omega
    · obtain ⟨h, hx⟩ := HK.out.at_
      have hv := HK.out.vm
      have hroom := HK.out.room
      have hur := hv.ur
      have hkl := HK.out.kl
      have hmv := HK.out.moved
      have hpk := HK.out.packs
      obtain ⟨us, HUS⟩ : ∃ us, Hid (V.used = us) := ⟨_, Lib.hid rfl⟩
      have cR := room_at hx
      have cU := used_at hx
      rw [hroom] at cR hur
      rw [HUS.out] at cU hur
      obtain ⟨lf, hlf⟩ : ∃ lf, lf = r - us := ⟨_, rfl⟩
      have hle : us ≤ r := by omega
      have m1 := make31 (lf + 1) (by omega) ((r : Int) - (us : Int) + 1) (by omega)
      have m2 := make31 lf (by omega) ((r : Int) - (us : Int)) (by omega)
      have HX := Lib.hid hx
      have HV := Lib.hid (And.intro hv (And.intro hroom (And.intro hkl (And.intro hmv (And.intro hpk hlf)))))
      have HG := Lib.hid HK.out.grown
      have i0 : ¬ ((r : Int) - (us : Int) < 0) := by omega
      have i1 : ¬ ((r : Int) < (r : Int) - (us : Int)) := by omega
      clear hx hv hroom hur hkl hmv hpk hlf HK
      go_wp2_with fail
      refine cR.mono ?_
      rintro e w' ⟨rfl, rfl⟩
      go_wp2_with fail
      refine cU.mono ?_
      rintro e w' ⟨rfl, rfl⟩
      clear cR cU
      go_wp2_with fail
      have hgA := World.grownBy_alloc wr (.cells (madeCells #[.int .u8 0] (lf + 1)) 5) none
      refine (put_full (HX.out.kept hgA) _ (lf + 1) _ HV.out.1.room (by have := HV.out.1.ur; omega) (by have h1 := HV.out.2.1; have h2 := HUS.out; have h3 := HV.out.2.2.2.2.2; omega)).mono ?_
      rintro e w2 ⟨rfl, hg2⟩
      have HG2 := Lib.hid (grown_trans hgA hg2)
      have HX2 := Lib.hid (HX.out.kept HG2.out)
      clear hg2 hgA
      go_wp2_with fail
      have hgB := World.grownBy_alloc w2 (.cells (madeCells #[.int .u8 0] lf) 5) none
      refine (put_any (c := lf) (HX2.out.kept hgB) HV.out.1 (made_src w2 lf) (fun _ q o e ho => by
        injection e with e
        injection e with e
        have := (HX2.out.own_lo ho).2
        omega) (by have := HV.out.2.2.1; omega) (by have := HV.out.2.2.2.1; omega) (by have := HV.out.2.2.2.2.1; omega)).mono ?_
      rintro e w3 (⟨hbad, _⟩ | ⟨_, num, h3, V3, rfl, hx3, hs3, r3⟩)
      · have h1 := HV.out.2.1; have h2 := HUS.out; have h3 := HV.out.2.2.2.2.2; omega
      · have hu3 : V3.used = r := by have h1 := HV.out.2.1; have h2 := HUS.out; have h3 := HV.out.2.2.2.2.2; have := r3.used; omega
        have HX3 := Lib.hid hx3
        have HV3 := Lib.hid (And.intro r3.vm (And.intro (r3.room.trans HV.out.2.1) hu3))
        have HG3 : Hid (w.grownBy w3 none) := Lib.hid (hs3.grown (lo := 0) (grown_trans HG.out (grown_trans HG2.out hgB)) fun j hj => ((HX2.out.kept hgB).own_lo hj).1)
        clear hx3 hs3 r3 hu3 hgB
        go_wp2_with fail
        have hgC := World.grownBy_alloc w3 (.cells #[.int .u8 1] 5) none
        refine (put_full (HX3.out.kept hgC) _ 1 _ HV3.out.1.room (by have := HV3.out.1.ur; omega) (by have h1 := HV3.out.2.1; have h2 := HV3.out.2.2; omega)).mono ?_
        rintro e w4 ⟨rfl, hg4⟩
        have HG4 := Lib.hid (grown_trans hgC hg4)
        have cU4 := used_at (HX3.out.kept HG4.out)
        rw [HV3.out.2.2] at cU4
        clear hg4 hgC
        go_wp2_with fail
        refine cU4.mono ?_
        rintro e w' ⟨rfl, rfl⟩
        clear cU4
        go_wp2_with fail
        refine (alive_at _).mono ?_
        rintro e w5 ⟨rfl, hg5⟩
        have HG5 := Lib.hid (grown_trans (grown_trans HG3.out HG4.out) hg5)
        clear hg5
        go_wp2
        go_ret
        exact ⟨rfl, HG5.out⟩
theorem grown_belowF {a b : World} (h : a.grownBy b none) : Below a.heap.size a b :=
  (Below.refl _ a).grown h (Nat.le_refl _) (by simp)
set_option maxHeartbeats 1000000 in
theorem vaultFull_law (a0 : Int) (A : Option Addr) (L cap : Nat) (l : List AV) (w : World) (w0 : (Lit.int .u16 a0).wf = true) (hL : l.length = L) (ha : ActsAt w A l) :
    Calls Try.prog 5 #[.int .u16 a0, .slice A L cap] w fun e w' => e = .returned (.bool true) ∧ Below w.heap.size w w' := by
  have hb := bounds_u16 w0
  obtain ⟨r, rfl⟩ : ∃ r : Nat, a0 = r := ⟨a0.toNat, by omega⟩
  by_cases h60 : L ≤ 60
  · exact (full_main r (by omega) l A L cap hL h60 w ha).mono fun e w' ⟨h1, h2⟩ => ⟨h1, grown_belowF h2⟩
  · have h60' : (60 : Int) < (L : Int) := by omega
    have HN := Lib.hid (new_any w r (by omega))
    have hr0 : (r : Int) ≤ 65535 := by omega
    clear ha hL w0 hb h60
    go_enter Try.func5, Try.ntmps5
    go_wp2_with fail
    refine HN.out.mono ?_
    rintro e w1 ⟨rfl, v, hx, hg⟩
    have HG := Lib.hid hg
    clear hx hg HN
    go_wp2_with fail
    refine (alive_at _).mono ?_
    rintro e w2 ⟨rfl, hg2⟩
    have HG2 := Lib.hid (grown_trans HG.out hg2)
    clear hg2
    go_wp2
    go_ret
    exact ⟨rfl, grown_belowF HG2.out⟩
end Go.Proofs.Ythpcjgfbngemiaa
