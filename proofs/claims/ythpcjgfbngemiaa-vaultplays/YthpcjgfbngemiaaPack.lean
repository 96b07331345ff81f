/-
  The vault is packed: pack.
-/
import Derived.Test.YthpcjgfbngemiaaLay
namespace Go.Proofs.Ythpcjgfbngemiaa
open Go.ChangeShapes Go.WideShapes Go.ChangeAt Go.RowKit
set_option linter.unusedVariables false
set_option maxRecDepth 100000
/-- what lay makes -/
def layF (V : Vl) (i a m t : Nat) : Vl := if a = t then V else { V with bs := over V.bs t ((V.bs.drop a).take m), bk := V.bk.set i ((i : Int), (t : Int), (m : Int)), moved := V.moved + m }
/-- blocks that are laid one behind the other from e on -/
def pkF : List (Int × Int × Int) → Nat → Vl → Vl × Nat
  | [], e, V => (V, e)
  | p :: t, e, V => if 0 < p.2.2 then pkF t (e + p.2.2.toNat) (layF V p.1.toNat p.2.1.toNat p.2.2.toNat e) else pkF t e V
/-- they can be laid so -/
def PkOk : List (Int × Int × Int) → Nat → Vl → Prop
  | [], _, _ => True
  | p :: t, e, V => (¬ 0 < p.2.2 → PkOk t e V) ∧ (0 < p.2.2 → ∃ i a m : Nat, p = ((i : Int), (a : Int), (m : Int)) ∧ V.bk[i]? = some p ∧ e ≤ a ∧ a + m ≤ V.bs.length ∧ V.bs.length ≤ 1048576 ∧ V.bk.length ≤ 1000000 ∧ V.moved ≤ 1000000000000 ∧ PkOk t (e + m) (layF V i a m e))
section
variable {w : World} {lo b : Nat} {h : Hd} {V : Vl}
theorem lay_at (x : VAt w lo b h V) {i a m t : Nat} (hi : V.bk[i]? = some ((i : Int), (a : Int), (m : Int))) (hn : V.bk.length ≤ 1000000) (hm : 0 < m) (ht : t ≤ a) (ham : a + m ≤ V.bs.length) (hb6 : V.bs.length ≤ 1048576) (hmv : V.moved ≤ 1000000000000) :
    Calls Try.prog 55 #[.pointer (some ⟨b, 0, none⟩), .agg #[.int .i64 (i : Int), .int .i64 (a : Int), .int .i64 (m : Int)], .int .i64 (t : Int)] w (LayPost w lo b h V (layF V i a m t)) := by
  unfold layF
  by_cases hat : a = t
  · rw [if_pos hat]
    subst hat
    exact lay_same x _ _ _
  · rw [if_neg hat]
    exact lay_else x hi hn hm (by omega) ham hb6 hmv
def packF (l : List (Int × Int × Int)) (V : Vl) : Vl :=
  let r := pkF l 0 V
  { r.1 with gp := if V.room ≤ r.2 then [] else [((r.2 : Int), ((V.room - r.2 : Nat) : Int))], packs := r.1.packs + 1 }
/-- what pack leaves, if the blocks are told as l -/
def PackPost (w : World) (lo b : Nat) (h : Hd) (V : Vl) (e : Ending) (w' : World) : Prop :=
  e = .returned (.tuple #[]) ∧ ∃ l v, l.Perm (alive V.bk) ∧ l.Pairwise (fun a b => ¬ ltB b a) ∧ VAt w' lo b { h with vG := v } (packF l V) ∧ Stp b h { h with vG := v } w w'
theorem pk_room : ∀ (l : List (Int × Int × Int)) (e : Nat) (V : Vl), (pkF l e V).1.room = V.room ∧ (pkF l e V).1.packs = V.packs ∧ (pkF l e V).1.gp = V.gp
  | [], e, V => ⟨rfl, rfl, rfl⟩
  | p :: t, e, V => by
    unfold pkF
    split
    · have := pk_room t (e + p.2.2.toNat) (layF V p.1.toNat p.2.1.toNat p.2.2.toNat e)
      have h2 : (layF V p.1.toNat p.2.1.toNat p.2.2.toNat e).room = V.room ∧ (layF V p.1.toNat p.2.1.toNat p.2.2.toNat e).packs = V.packs ∧ (layF V p.1.toNat p.2.1.toNat p.2.2.toNat e).gp = V.gp := by unfold layF; split <;> exact ⟨rfl, rfl, rfl⟩
      rw [h2.1, h2.2.1, h2.2.2] at this
      exact this
    · exact pk_room t e V
theorem pk_ge : ∀ (l : List (Int × Int × Int)) (e : Nat) (V : Vl), e ≤ (pkF l e V).2
  | [], e, V => Nat.le_refl _
  | p :: t, e, V => by
    unfold pkF
    split
    · exact Nat.le_trans (Nat.le_add_right _ _) (pk_ge t _ _)
    · exact pk_ge t e V
set_option maxHeartbeats 1000000 in
theorem pack_at (x : VAt w lo b h V) (hn : V.bk.length ≤ 100000) (hroom : V.room ≤ 1048576) (hpk : V.packs ≤ 1000000000000)
    (hok : ∀ l : List (Int × Int × Int), l.Perm (alive V.bk) → l.Pairwise (fun a b => ¬ ltB b a) → PkOk l 0 V ∧ (pkF l 0 V).2 ≤ V.room) :
    Calls Try.prog 41 #[.pointer (some ⟨b, 0, none⟩)] w (PackPost w lo b h V) := by
  have HBL := Lib.hid (blocks_at x hn)
  have HX := Lib.hid x
  have HOK := Lib.hid hok
  clear x hok
  go_enter Try.func41, Try.ntmps41
  go_wp2_with fail
  refine HBL.out.mono ?_
  rintro e w1 ⟨A, c, l, rfl, hperm, hsrt, hrow, hg1⟩
  have HX1 := Lib.hid (HX.out.kept hg1)
  have HG1 := Lib.hid hg1
  have HROW := Lib.hid hrow
  have HPS := Lib.hid (⟨hperm, hsrt⟩ : l.Perm (alive V.bk) ∧ l.Pairwise fun a b => ¬ ltB b a)
  obtain ⟨n, HN⟩ : ∃ n, Hid (l.length = n) := ⟨_, Lib.hid rfl⟩
  have hn6 : n ≤ 100000 := by
    rw [← HN.out, hperm.length_eq]
    exact Nat.le_trans (List.length_filter_le _ _) hn
  clear hperm hsrt hrow hg1 HBL
  rw [HN.out]
  go_wp2_with fail
  go_loopg [2, 8] n (fun m u v wr => ∃ (i e : Nat) (W : Vl), u = .int .i64 (e : Int) ∧ v = .int .i64 (i : Int) ∧ i ≤ n ∧ e ≤ V.room ∧ Hid (m + i = n) ∧ Hid (VAt wr lo b h W ∧ Stp b h h w1 wr ∧ pkF l 0 V = pkF (l.drop i) e W ∧ PkOk (l.drop i) e W))
  case atStart => exact ⟨0, 0, V, by go_num, by go_num, by omega, by omega, Lib.hid (by omega), Lib.hid ⟨HX1.out, Stp.refl _ _ _, rfl, (HOK.out l HPS.out.1 HPS.out.2).1⟩⟩
  case round =>
    obtain ⟨i, e, W, rfl, rfl, hi, hel, HM, HI⟩ := hrel
    have HTot : Hid ((pkF (l.drop i) e W).2 ≤ V.room) := Lib.hid (by rw [← HI.out.2.2.1]; exact (HOK.out l HPS.out.1 HPS.out.2).2)
    by_cases hlt : i < n
    · have hltI : (i : Int) < (n : Int) := by omega
      obtain ⟨p, hp⟩ : ∃ p, l[i]? = some p := ⟨_, List.getElem?_eq_getElem (by rw [HN.out]; exact hlt)⟩
      have hdrop : l.drop i = p :: l.drop (i + 1) := by
        obtain ⟨hil, rfl⟩ := List.getElem?_eq_some_iff.1 hp
        exact List.drop_eq_getElem_cons hil
      have hrow := HROW.out
      obtain ⟨g, cap', e'⟩ := owns_some hrow (by rw [HN.out]; omega)
      injection e' with e1 e2 e3
      subst e1
      clear e2 e3
      have hgw : w.heap.size ≤ g := (hrow.lt g rfl).1
      have hnot : ¬ own b h g := fun ho => by have := (HX.out.own_lo ho).2; omega
      have hrw : wr.ownsRow w.heap.size 59 3 (.slice (some ⟨g, 0, none⟩) l.length c) l.length (rvals kenc l) := owns_stay hrow fun k hk => by
        injection hk with hk
        have hk : g = k := hk
        subst hk
        exact HI.out.2.1.but.block g (hrow.lt g rfl).2 hnot
      have kc := fun j (hj : j < 3) => (hrw.cellAt (i * 3 + j) (by rw [HN.out]; omega)).trans (rvals_get kenc_len hp hj)
      have k0 := kc 0 (by omega)
      have k1 := kc 1 (by omega)
      have k2 := kc 2 (by omega)
      have hix := ix49 g i n c hlt
      have hI := HI.out
      rw [hdrop] at hI
      obtain ⟨hxw, hsw, hpk', hpo⟩ := hI
      have HXW := Lib.hid hxw
      have HSW := Lib.hid hsw
      by_cases hlen : 0 < p.2.2
      · obtain ⟨i', a, m, rfl, hbk, hea, ham, hb6, hbl, hmv, hrest⟩ := hpo.2 hlen
        have hm : 0 < m := by dsimp only at hlen; omega
        have hga := World.grownBy_alloc wr (.cells #[.int .i64 (i' : Int), .int .i64 (a : Int), .int .i64 (m : Int)] 59) none
        have HL := Lib.hid (lay_at (hxw.kept hga) hbk hbl hm hea ham hb6 hmv)
        have HGA := Lib.hid hga
        have hpk2 : pkF l 0 V = pkF (l.drop (i + 1)) (e + m) (layF W i' a m e) := by
          rw [hpk']
          show (if 0 < ((m : Nat) : Int) then _ else _) = _
          rw [if_pos (by omega)]
          rfl
        have HPK2 := Lib.hid hpk2
        have HRest := Lib.hid hrest
        have hem : e + m ≤ V.room := by
          have h1 := pk_ge (l.drop (i + 1)) (e + m) (layF W i' a m e)
          rw [← hpk2] at h1
          exact Nat.le_trans h1 (HOK.out l HPS.out.1 HPS.out.2).2
        have hb := heap_alloc_new wr (.cells #[.int .i64 (i' : Int), .int .i64 (a : Int), .int .i64 (m : Int)] 59)
        have HBX := Lib.hid hb
        have hlI : (0 : Int) < (m : Int) := by omega
        have c0 : wr.cell? ⟨g, i * 3, none⟩ = some (.int .i64 (i' : Int)) := k0
        have c1 : wr.cell? ⟨g, i * 3 + 1, none⟩ = some (.int .i64 (a : Int)) := k1
        have c2 : wr.cell? ⟨g, i * 3 + 2, none⟩ = some (.int .i64 (m : Int)) := k2
        have hld := ld59 c0 c1 c2
        obtain ⟨Bx, HBx⟩ : ∃ Bx, Hid (wr.heap.size = Bx) := ⟨_, Lib.hid rfl⟩
        clear k0 k1 k2 kc hrw hrow hp hdrop hxw hsw hpk' hpo hbk hea ham hb6 hbl hmv hrest hga hpk2 hb hlen
        go_wp2_with fail
        refine HL.out.mono ?_
        rintro e2 w2 ⟨rfl, hx2, hs2⟩
        have hbo : ¬ own b h wr.heap.size := fun ho => by have := (HXW.out.own_lo ho).2; omega
        have hb2 : w2.heap[wr.heap.size]? = some (.cells #[.int .i64 (i' : Int), .int .i64 (a : Int), .int .i64 (m : Int)] 59 (0, 0)) := (hs2.but.block wr.heap.size (by simp) hbo).trans HBX.out
        have z2 := cell_of_head hb2 2
        have HX2 := Lib.hid hx2
        have HS2 := Lib.hid ((HSW.out.trans (Stp.of_new HGA.out)).trans hs2)
        clear hx2 hs2 hbo hb2 HL c0 c1 c2 hld
        go_wp2_with fail
        go_roundg (n - (i + 1))
        case measure => have := HM.out; omega
        case rel => exact ⟨i + 1, e + m, layF W i' a m e, by go_num, by go_num, by omega, hem, Lib.hid (by omega), Lib.hid ⟨HX2.out, HS2.out, HPK2.out, HRest.out⟩⟩
      · obtain ⟨pa, pb, pc⟩ := p
        dsimp only at hlen k0 k1 k2
        have hga := World.grownBy_alloc wr (.cells #[.int .i64 pa, .int .i64 pb, .int .i64 pc] 59) none
        have hpk2 : pkF l 0 V = pkF (l.drop (i + 1)) e W := by
          rw [hpk']
          show (if 0 < pc then _ else _) = _
          rw [if_neg hlen]
        have HN2 : Hid (VAt (wr.alloc (.cells #[.int .i64 pa, .int .i64 pb, .int .i64 pc] 59)) lo b h W ∧ Stp b h h w1 (wr.alloc (.cells #[.int .i64 pa, .int .i64 pb, .int .i64 pc] 59)) ∧ pkF l 0 V = pkF (l.drop (i + 1)) e W ∧ PkOk (l.drop (i + 1)) e W) := Lib.hid ⟨hxw.kept hga, hsw.trans (Stp.of_new hga), hpk2, hpo.1 hlen⟩
        have c0 : wr.cell? ⟨g, i * 3, none⟩ = some (.int .i64 pa) := k0
        have c1 : wr.cell? ⟨g, i * 3 + 1, none⟩ = some (.int .i64 pb) := k1
        have c2 : wr.cell? ⟨g, i * 3 + 2, none⟩ = some (.int .i64 pc) := k2
        have hld := ld59 c0 c1 c2
        clear k0 k1 k2 kc hrw hrow hp hdrop hxw hsw hpk' hpo hga hpk2
        go_wp2_with fail
        go_roundg (n - (i + 1))
        case measure => have := HM.out; omega
        case rel => exact ⟨i + 1, e, W, rfl, by go_num, by omega, hel, Lib.hid (by omega), HN2⟩
    · obtain rfl : i = n := by omega
      have hltI : ¬ ((i : Int) < (i : Int)) := by omega
      have hd : l.drop i = [] := List.drop_of_length_le (by rw [HN.out]; exact Nat.le_refl _)
      have hI := HI.out
      rw [hd] at hI
      obtain ⟨hxw, hsw, hpk', -⟩ := hI
      have hpe : pkF l 0 V = (W, e) := hpk'
      have hrm := pk_room l 0 V
      rw [hpe] at hrm
      obtain ⟨hr1, hr2, hr3⟩ := hrm
      dsimp only at hr1 hr2 hr3
      obtain ⟨hv2, hs2⟩ := hxw.setG (w1 := wr) (l := []) (v := .slice none 0 0) ⟨rfl, rfl, rfl, Nat.le_refl _, fun _ _ _ => rfl⟩ (World.ownsRow_nil _ _ _ _) (.inr (fun k hk => by cases hk))
      have c4 := hxw.c4
      have f4 := hxw.free 4
      have c0 := hxw.c0
      rw [hr1] at c0
      obtain ⟨AG, cG, eG⟩ := owns_slice hxw.rG
      rw [eG] at c4
      have HV2 := Lib.hid hv2
      have HS2 := Lib.hid ((Stp.of_new HG1.out).trans (hsw.trans hs2))
      have HPE := Lib.hid hpe
      have HR := Lib.hid (⟨hr1, hr2⟩ : W.room = V.room ∧ W.packs = V.packs)
      clear hxw hsw hpk' hpe hr1 hr2 hr3 hv2 hs2 eG hd
      obtain ⟨rm, HRM⟩ : ∃ rm, Hid (V.room = rm) := ⟨_, Lib.hid rfl⟩
      rw [HRM.out] at c0 hroom hel
      have HB4 : Hid ((wr.setCell ⟨b, 4, none⟩ (.slice none 0 0)).cell? ⟨b, 6, none⟩ = some (.int .i64 (V.packs : Int))) := Lib.hid (by have := HV2.out.c6; rw [← HR.out.2]; exact this)
      obtain ⟨pk, HPKs⟩ : ∃ pk, Hid (V.packs = pk) := ⟨_, Lib.hid rfl⟩
      rw [HPKs.out] at hpk
      by_cases hre : rm = e
      · subst hre
        have k0 : (rm : Int) - (rm : Int) = 0 := by omega
        have HA := Lib.hid (fun w => addGap_zero (w := w) (rm : Int) (.pointer (some ⟨b, 0, none⟩)))
        go_wp2_with fail
        refine (HA.out _).mono ?_
        rintro e2 w3 ⟨rfl, rfl⟩
        have c6 := HB4.out
        rw [HPKs.out] at c6
        have f6 := HV2.out.free 6
        obtain ⟨hv3, hs3⟩ := HV2.out.packs' (pk + 1)
        have HFin : Hid (PackPost w lo b h V (.returned (.tuple #[])) ((wr.setCell ⟨b, 4, none⟩ (.slice none 0 0)).setCell ⟨b, 6, none⟩ (.int .i64 ((pk + 1 : Nat) : Int)))) := Lib.hid (by
          refine ⟨rfl, l, .slice none 0 0, HPS.out.1, HPS.out.2, ?_, HS2.out.trans hs3⟩
          unfold packF
          rw [HPE.out]
          dsimp only
          rw [if_pos (by rw [HRM.out]; exact Nat.le_refl _), HR.out.2, HPKs.out]
          exact hv3)
        generalize wr.setCell ⟨b, 4, none⟩ (.slice none 0 0) = w4 at *
        clear hv3 hs3 c4 f4 c0
        rw [show ((pk + 1 : Nat) : Int) = (pk : Int) + 1 by omega] at HFin
        go_wp2
        go_end0
        exact HFin.out
      · have hagp := addGap_at HV2.out (by intro p hp; simp at hp) List.Pairwise.nil (by simp) (e : Int) ((rm : Int) - (e : Int)) (by omega)
        have HA := Lib.hid hagp
        clear hagp
        go_wp2_with fail
        refine HA.out.mono ?_
        rintro e2 w3 ⟨i3, hsp, rfl, v3, hv3, hs3⟩
        obtain rfl : i3 = 0 := by have := hsp.le; simpa using this
        have hgp : jn (jn (ins ([] : List (Int × Int)) 0 ((e : Int), (rm : Int) - (e : Int))) ((0 : Nat) : Int)) (((0 : Nat) : Int) - 1) = [((e : Int), ((rm - e : Nat) : Int))] := by
          have : ((rm - e : Nat) : Int) = (rm : Int) - (e : Int) := by omega
          rw [this]
          simp [ins, jn]
        dsimp only at hv3
        rw [hgp] at hv3
        have c6 := hv3.c6
        have f6 := hv3.free 6
        dsimp only at c6
        rw [HR.out.2, HPKs.out] at c6
        obtain ⟨hv4, hs4⟩ := hv3.packs' (pk + 1)
        have HFin : Hid (PackPost w lo b h V (.returned (.tuple #[])) (w3.setCell ⟨b, 6, none⟩ (.int .i64 ((pk + 1 : Nat) : Int)))) := Lib.hid (by
          refine ⟨rfl, l, v3, HPS.out.1, HPS.out.2, ?_, (HS2.out.trans hs3).trans hs4⟩
          unfold packF
          rw [HPE.out]
          dsimp only
          rw [if_neg (by rw [HRM.out]; omega), HR.out.2, HPKs.out, HRM.out]
          exact hv4)
        clear hv3 hs3 hv4 hs4 hgp hsp c4 f4 c0 HA
        rw [show ((pk + 1 : Nat) : Int) = (pk : Int) + 1 by omega] at HFin
        go_wp2
        go_end0
        exact HFin.out
end
end Go.Proofs.Ythpcjgfbngemiaa
