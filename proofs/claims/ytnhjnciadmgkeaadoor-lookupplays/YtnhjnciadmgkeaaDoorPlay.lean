/-
  The walk of the law that what any Puts and Drops make of a table is as the document says.
-/
import Derived.Test.YtnhjnciadmgkeaaDoorActs
namespace Go.Proofs.YtnhjnciadmgkeaaDoor
open Go.ChangeShapes Go.WideShapes Go.ChangeAt Go.RowKit
set_option linter.unusedVariables false
set_option maxRecDepth 100000
/-- what play tells -/
def PlayPost (w : World) (lo b : Nat) (e : Ending) (w' : World) : Prop := ∃ A n c s T ps, e = .returned (.tuple #[.agg #[.slice A n c, .int .i64 s], .bool true]) ∧ IsT w' lo b T ∧ RL T ps ∧ PRow w' 0 A n c ps ∧ n ≤ 150 ∧ T.mv ≤ 600 ∧ Keep lo w w'
set_option maxHeartbeats 1000000 in
theorem play_at (w : World) (lo b : Nat) (AA : Option Addr) (len cap : Nat) (acts : List ActV) (key0 : Int) (hlen : acts.length = len) (hok : ∀ a ∈ acts, a.ok) (hA : ActsAt w lo AA acts) (h150 : len ≤ 150) (hT : IsT w lo b Tb.new) (htab : Tab w) (hlo : 1 < lo) (hlw : lo ≤ w.heap.size) (hk0 : Wd key0) :
    Calls Tryd.prog 8 #[.pointer (some ⟨b, 0, none⟩), .agg #[.slice none 0 0, .int .i64 8], .slice AA len cap, .int .u64 key0] w (PlayPost w lo b) := by
  obtain ⟨hgB, hzB, b0, b1⟩ := alloc22 w (.slice none 0 0) (.int .i64 8) (.slice none 0 0) (.int .i64 0) 29
  have HP0 : Hid (PI w lo b w.heap.size 0 Tb.new [] none 0 0 8 ((w.alloc (.cells #[.slice none 0 0, .int .i64 8] 29)).alloc (.cells #[.slice none 0 0, .int .i64 0] 29))) :=
    Lib.hid ⟨hT.kept hgB, RL.new, ⟨World.ownsRow_nil _ _ _ _, rfl⟩, b0, b1, rfl, Nat.zero_le _, Nat.le_refl _, Keep.of_new hgB⟩
  have HTab := Lib.hid htab
  have HLo := Lib.hid (⟨hlo, hlw⟩ : 1 < lo ∧ lo ≤ w.heap.size)
  have HLen := Lib.hid hlen
  have HOK := Lib.hid hok
  have HA := Lib.hid hA
  have HK0 := Lib.hid hk0
  clear hgB hzB b0 b1 hlen hok hA hT htab hlo hlw hk0
  go_enter Tryd.func8, Tryd.ntmps8
  go_wp2_with fail
  generalize (w.alloc (.cells #[.slice none 0 0, .int .i64 8] 29)).alloc (.cells #[.slice none 0 0, .int .i64 0] 29) = w3 at *
  obtain ⟨B, HB⟩ : ∃ B, Hid (w.heap.size = B) := ⟨_, Lib.hid rfl⟩
  rw [HB.out] at HP0 ⊢
  go_loopw [18] (fun k wr => ∃ (k' : Nat) (T : Tb) (ps : List (Int × Int)) (A : Option Addr) (n c : Nat) (s : Int), k' ≤ len ∧ k = .int .i64 (k' : Int) ∧ Hid (PI w lo b B k' T ps A n c s wr)) (fun k _ => len - (intOf k).toNat)
  case atStart => exact ⟨0, _, _, _, _, _, _, by omega, by go_num, HP0⟩
  case round =>
    obtain ⟨k, T, ps, A, n, c, s, hk, rfl, HP⟩ := hrel
    clear HP0
    by_cases hlt : k < len
    · obtain ⟨v, Hv⟩ : ∃ v, Hid (acts[k]? = some v) := ⟨_, Lib.hid (List.getElem?_eq_getElem (by rw [HLen.out]; exact hlt))⟩
      obtain ⟨b1, o1, rfl, hb1, a0, a1, a2⟩ := (HA.out.keep HP.out.keep).some Hv.out
      have hvok := HOK.out v (List.mem_of_getElem? Hv.out)
      have HWd := Lib.hid hvok.wd
      have HN32 := Lib.hid hvok.n32
      obtain ⟨kind, key, node⟩ := v
      simp only at a0 a1 a2 HWd HN32
      clear hvok Hv
      have hga := World.grownBy_alloc wr (.cells #[.int .i64 kind, .int .u64 key, .int .i32 node] 51) none
      have HP4 := Lib.hid (HP.out.grow hga)
      have HBA4 := Lib.hid (heap_alloc_new wr (.cells #[.int .i64 kind, .int .u64 key, .int .i32 node] 51))
      obtain ⟨Ba, HBa⟩ : ∃ Ba, Hid (wr.heap.size = Ba) := ⟨_, Lib.hid rfl⟩
      have hkI : (k : Int) < (len : Int) := by omega
      clear hga HP
      go_wp2_with fail
      rw [HBa.out] at HBA4 ⊢
      clear a0 a1 a2 hb1 HBa
      generalize wr.alloc (.cells #[.int .i64 kind, .int .u64 key, .int .i32 node] 51) = w4 at *
      obtain ⟨mv, HMv⟩ : ∃ mv, Hid (T.mv = mv) := ⟨_, Lib.hid rfl⟩
      have cm := moves_is HP4.out.tb
      rw [HMv.out] at cm
      refine cm.mono ?_
      rintro e w5 ⟨rfl, rfl⟩
      clear cm
      obtain ⟨e0, e1, e2⟩ := cells3 HBA4.out
      by_cases hkk : kind = 0
      · subst hkk
        have hd := drop_is HP4.out.tb key HWd.out (HTab.out.keep HP4.out.keep HLo.out.1) HLo.out.1 (by have := HP4.out.mv; omega)
        have HD := Lib.hid hd
        clear hd
        go_wp2_with fail
        refine HD.out.mono ?_
        rintro e w5 ⟨rfl, T', hT', hrel, hkp⟩
        obtain ⟨hrl', hbb⟩ := HP4.out.rl.drop HWd.out hrel
        have HBB := Lib.hid hbb
        clear hbb
        obtain ⟨bb, HBb⟩ : ∃ bb, Hid ((T.look key).isSome = bb) := ⟨_, Lib.hid rfl⟩
        rw [HBb.out]
        have hbox5 := hkp.other HP4.out.box rfl
        have hact5 := hkp.other HBA4.out rfl
        have hres5 := hkp.other HP4.out.res rfl
        have hrow5 := HP4.out.row.keep hkp
        obtain ⟨x0, x1, x2, x3, x4⟩ := cells2 hbox5
        clear e0 e1 e2
        obtain ⟨e0, e1, e2⟩ := cells3 hact5
        have HT5 := Lib.hid hT'
        have HK5 := Lib.hid (HP4.out.keep.trans hkp)
        have HX5 := Lib.hid hbox5
        have HA5 := Lib.hid hact5
        have HR5 := Lib.hid hres5
        clear hbox5 hact5 hres5 hkp hT' HD
        have cr := rdrop_at hrow5 s key (by have := HP4.out.few; omega)
        have HCR := Lib.hid cr
        clear cr
        go_wp2_with fail
        refine HCR.out.mono ?_
        rintro e w6 ⟨A', n', c', rfl, hrow6, hg6⟩
        have hn6 : n' = (pdrop key ps).length := hrow6.2
        have hlt6 : decide (n' < n) = bb := by rw [← HBb.out, HBB.out, hn6, ← HP4.out.row.2]
        rw [hlt6]
        have hbox6 := kept2 HX5.out hg6
        have hact6 := kept2 HA5.out hg6
        have hres6 := kept2 HR5.out hg6
        obtain ⟨x0, x1, x2, x3, x4⟩ := cells2 hbox6
        have hBB : Ba ≠ B := fun e => by rw [e, HX5.out] at HA5; cases HA5.out
        have hact7 : ((w6.setCell ⟨B, 0, none⟩ (.slice A' n' c')).setCell ⟨B, 1, none⟩ (.int .i64 s)).heap[Ba]? = some (.cells #[.int .i64 0, .int .u64 key, .int .i32 node] 51 (0, 0)) := (heap_setCell_other _ _ _ _ hBB).trans ((heap_setCell_other _ _ _ _ hBB).trans hact6)
        have HP7 : Hid (PI w lo b B (k + 1) T' (pdrop key ps) A' n' c' s ((w6.setCell ⟨B, 0, none⟩ (.slice A' n' c')).setCell ⟨B, 1, none⟩ (.int .i64 s))) := Lib.hid
          ⟨((HT5.out.kept hg6).set29 hbox6).set29 (head_set hbox6 0 _), hrl', (PRow.set29 (PRow.set29 ⟨owns_base hrow6.1 (Nat.zero_le _), hrow6.2⟩ hbox6) (head_set hbox6 0 _)), head_set (head_set hbox6 0 _) 1 _,
            (heap_setCell_other _ _ _ _ (by simp)).trans ((heap_setCell_other _ _ _ _ (by simp)).trans hres6), by rw [HP4.out.sl, hrel.k], by have h1 := hrel.mv4; have h2 := HP4.out.mv; omega, by have h1 := pdrop_len key ps; have h2 := HP4.out.few; have h3 := HP4.out.row.2; omega,
            ((HK5.out.trans (Keep.of_new hg6)).set_new (by rw [HB.out]; omega)).set_new (by rw [HB.out]; omega)⟩
        have HA7 := Lib.hid hact7
        have hm0 : mv ≤ T'.mv := by rw [← HMv.out]; exact hrel.mv0
        have hm4 : T'.mv ≤ mv + 4 := by rw [← HMv.out]; exact hrel.mv4
        have hmv9 : T'.mv ≤ 1000 := by have := HP7.out.mv; omega
        clear hbox6 hact6 hres6 hact7 hg6 hrow6 hrl' hrel hrow5 HT5 HK5 HX5 HA5 HR5 HCR hlt6 hn6 HBB e0 e1 e2 HP4 HBA4 HMv HBb 
        go_wp2_with fail
        clear x0 x1 x2 x3 x4
        generalize (w6.setCell ⟨B, 0, none⟩ (.slice A' n' c')).setCell ⟨B, 1, none⟩ (.int .i64 s) = w7 at *
        obtain ⟨mv', HMv'⟩ : ∃ mv', Hid (T'.mv = mv') := ⟨_, Lib.hid rfl⟩
        rw [HMv'.out] at hm0 hm4 hmv9
        have cm := moves_is HP7.out.tb
        rw [HMv'.out] at cm
        refine cm.mono ?_
        rintro e w5 ⟨rfl, rfl⟩
        clear cm
        obtain ⟨x0, x1, x2, x3, x4⟩ := cells2 HP7.out.box
        obtain ⟨e0, e1, e2⟩ := cells3 HA7.out
        have d1 : decide ((mv' : Int) < (mv : Int)) = false := by simp; omega
        have d2 : decide (4 < (mv' : Int) - (mv : Int)) = false := by simp; omega
        cases bb <;>
        · go_wp2_with fail
          clear x0 x1 x2 x3 x4 e0 e1 e2
          have ca := stands_at HP7.out.tb HP7.out.rl HP7.out.row (HTab.out.keep HP7.out.keep HLo.out.1) key HWd.out (by have := HP7.out.few; omega)
          rw [← HP7.out.sl] at ca
          refine ca.mono ?_
          rintro e w8 ⟨rfl, hg8⟩
          have HP8 := Lib.hid (HP7.out.grow hg8)
          clear ca hg8 HP7 HA7
          obtain ⟨x0, x1, x2, x3, x4⟩ := cells2 HP8.out.box
          go_wp2_with fail
          clear x0 x1 x2 x3 x4
          have ca := stands_at HP8.out.tb HP8.out.rl HP8.out.row (HTab.out.keep HP8.out.keep HLo.out.1) key0 HK0.out (by have := HP8.out.few; omega)
          rw [← HP8.out.sl] at ca
          refine ca.mono ?_
          rintro e w9 ⟨rfl, hg8⟩
          have HP9 := Lib.hid (HP8.out.grow hg8)
          clear ca hg8 HP8
          go_wp2_with fail
          have cm := moves_is HP9.out.tb
          rw [HMv'.out] at cm
          refine cm.mono ?_
          rintro e w5 ⟨rfl, rfl⟩
          clear cm
          go_wp2_with fail
          go_roundw
          · exact ⟨k + 1, _, _, _, _, _, _, by omega, by go_num, HP9⟩
          · simp only [intOf]; omega
      · have hkb : (kind == 0) = false := beq_eq_false_iff_ne.2 hkk
        have hlow : (2 ^ T.k : Nat) ≤ 2 ^ 30 := by
          obtain ⟨⟨gN, gO, hta⟩, _⟩ := HP4.out.tb
          exact Nat.pow_le_pow_right (by decide) hta.k30
        have hd := put_is HP4.out.tb key node HWd.out HN32.out (HTab.out.keep HP4.out.keep HLo.out.1) HLo.out.1 (by have := HP4.out.mv; omega) (by have := HP4.out.cnt; have := HP4.out.few; omega)
        have HD := Lib.hid hd
        clear hd
        go_wp2_with fail
        refine HD.out.mono ?_
        rintro e w5 ⟨rfl, T', hT', hrel, hkp⟩
        obtain ⟨hrl', hbb, hsl'⟩ := HP4.out.rl.put HP4.out.tb.2.half HWd.out hrel
        have HBB := Lib.hid hbb
        have HSL' := Lib.hid hsl'
        clear hbb hsl'
        obtain ⟨bb, HBb⟩ : ∃ bb, Hid ((!(T.look key).isSome) = bb) := ⟨_, Lib.hid rfl⟩
        rw [HBb.out]
        have hbox5 := hkp.other HP4.out.box rfl
        have hact5 := hkp.other HBA4.out rfl
        have hres5 := hkp.other HP4.out.res rfl
        have hrow5 := HP4.out.row.keep hkp
        obtain ⟨x0, x1, x2, x3, x4⟩ := cells2 hbox5
        clear e0 e1 e2
        obtain ⟨e0, e1, e2⟩ := cells3 hact5
        have HT5 := Lib.hid hT'
        have HK5 := Lib.hid (HP4.out.keep.trans hkp)
        have HX5 := Lib.hid hbox5
        have HA5 := Lib.hid hact5
        have HR5 := Lib.hid hres5
        clear hbox5 hact5 hres5 hkp hT' HD
        have hsb : 0 ≤ s ∧ s ≤ 1099511627776 := by
          rw [HP4.out.sl]
          exact ⟨Int.natCast_nonneg _, Int.le_trans (Int.ofNat_le.2 hlow) (by decide)⟩
        have cr := rput_at hrow5 s key node (by have := HP4.out.few; omega) hsb
        have HCR := Lib.hid cr
        clear cr
        go_wp2_with fail
        refine HCR.out.mono ?_
        rintro e w6 ⟨A', n', c', m', rfl, hrow6, hm6, hg6⟩
        have hlt6 : (!decide (m' < n)) = bb := by rw [← HBb.out, HBB.out, hm6, ← HP4.out.row.2]
        rw [hlt6]
        have hn6 : n' = (pput key node ps).length := hrow6.2
        have hsl6 : pslots s n' = ((2 ^ T'.k : Nat) : Int) := by rw [HP4.out.sl, hn6]; exact HSL'.out
        have hbox6 := kept2 HX5.out hg6
        have hact6 := kept2 HA5.out hg6
        have hres6 := kept2 HR5.out hg6
        obtain ⟨x0, x1, x2, x3, x4⟩ := cells2 hbox6
        have hBB : Ba ≠ B := fun e => by rw [e, HX5.out] at HA5; cases HA5.out
        have hact7 : ((w6.setCell ⟨B, 0, none⟩ (.slice A' n' c')).setCell ⟨B, 1, none⟩ (.int .i64 (pslots s n'))).heap[Ba]? = some (.cells #[.int .i64 kind, .int .u64 key, .int .i32 node] 51 (0, 0)) := (heap_setCell_other _ _ _ _ hBB).trans ((heap_setCell_other _ _ _ _ hBB).trans hact6)
        have HP7 : Hid (PI w lo b B (k + 1) T' (pput key node ps) A' n' c' (pslots s n') ((w6.setCell ⟨B, 0, none⟩ (.slice A' n' c')).setCell ⟨B, 1, none⟩ (.int .i64 (pslots s n')))) := Lib.hid
          ⟨((HT5.out.kept hg6).set29 hbox6).set29 (head_set hbox6 0 _), hrl', (PRow.set29 (PRow.set29 ⟨owns_base hrow6.1 (Nat.zero_le _), hrow6.2⟩ hbox6) (head_set hbox6 0 _)), head_set (head_set hbox6 0 _) 1 _,
            (heap_setCell_other _ _ _ _ (by simp)).trans ((heap_setCell_other _ _ _ _ (by simp)).trans hres6), hsl6, by have h1 := hrel.mv4; have h2 := HP4.out.mv; omega, by have h0 := pput_len key node ps; have h1 := pdrop_len key ps; have h2 := HP4.out.few; have h3 := HP4.out.row.2; omega,
            ((HK5.out.trans (Keep.of_new hg6)).set_new (by rw [HB.out]; omega)).set_new (by rw [HB.out]; omega)⟩
        have HA7 := Lib.hid hact7
        have hm0 : mv ≤ T'.mv := by rw [← HMv.out]; exact hrel.mv0
        have hm4 : T'.mv ≤ mv + 4 := by rw [← HMv.out]; exact hrel.mv4
        have hmv9 : T'.mv ≤ 1000 := by have := HP7.out.mv; omega
        obtain ⟨s', HS'⟩ : ∃ s', Hid (pslots s n' = s') := ⟨_, Lib.hid rfl⟩
        rw [HS'.out] at HP7 HA7 ⊢
        clear hbox6 hact6 hres6 hact7 hg6 hrow6 hrl' hrel hrow5 HT5 HK5 HX5 HA5 HR5 HCR hlt6 hn6 HBB e0 e1 e2 HP4 HBA4 HMv HBb hsl6 HS' hm6 HSL' hsb hlow
        go_wp2_with fail
        clear x0 x1 x2 x3 x4
        generalize (w6.setCell ⟨B, 0, none⟩ (.slice A' n' c')).setCell ⟨B, 1, none⟩ (.int .i64 s') = w7 at *
        obtain ⟨mv', HMv'⟩ : ∃ mv', Hid (T'.mv = mv') := ⟨_, Lib.hid rfl⟩
        rw [HMv'.out] at hm0 hm4 hmv9
        have cm := moves_is HP7.out.tb
        rw [HMv'.out] at cm
        refine cm.mono ?_
        rintro e w5 ⟨rfl, rfl⟩
        clear cm
        obtain ⟨x0, x1, x2, x3, x4⟩ := cells2 HP7.out.box
        obtain ⟨e0, e1, e2⟩ := cells3 HA7.out
        have d1 : decide ((mv' : Int) < (mv : Int)) = false := by simp; omega
        have d2 : decide (4 < (mv' : Int) - (mv : Int)) = false := by simp; omega
        cases bb <;>
        · go_wp2_with fail
          clear x0 x1 x2 x3 x4 e0 e1 e2
          have ca := stands_at HP7.out.tb HP7.out.rl HP7.out.row (HTab.out.keep HP7.out.keep HLo.out.1) key HWd.out (by have := HP7.out.few; omega)
          rw [← HP7.out.sl] at ca
          refine ca.mono ?_
          rintro e w8 ⟨rfl, hg8⟩
          have HP8 := Lib.hid (HP7.out.grow hg8)
          clear ca hg8 HP7 HA7
          obtain ⟨x0, x1, x2, x3, x4⟩ := cells2 HP8.out.box
          go_wp2_with fail
          clear x0 x1 x2 x3 x4
          have ca := stands_at HP8.out.tb HP8.out.rl HP8.out.row (HTab.out.keep HP8.out.keep HLo.out.1) key0 HK0.out (by have := HP8.out.few; omega)
          rw [← HP8.out.sl] at ca
          refine ca.mono ?_
          rintro e w9 ⟨rfl, hg8⟩
          have HP9 := Lib.hid (HP8.out.grow hg8)
          clear ca hg8 HP8
          go_wp2_with fail
          have cm := moves_is HP9.out.tb
          rw [HMv'.out] at cm
          refine cm.mono ?_
          rintro e w5 ⟨rfl, rfl⟩
          clear cm
          go_wp2_with fail
          go_roundw
          · exact ⟨k + 1, _, _, _, _, _, _, by omega, by go_num, HP9⟩
          · simp only [intOf]; omega
    · obtain rfl : k = len := by omega
      have hlt' : ¬ ((k : Int) < (k : Int)) := by omega
      obtain ⟨x0, x1, x2, x3, x4⟩ := cells2 HP.out.box
      obtain ⟨y0, y1, y2, y3, y4⟩ := cells2 HP.out.res
      go_wp2
      have hb := head_set (head_set HP.out.res 0 (.slice A n c)) 1 (.int .i64 s)
      refine bodyPost_ret (results_ref2 rfl _ _ _ _ _ _ _ rfl hb) rfl ?_
      refine ⟨A, n, c, s, T, ps, rfl, (HP.out.tb.set29 HP.out.res).set29 (head_set HP.out.res 0 _), HP.out.rl, (HP.out.row.set29 HP.out.res).set29 (head_set HP.out.res 0 _), by have := HP.out.few; omega, by have := HP.out.mv; omega, (HP.out.keep.set_new (by rw [HB.out]; omega)).set_new (by rw [HB.out]; omega)⟩
end Go.Proofs.YtnhjnciadmgkeaaDoor
