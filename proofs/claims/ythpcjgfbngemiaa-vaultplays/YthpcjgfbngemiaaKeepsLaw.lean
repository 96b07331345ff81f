/-
  The law that a value is told as it was put: its walk.
-/
import Derived.Test.YthpcjgfbngemiaaFullLaw
import Derived.Laws.BytesArg
namespace Go.Proofs.Ythpcjgfbngemiaa
open Go.ChangeShapes Go.WideShapes Go.ChangeAt Go.RowKit
set_option linter.unusedVariables false
set_option maxRecDepth 100000
/-- how a vault stands behind k acts, block num of which is ys -/
structure KI (w wr : World) (b k num m : Nat) (ys : List Int) (h : Hd) (V : Vl) : Prop where
  at_ : VAt wr w.heap.size b h V
  vm : VM V 0 0
  room : V.room = 200000
  kl : V.bk.length ≤ k + 1
  moved : V.moved ≤ (k + 1) * 1048576
  packs : V.packs ≤ k + 1
  used : V.used ≤ (k + 1) * 2000
  blk : ∃ a, Blk V num a m ∧ val V a m = ys
  grown : w.grownBy wr none
section
variable {w wr : World} {b k num m : Nat} {ys : List Int} {h : Hd} {V : Vl}
theorem KI.more {W' : World} (f : KI w wr b k num m ys h V) (hg : wr.grownBy W' none) : KI w W' b k num m ys h V :=
  ⟨f.at_.kept hg, f.vm, f.room, f.kl, f.moved, f.packs, f.used, f.blk, grown_trans f.grown hg⟩
theorem KI.up (f : KI w wr b k num m ys h V) : KI w wr b (k + 1) num m ys h V :=
  ⟨f.at_, f.vm, f.room, by have := f.kl; omega, Nat.le_trans f.moved (Nat.mul_le_mul_right _ (Nat.le_succ _)), by have := f.packs; omega, Nat.le_trans f.used (Nat.mul_le_mul_right _ (Nat.le_succ _)), f.blk, f.grown⟩
theorem KI.put {W' : World} {h' : Hd} {V' : Vl} {num2 n2 : Nat} {zs : List Int} (f : KI w wr b k num m ys h V) (hx' : VAt W' w.heap.size b h' V') (hs : Stp b h h' wr W') (r : PutR V V' num2 n2 zs) (hn : n2 ≤ 2000) : KI w W' b (k + 1) num m ys h' V' := by
  have h1 := f.kl; have h2 := f.moved; have h3 := f.packs; have h4 := f.used; have h5 := f.vm.ur; have h6 := f.vm.room
  have r1 := r.kl; have r2 := r.moved; have r3 := r.packs; have r4 := r.used
  obtain ⟨a, hb, hv⟩ := f.blk
  obtain ⟨_, a', hb', hv'⟩ := r.old num a m hb
  exact ⟨hx', r.vm, r.room.trans f.room, by omega, by omega, by omega, by omega, ⟨a', hb', hv'.trans hv⟩, hs.grown (lo := 0) f.grown fun j hj => (f.at_.own_lo hj).1⟩
theorem KI.drop {W' : World} {h' : Hd} {V' : Vl} {i a2 n2 : Nat} (f : KI w wr b k num m ys h V) (hx' : VAt W' w.heap.size b h' V') (hs : Stp b h h' wr W') (r : DropR V V' i) (hb2 : Blk V i a2 n2) (hi : num ≠ i) : KI w W' b (k + 1) num m ys h' V' := by
  have h1 := f.kl; have h2 := f.moved; have h3 := f.packs; have h4 := f.used
  have r1 := r.kl; have r2 := r.moved; have r3 := r.packs; have r4 := r.used a2 n2 hb2
  obtain ⟨a, hb, hv⟩ := f.blk
  obtain ⟨hb', hv'⟩ := r.old num a m hi hb
  exact ⟨hx', r.vm, r.room.trans f.room, by omega, by omega, by omega, by omega, ⟨a, hb', hv'.trans hv⟩, hs.grown (lo := 0) f.grown fun j hj => (f.at_.own_lo hj).1⟩
/-- a row of bytes that is not the vault's is written over -/
theorem KI.write {lo5 g c n : Nat} {zs : List Int} (f : KI w wr b k num m ys h V) (hr : wr.ownsRow lo5 5 1 (.slice (some ⟨g, 0, none⟩) n c) n (rvals benc zs)) (hlo : w.heap.size ≤ lo5) (hg : ¬ own b h g) {j : Nat} (hj : j < n) (y : Int) :
    KI w (wr.setCell ⟨g, j, none⟩ (.int .u8 y)) b k num m ys h V ∧ ∃ zs2, (wr.setCell ⟨g, j, none⟩ (.int .u8 y)).ownsRow lo5 5 1 (.slice (some ⟨g, 0, none⟩) n c) n (rvals benc zs2) := by
  obtain ⟨s1, g1⟩ := hr.stored j (.int .u8 y)
  have hgl := (hr.lt g rfl).1
  have hzl : zs.length = n := by have := hr.1; rw [rvals_len benc_len] at this; omega
  refine ⟨⟨f.at_.stay fun k2 hk => heap_setCell_other _ _ _ _ (fun e => hg (by have e2 : k2 = g := e; rw [← e2]; exact hk)), f.vm, f.room, f.kl, f.moved, f.packs, f.used, f.blk, grown_new f.grown g1 (by omega)⟩, zs.set j y, ?_⟩
  rw [rvals_set benc_len (by omega)]
  have hl : (rvals benc zs).length = n := by rw [rvals_len benc_len]; omega
  have e : (rvals benc zs).take (j * 1) ++ benc y ++ (rvals benc zs).drop ((j + 1) * 1) = (rvals benc zs).set j (.int .u8 y) := by
    rw [List.set_eq_take_append_cons_drop, if_pos (by omega), Nat.mul_one, Nat.mul_one, List.append_assoc]
    rfl
  rw [e]
  exact s1
end
/-- bytes that are read, as a string -/
theorem src_str {w : World} {A : Option Addr} {n : Nat} {ys : List Int} (h : Src w A n ys) (cap : Nat) : (convert 31 9 (.slice A n cap)).run Try.prog w = .ok (.string (strOfNums ys)) w := by
  obtain ⟨h1, h2, _⟩ := h
  by_cases h0 : n = 0
  · subst h0
    obtain rfl := List.length_eq_zero_iff.1 h1
    rw [run_convert_bytes_string w 31 9 5 A 0 cap Try.underlying31 Try.underlying5 Try.underlying9]
    cases A <;> simp [Conv.bytesToString] <;> rfl
  · rcases h2 with h2 | ⟨q, o, rfl, _, hc⟩
    · exact absurd h2 h0
    · refine run_convert_bytes_arg w 31 5 Try.underlying31 Try.underlying5 q o n cap ys h1 (fun i hi => ?_) 9 Try.underlying9
      have h2 := rvals_get benc_len (l := ys) (i := i) (x := ys.getD i 0) (by rw [List.getD_eq_getElem?_getD, List.getElem?_eq_getElem (by omega)]; rfl) (j := 0) (by omega)
      simp only [Nat.mul_one, Nat.add_zero] at h2
      exact hc i _ h2
theorem owns_src {w : World} {base n c : Nat} {A : Option Addr} {ys : List Int} (ho : w.ownsRow base 5 1 (.slice A n c) n (rvals benc ys)) (hb : ∀ y ∈ ys, 0 ≤ y ∧ y < 256) : Src w A n ys := by
  have h1 := ho.1
  rw [rvals_len benc_len] at h1
  refine ⟨by omega, ?_, hb⟩
  by_cases h0 : n = 0
  · exact .inl h0
  · obtain ⟨g, cap, e⟩ := owns_some ho (by omega)
    injection e with e1 _ _
    subst e1
    refine .inr ⟨g, 0, rfl, (ho.lt g rfl).2, fun j u hu => ?_⟩
    have hj : j < n := by
      have := (List.getElem?_eq_some_iff.1 hu).1
      rw [rvals_len benc_len] at this
      omega
    rw [Nat.zero_add, ho.cellAt j (by omega), hu]
/-- 'append([]byte{}, value...)' -/
theorem app_val {w : World} {A : Option Addr} {n c : Nat} {ys : List Int} (h : Src w A n ys) (hn : n ≤ 2000) :
    ∃ D c' w1, (Builtin.append_ #[31, 31] 31 #[.slice (some ⟨w.heap.size, 0, none⟩) 0 0, .slice A n c]).run Try.prog (w.alloc (.cells #[] 5)) = .ok (.slice D n c') w1 ∧ w1.ownsRow w.heap.size 5 1 (.slice D n c') n (rvals benc ys) ∧ w.grownBy w1 none := by
  obtain ⟨i0, hi0, hz0, hz1, hz2⟩ := info_parts info5
  have hr0 := World.ownsRow_made (base := w.heap.size) (e := 5) (size := 1) w #[] 0 (Nat.le_refl _) (Nat.zero_le _) rfl
  obtain ⟨h1, h2, h3⟩ := h
  have key : ∀ a : Addr, A = some a → (∀ j u, (rvals benc ys)[j]? = some u → (w.alloc (.cells #[] 5)).cell? (a.add j) = some u) → ∃ D c' w1, (Builtin.append_ #[31, 31] 31 #[.slice (some ⟨w.heap.size, 0, none⟩) 0 0, .slice A n c]).run Try.prog (w.alloc (.cells #[] 5)) = .ok (.slice D n c') w1 ∧ w1.ownsRow w.heap.size 5 1 (.slice D n c') n (rvals benc ys) ∧ w.grownBy w1 none := by
    intro a ea hc
    obtain ⟨v', w', hrun, ho, hg, _⟩ := run_append_own (P := Try.prog) (w.alloc (.cells #[] 5)) w.heap.size 31 31 5 i0 (.int .u8 0) 1 1 Try.underlying31 hi0 hz0 hz1 hz2 rfl (by decide) (.slice (some ⟨w.heap.size, 0, none⟩) 0 0) 0 [] hr0 a n c (rvals benc ys) (by rw [rvals_len benc_len]; omega) hc (rvals_one benc_one _) (by unfold maxLen; omega) (by omega) (by simp)
    rw [Nat.zero_add] at ho
    obtain ⟨D, c', rfl⟩ := owns_slice ho
    exact ⟨D, c', w', by rw [ea]; exact hrun, by simpa using ho, grown_new (World.grownBy_alloc w _ none) hg (Nat.le_refl _)⟩
  by_cases h0 : n = 0
  · subst h0
    obtain rfl := List.length_eq_zero_iff.1 h1
    cases A with
    | none => exact ⟨_, _, _, run_append_owned_none (P := Try.prog) (w := w.alloc (.cells #[] 5)) w.heap.size 31 31 5 i0 1 Try.underlying31 hi0 _ 0 [] hr0, hr0, World.grownBy_alloc w _ none⟩
    | some a => exact key a rfl (fun j u hu => by simp [rvals] at hu)
  · rcases h2 with h2 | ⟨q, o, rfl, _, hc⟩
    · exact absurd h2 h0
    · exact key ⟨q, o, none⟩ rfl (fun j u hu => by
        have := (World.grownBy_alloc w (.cells #[] 5) none).cell (hc j u hu) (by simp)
        rw [Go.WideShapes.add_plain]
        exact this)
theorem own_stay {w w' : World} {base n s : Nat} {e : TypeId} {v : Value} {xs : List Value} (ho : w.ownsRow base e s v n xs) (he : ∀ g, v.ownBlock = some g → w'.heap[g]? = w.heap[g]?) : w'.ownsRow base e s v n xs := by
  refine ⟨ho.1, ?_⟩
  rcases ho.2 with h | ⟨g, cap, cur, rfl, h1, h2, h3, h4, h5, h6⟩
  · exact .inl h
  · exact .inr ⟨g, cap, cur, rfl, h1, (he g rfl).trans h2, h3, h4, h5, h6⟩
theorem VM.blk_zero {V : Vl} {fa fm : Nat} (h : VM V fa fm) {k a n : Nat} (hb : Blk V k a n) : n = 0 → a = 0 := by
  rcases h.kin k _ hb with h1 | ⟨a', m', he, _, h2⟩
  · have : (k : Int) = -1 := h1
    omega
  · injection he with _ he
    injection he with e1 e2
    intro h0
    have := h2 (by omega)
    omega
/-- what Get tells of the block -/
theorem KI.get {w wr : World} {b k num m : Nat} {ys : List Int} {h : Hd} {V : Vl} (f : KI w wr b k num m ys h V) (hk : k ≤ 1000) : Calls Try.prog 15 #[.pointer (some ⟨b, 0, none⟩), .int .i64 (num : Int)] wr (GetPost wr m ys) := by
  obtain ⟨a, hb, hv⟩ := f.blk
  have h1 := f.kl
  have h2 := f.vm.bsl
  have h3 := f.vm.room
  have := get_yes f.at_ (by omega) (i := num) (a := a) (m := m) (p := (num : Int)) hb (by omega) (f.vm.blk_len hb) (by omega) (f.vm.blk_zero hb)
  unfold val at hv
  rw [hv] at this
  exact this
set_option maxHeartbeats 2000000 in
theorem keeps_main (A0 : Option Addr) (n0 c0 : Nat) (ys : List Int) (l : List AV) (A : Option Addr) (L cap : Nat) (hL : l.length = L) (h60 : L ≤ 60) (h2000 : n0 ≤ 2000) (w : World) (hs : Src w A0 n0 ys) (ha : ActsAt w A l) :
    Calls Try.prog 4 #[.slice A0 n0 c0, .slice A L cap] w fun e w' => e = .returned (.bool true) ∧ w.grownBy w' none := by
  have HN := Lib.hid (new_any w 200000 (by omega))
  have HA := Lib.hid ha
  have HL := Lib.hid hL
  have HS := Lib.hid hs
  have h60' : ¬ (60 : Int) < (L : Int) := by omega
  have h20' : ¬ (2000 : Int) < (n0 : Int) := by omega
  clear ha hL hs
  go_enter Try.func4, Try.ntmps4
  go_wp2_with fail
  refine HN.out.mono ?_
  rintro e w1 ⟨rfl, v, hx, hg⟩
  obtain ⟨B, HB⟩ : ∃ B, Hid (w.heap.size = B) := ⟨_, Lib.hid rfl⟩
  have HX1 : Hid (VAt w1 w.heap.size B ⟨.slice none 0 0, .slice none 0 0, .slice none 0 0, v⟩ ⟨200000, [], [], [], if 200000 = 0 then [] else [(0, ((200000 : Nat) : Int))], 0, 0, 0⟩) := Lib.hid (by rw [← HB.out]; exact hx)
  have HG1 := Lib.hid hg
  rw [HB.out]
  obtain ⟨D, cD, w2, hrun, ho2, hg2⟩ := app_val (c := c0) (HS.out.kept hg) h2000
  have HR := Lib.hid hrun
  have HO2 := Lib.hid ho2
  have HG2 := Lib.hid hg2
  clear hx hg HN hrun ho2 hg2
  go_wp2_with (at_builtin; refine append_run rfl (.tmp 39) (.tmp 40) 31 rfl rfl rfl HR.out ?_)
  clear HR
  have hvm0 := VM.new 200000 (by omega)
  refine (put_any (c := cD) (HX1.out.kept HG2.out) hvm0 (owns_src HO2.out HS.out.2.2) (fun _ q o e ho => by
    have h1 := (HX1.out.own_lo ho).2
    have h2 := (HO2.out.lt q (by rw [e]; rfl)).1
    omega) (by simp) (by simp) (by simp)).mono ?_
  rintro e w3 (⟨hbad, _⟩ | ⟨_, num, h2, V2, rfl, hx3, hs3, r3⟩)
  · simp only at hbad
    omega
  have HK0 : Hid (KI w w3 B 0 num n0 ys h2 V2) := Lib.hid (by
    have r1 := r3.kl; have r2 := r3.moved; have r4 := r3.packs; have r5 := r3.used
    simp only [List.length_nil] at r1 r2 r4 r5
    exact ⟨hx3, r3.vm, r3.room, by omega, by omega, by omega, by omega, r3.blk, hs3.grown (lo := 0) (grown_trans HG1.out HG2.out) fun j hj => (HX1.out.own_lo hj).1⟩)
  have HNO0 : Hid (∀ g, D = some ⟨g, 0, none⟩ → ¬ own B h2 g) := Lib.hid (fun g e ho => by
    have h2' := HO2.out.lt g (by rw [e]; rfl)
    rcases hs3.new g ho with h1 | h1
    · have := (HX1.out.own_lo h1).2
      omega
    · omega)
  have HO3 : Hid (KI w w3 B 0 num n0 ys h2 V2 ∧ ∃ zs, w3.ownsRow w1.heap.size 5 1 (.slice D n0 cD) n0 (rvals benc zs)) := Lib.hid ⟨HK0.out, ys, own_stay HO2.out fun g hg => hs3.but.block g (HO2.out.lt g hg).2 (fun ho => by
    have h2' := HO2.out.lt g hg
    have := (HX1.out.own_lo ho).2
    omega)⟩
  have HLO0 : Hid (w.heap.size ≤ w1.heap.size) := Lib.hid HG1.out.size
  clear hx3 hs3 r3 hvm0 HX1 HO2 HK0
  go_wp2_with fail
  go_loopw [52] (fun i wq => ∃ j : Nat, j ≤ n0 ∧ i = .int .i64 (j : Int) ∧ Hid (KI w wq B 0 num n0 ys h2 V2 ∧ ∃ zs, wq.ownsRow w1.heap.size 5 1 (.slice D n0 cD) n0 (rvals benc zs))) (fun i _ => n0 - (intOf i).toNat)
  case atStart => exact ⟨0, by omega, by go_num, HO3⟩
  case round =>
    obtain ⟨j, hj, rfl, HJ⟩ := hrel
    by_cases hjl : j < n0
    · obtain ⟨zs, hrow⟩ := HJ.out.2
      obtain ⟨g, cg, eg⟩ := owns_some hrow (by omega)
      injection eg with e1 _ e3
      subst e1
      have hzl : zs.length = n0 := by have := hrow.1; rw [rvals_len benc_len] at this; omega
      obtain ⟨z, hz⟩ : ∃ z, z = zs[j]'(by omega) := ⟨_, rfl⟩
      have hc : wr.cell? ⟨g, j, none⟩ = some (.int .u8 z) := by
        have h2 := rvals_get benc_len (l := zs) (i := j) (x := z) (by rw [List.getElem?_eq_getElem (by omega), hz]) (j := 0) (by omega)
        simp only [Nat.mul_one, Nat.add_zero] at h2
        exact (hrow.cellAt j (by omega)).trans h2
      have hfz := hrow.frozenAt j
      have HWR := Lib.hid (fun y => HJ.out.1.write hrow HLO0.out (HNO0.out g rfl) hjl y)
      clear hrow hz hzl HJ e3
      go_wp2
      go_round
      case rel =>
        obtain ⟨q1, q2⟩ := HWR.out _
        exact ⟨j + 1, by omega, by go_num, Lib.hid ⟨q1, q2⟩⟩
      case measure => simp only [intOf]; omega
    · have HKa := Lib.hid HJ.out.1
      clear HJ HO3
      go_wp2_with fail
      go_loopw [64] (fun i wr => ∃ (k : Nat) (h : Hd) (V : Vl), k ≤ L ∧ i = .int .i64 (k : Int) ∧ Hid (KI w wr B k num n0 ys h V)) (fun i _ => L - (intOf i).toNat)
      case atStart => exact ⟨0, h2, V2, by omega, by go_num, HKa⟩
      case round =>
        obtain ⟨k, h, V, hk, rfl, HK⟩ := hrel
        clear HKa
        by_cases hlt : k < L
        · obtain ⟨a, HAK⟩ : ∃ a, Hid (l[k]? = some a) := ⟨_, Lib.hid (List.getElem?_eq_getElem (by rw [HL.out]; exact hlt))⟩
          rcases HA.out.kept HK.out.grown with e | ⟨g, off, rfl, hc⟩
          · rw [e] at HAK; have := HAK.out; simp at this
          · obtain ⟨p0, p1, p2, p3⟩ := hc k a HAK.out
            obtain ⟨pt, A2, n2, c2, nm, ys2⟩ := a
            dsimp only at p0 p1 p2 p3
            have HS2 : Hid (Src w A2 n2 ys2) := Lib.hid (by
              rcases HA.out with e | ⟨g2, off2, e2, hc2⟩
              · rw [e] at HAK; have := HAK.out; simp at this
              · exact (hc2 k _ HAK.out).2.2.2)
            clear hc p3
            have HK2 : Hid (KI w (wr.alloc (.cells #[.bool pt, .slice A2 n2 c2, .int .i64 nm] 33)) B k num n0 ys h V) := Lib.hid (HK.out.more (World.grownBy_alloc _ _ none))
            have hk0 : k ≤ 100 := by omega
            by_cases hbig : 2000 < n2
            · have hb1 : (2000 : Int) < (n2 : Int) := by omega
              go_wp2_with fail
              refine (alive_at _).mono ?_
              rintro e w5 ⟨rfl, hg5⟩
              have HG := Lib.hid (grown_trans HK2.out.grown hg5)
              clear hg5
              go_wp2
              go_ret
              exact ⟨rfl, HG.out⟩
            · have hb1 : ¬ (2000 : Int) < (n2 : Int) := by omega
              have hb2 : n2 ≤ 2000 := by omega
              clear hbig
              cases hpt : pt with
              | true =>
                subst hpt
                have hkk := HK2.out
                have HC : Hid (Calls Try.prog 9 #[.pointer (some ⟨B, 0, none⟩), .slice A2 n2 c2] (wr.alloc (.cells #[.bool true, .slice A2 n2 c2, .int .i64 nm] 33)) fun e w' => ∃ (num2 : Nat) (h3 : Hd) (V3 : Vl), e = .returned (.tuple #[.int .i64 (num2 : Int), .int .i64 0]) ∧ KI w w' B (k + 1) num n0 ys h3 V3) := Lib.hid (by
                  have q1 := hkk.kl; have q2 := hkk.moved; have q3 := hkk.packs; have q4 := hkk.used; have q5 := hkk.room
                  refine (put_any (c := c2) hkk.at_ hkk.vm (HS2.out.kept hkk.grown) (fun hn0 q o e ho => ?_) (by omega) (by omega) (by omega)).mono ?_
                  · have := (hkk.at_.own_lo ho).1
                    rcases HS2.out.2.1 with hz | ⟨q2, o2, e2, hq2, _⟩
                    · exact hn0 hz
                    · rw [e] at e2
                      injection e2 with e2
                      injection e2 with e2
                      omega
                  · rintro e w' (⟨hbad, _⟩ | ⟨_, num2, h3, V3, he, hx3, hs3, r3⟩)
                    · omega
                    · exact ⟨num2, h3, V3, he, hkk.put hx3 hs3 r3 hb2⟩)
                clear hkk HK2 HK
                go_wp2_with fail
                refine HC.out.mono ?_
                rintro e WX ⟨num2, h3, V3, rfl, f3⟩
                have HK3 := Lib.hid f3
                clear f3 HC
                have HC15 := Lib.hid (HK3.out.get (by omega))
                go_wp2_with fail
                refine HC15.out.mono ?_
                rintro e w7 ⟨A7, c7, rfl, ho7, hg7⟩
                have f7 := src_str (owns_src ho7 HS.out.2.2) c7
                have f8 := src_str ((HS.out.kept HK3.out.grown).kept hg7) c0
                have HK7 := Lib.hid (HK3.out.more hg7)
                have HO7 : Hid (KI w w7 B (k + 1) num n0 ys h3 V3 ∧ ∃ zs, w7.ownsRow WX.heap.size 5 1 (.slice A7 n0 c7) n0 (rvals benc zs)) := Lib.hid ⟨HK7.out, ys, ho7⟩
                have HNO : Hid (∀ g, A7 = some ⟨g, 0, none⟩ → ¬ own B h3 g) := Lib.hid (fun g e ho => by
                  have h1 := (HK3.out.at_.own_lo ho).2
                  have h2 := (ho7.lt g (by rw [e]; rfl)).1
                  omega)
                have HLO : Hid (w.heap.size ≤ WX.heap.size) := Lib.hid HK3.out.grown.size
                clear ho7 hg7 HC15 HK3 HK7
                generalize strOfNums ys = SS at f7 f8
                go_wp2_with fail
                clear f7 f8
                go_loopw [109] (fun i wq => ∃ j : Nat, j ≤ n0 ∧ i = .int .i64 (j : Int) ∧ Hid (KI w wq B (k + 1) num n0 ys h3 V3 ∧ ∃ zs, wq.ownsRow WX.heap.size 5 1 (.slice A7 n0 c7) n0 (rvals benc zs))) (fun i _ => n0 - (intOf i).toNat)
                case atStart => exact ⟨0, by omega, by go_num, HO7⟩
                case round =>
                  obtain ⟨j, hj, rfl, HJ⟩ := hrel
                  by_cases hjl : j < n0
                  · obtain ⟨zs, hrow⟩ := HJ.out.2
                    obtain ⟨g, cg, eg⟩ := owns_some hrow (by omega)
                    injection eg with e1 _ e3
                    subst e1
                    have hzl : zs.length = n0 := by have := hrow.1; rw [rvals_len benc_len] at this; omega
                    obtain ⟨z, hz⟩ : ∃ z, z = zs[j]'(by omega) := ⟨_, rfl⟩
                    have hc : wr.cell? ⟨g, j, none⟩ = some (.int .u8 z) := by
                      have h2 := rvals_get benc_len (l := zs) (i := j) (x := z) (by rw [List.getElem?_eq_getElem (by omega), hz]) (j := 0) (by omega)
                      simp only [Nat.mul_one, Nat.add_zero] at h2
                      exact (hrow.cellAt j (by omega)).trans h2
                    have hfz := hrow.frozenAt j
                    have HWR := Lib.hid (fun y => HJ.out.1.write hrow HLO.out (HNO.out g rfl) hjl y)
                    clear hrow hz hzl HJ e3
                    go_wp2
                    go_round
                    case rel =>
                      obtain ⟨q1, q2⟩ := HWR.out _
                      exact ⟨j + 1, by omega, by go_num, Lib.hid ⟨q1, q2⟩⟩
                    case measure => simp only [intOf]; omega
                  · have HK9 := Lib.hid HJ.out.1
                    go_wp2
                    go_round
                    case rel => exact ⟨k + 1, h3, V3, by omega, by go_num, HK9⟩
                    case measure => simp only [intOf]; omega
              | false =>
                subst hpt
                by_cases hnn : nm = (num : Int)
                · have hneq : (nm == (num : Int)) = true := by simpa using hnn
                  have hneq2 : (nm != (num : Int)) = false := by simpa using hnn
                  obtain ⟨WX, hWX⟩ : ∃ WX : World, WX = wr.alloc (.cells #[.bool false, .slice A2 n2 c2, .int .i64 nm] 33) := ⟨_, rfl⟩
                  obtain ⟨h3, V3, HK3⟩ : ∃ (h3 : Hd) (V3 : Vl), Hid (KI w WX B (k + 1) num n0 ys h3 V3) := ⟨h, V, Lib.hid (by rw [hWX]; exact HK2.out.up)⟩
                  clear HK2 HK hnn
                  have HWX := Lib.hid hWX
                  clear hWX
                  have HC15 := Lib.hid (HK3.out.get (by omega))
                  rw [HWX.out] at HC15
                  go_wp2_with fail
                  rw [← HWX.out] at HC15 ⊢
                  refine HC15.out.mono ?_
                  rintro e w7 ⟨A7, c7, rfl, ho7, hg7⟩
                  have f7 := src_str (owns_src ho7 HS.out.2.2) c7
                  have f8 := src_str ((HS.out.kept HK3.out.grown).kept hg7) c0
                  have HK7 := Lib.hid (HK3.out.more hg7)
                  have HO7 : Hid (KI w w7 B (k + 1) num n0 ys h3 V3 ∧ ∃ zs, w7.ownsRow WX.heap.size 5 1 (.slice A7 n0 c7) n0 (rvals benc zs)) := Lib.hid ⟨HK7.out, ys, ho7⟩
                  have HNO : Hid (∀ g, A7 = some ⟨g, 0, none⟩ → ¬ own B h3 g) := Lib.hid (fun g e ho => by
                    have h1 := (HK3.out.at_.own_lo ho).2
                    have h2 := (ho7.lt g (by rw [e]; rfl)).1
                    omega)
                  have HLO : Hid (w.heap.size ≤ WX.heap.size) := Lib.hid HK3.out.grown.size
                  clear ho7 hg7 HC15 HK3 HK7
                  generalize strOfNums ys = SS at f7 f8
                  go_wp2_with fail
                  clear f7 f8
                  go_loopw [109] (fun i wq => ∃ j : Nat, j ≤ n0 ∧ i = .int .i64 (j : Int) ∧ Hid (KI w wq B (k + 1) num n0 ys h3 V3 ∧ ∃ zs, wq.ownsRow WX.heap.size 5 1 (.slice A7 n0 c7) n0 (rvals benc zs))) (fun i _ => n0 - (intOf i).toNat)
                  case atStart => exact ⟨0, by omega, by go_num, HO7⟩
                  case round =>
                    obtain ⟨j, hj, rfl, HJ⟩ := hrel
                    by_cases hjl : j < n0
                    · obtain ⟨zs, hrow⟩ := HJ.out.2
                      obtain ⟨g, cg, eg⟩ := owns_some hrow (by omega)
                      injection eg with e1 _ e3
                      subst e1
                      have hzl : zs.length = n0 := by have := hrow.1; rw [rvals_len benc_len] at this; omega
                      obtain ⟨z, hz⟩ : ∃ z, z = zs[j]'(by omega) := ⟨_, rfl⟩
                      have hc : wr.cell? ⟨g, j, none⟩ = some (.int .u8 z) := by
                        have h2 := rvals_get benc_len (l := zs) (i := j) (x := z) (by rw [List.getElem?_eq_getElem (by omega), hz]) (j := 0) (by omega)
                        simp only [Nat.mul_one, Nat.add_zero] at h2
                        exact (hrow.cellAt j (by omega)).trans h2
                      have hfz := hrow.frozenAt j
                      have HWR := Lib.hid (fun y => HJ.out.1.write hrow HLO.out (HNO.out g rfl) hjl y)
                      clear hrow hz hzl HJ e3
                      go_wp2
                      go_round
                      case rel =>
                        obtain ⟨q1, q2⟩ := HWR.out _
                        exact ⟨j + 1, by omega, by go_num, Lib.hid ⟨q1, q2⟩⟩
                      case measure => simp only [intOf]; omega
                    · have HK9 := Lib.hid HJ.out.1
                      go_wp2
                      go_round
                      case rel => exact ⟨k + 1, h3, V3, by omega, by go_num, HK9⟩
                      case measure => simp only [intOf]; omega
                · have hneq : (nm == (num : Int)) = false := by simpa using hnn
                  have hkk := HK2.out
                  have HC : Hid (Calls Try.prog 12 #[.pointer (some ⟨B, 0, none⟩), .int .i64 nm] (wr.alloc (.cells #[.bool false, .slice A2 n2 c2, .int .i64 nm] 33)) fun e w' => ∃ (b3 : Bool) (h3 : Hd) (V3 : Vl), e = .returned (.bool b3) ∧ KI w w' B (k + 1) num n0 ys h3 V3) := Lib.hid (by
                    have q1 := hkk.kl
                    refine (drop_any hkk.at_ hkk.vm (by omega) nm).mono ?_
                    rintro e w' (⟨he, hg, _⟩ | ⟨k2, a2, m2, hi2, hb3, he, h', V', hx', hst, r⟩)
                    · exact ⟨false, h, V, he, (hkk.more hg).up⟩
                    · exact ⟨true, h', V', he, hkk.drop hx' hst r hb3 (fun e2 => hnn (by rw [hi2, e2]))⟩)
                  clear hkk HK2 HK hnn
                  go_wp2_with fail
                  refine HC.out.mono ?_
                  rintro e WX ⟨b3, h3, V3, rfl, f3⟩
                  have HK3 := Lib.hid f3
                  clear f3 HC
                  have HC15 := Lib.hid (HK3.out.get (by omega))
                  go_wp2_with fail
                  refine HC15.out.mono ?_
                  rintro e w7 ⟨A7, c7, rfl, ho7, hg7⟩
                  have f7 := src_str (owns_src ho7 HS.out.2.2) c7
                  have f8 := src_str ((HS.out.kept HK3.out.grown).kept hg7) c0
                  have HK7 := Lib.hid (HK3.out.more hg7)
                  have HO7 : Hid (KI w w7 B (k + 1) num n0 ys h3 V3 ∧ ∃ zs, w7.ownsRow WX.heap.size 5 1 (.slice A7 n0 c7) n0 (rvals benc zs)) := Lib.hid ⟨HK7.out, ys, ho7⟩
                  have HNO : Hid (∀ g, A7 = some ⟨g, 0, none⟩ → ¬ own B h3 g) := Lib.hid (fun g e ho => by
                    have h1 := (HK3.out.at_.own_lo ho).2
                    have h2 := (ho7.lt g (by rw [e]; rfl)).1
                    omega)
                  have HLO : Hid (w.heap.size ≤ WX.heap.size) := Lib.hid HK3.out.grown.size
                  clear ho7 hg7 HC15 HK3 HK7
                  generalize strOfNums ys = SS at f7 f8
                  go_wp2_with fail
                  clear f7 f8
                  go_loopw [109] (fun i wq => ∃ j : Nat, j ≤ n0 ∧ i = .int .i64 (j : Int) ∧ Hid (KI w wq B (k + 1) num n0 ys h3 V3 ∧ ∃ zs, wq.ownsRow WX.heap.size 5 1 (.slice A7 n0 c7) n0 (rvals benc zs))) (fun i _ => n0 - (intOf i).toNat)
                  case atStart => exact ⟨0, by omega, by go_num, HO7⟩
                  case round =>
                    obtain ⟨j, hj, rfl, HJ⟩ := hrel
                    by_cases hjl : j < n0
                    · obtain ⟨zs, hrow⟩ := HJ.out.2
                      obtain ⟨g, cg, eg⟩ := owns_some hrow (by omega)
                      injection eg with e1 _ e3
                      subst e1
                      have hzl : zs.length = n0 := by have := hrow.1; rw [rvals_len benc_len] at this; omega
                      obtain ⟨z, hz⟩ : ∃ z, z = zs[j]'(by omega) := ⟨_, rfl⟩
                      have hc : wr.cell? ⟨g, j, none⟩ = some (.int .u8 z) := by
                        have h2 := rvals_get benc_len (l := zs) (i := j) (x := z) (by rw [List.getElem?_eq_getElem (by omega), hz]) (j := 0) (by omega)
                        simp only [Nat.mul_one, Nat.add_zero] at h2
                        exact (hrow.cellAt j (by omega)).trans h2
                      have hfz := hrow.frozenAt j
                      have HWR := Lib.hid (fun y => HJ.out.1.write hrow HLO.out (HNO.out g rfl) hjl y)
                      clear hrow hz hzl HJ e3
                      go_wp2
                      go_round
                      case rel =>
                        obtain ⟨q1, q2⟩ := HWR.out _
                        exact ⟨j + 1, by omega, by go_num, Lib.hid ⟨q1, q2⟩⟩
                      case measure => simp only [intOf]; omega
                    · have HK9 := Lib.hid HJ.out.1
                      go_wp2
                      go_round
                      case rel => exact ⟨k + 1, h3, V3, by omega, by go_num, HK9⟩
                      case measure => simp only [intOf]; omega
        · have HC15 := Lib.hid (HK.out.get (by omega))
          go_wp2_with fail
          refine HC15.out.mono ?_
          rintro e w7 ⟨A7, c7, rfl, ho7, hg7⟩
          have f7 := src_str (owns_src ho7 HS.out.2.2) c7
          have f8 := src_str ((HS.out.kept HK.out.grown).kept hg7) c0
          have HK7 := Lib.hid (HK.out.more hg7)
          obtain ⟨a7, hb7, _⟩ := HK7.out.blk
          have hkl7 := HK7.out.kl
          have HD := Lib.hid (drop_ok HK7.out.at_ HK7.out.vm (by omega) hb7)
          clear ho7 hg7 HC15 HK hb7
          generalize strOfNums ys = SS at f7 f8
          go_wp2_with fail
          refine HD.out.mono ?_
          rintro e w8 ⟨rfl, h8, V8, hx8, hs8, r8⟩
          obtain ⟨p8, hp8, hp81⟩ := r8.gone
          have HE := Lib.hid (drop_no hx8 (by have := r8.kl; omega) (num : Int) (.inr (.inr ⟨num, p8, rfl, hp8, hp81⟩)))
          have HG8 : Hid (w.grownBy w8 none) := Lib.hid (hs8.grown (lo := 0) HK7.out.grown fun j hj => (HK7.out.at_.own_lo hj).1)
          clear hx8 hs8 r8 hp8 hp81 HD HK7 f7 f8
          go_wp2_with fail
          refine HE.out.mono ?_
          rintro e w9 ⟨rfl, hg9⟩
          have HG9 := Lib.hid (grown_trans HG8.out hg9)
          clear hg9 HE
          go_wp2_with fail
          refine (alive_at _).mono ?_
          rintro e w5 ⟨rfl, hg5⟩
          have HG5 := Lib.hid (grown_trans HG9.out hg5)
          clear hg5
          go_wp2
          go_ret
          exact ⟨rfl, HG5.out⟩
set_option maxHeartbeats 1000000 in
theorem vaultKeeps_law (A0 : Option Addr) (n0 c0 : Nat) (ys : List Int) (A : Option Addr) (L cap : Nat) (l : List AV) (w : World) (hs : Src w A0 n0 ys) (hL : l.length = L) (ha : ActsAt w A l) :
    Calls Try.prog 4 #[.slice A0 n0 c0, .slice A L cap] w fun e w' => e = .returned (.bool true) ∧ Below w.heap.size w w' := by
  by_cases h1 : n0 ≤ 2000
  · by_cases h2 : L ≤ 60
    · exact (keeps_main A0 n0 c0 ys l A L cap hL h2 h1 w hs ha).mono fun e w' ⟨q1, q2⟩ => ⟨q1, grown_belowF q2⟩
    · have h1' : ¬ (2000 : Int) < (n0 : Int) := by omega
      have h2' : (60 : Int) < (L : Int) := by omega
      clear hs hL ha h1 h2
      go_enter Try.func4, Try.ntmps4
      go_wp2_with fail
      refine (alive_at _).mono ?_
      rintro e w2 ⟨rfl, hg2⟩
      have HG2 := Lib.hid hg2
      clear hg2
      go_wp2
      go_ret
      exact ⟨rfl, grown_belowF HG2.out⟩
  · have h1' : (2000 : Int) < (n0 : Int) := by omega
    clear hs hL ha h1
    go_enter Try.func4, Try.ntmps4
    go_wp2_with fail
    refine (alive_at _).mono ?_
    rintro e w2 ⟨rfl, hg2⟩
    have HG2 := Lib.hid hg2
    clear hg2
    go_wp2
    go_ret
    exact ⟨rfl, grown_belowF HG2.out⟩
end Go.Proofs.Ythpcjgfbngemiaa
