/-
  The document's vault: with.
-/
import Derived.Test.YthpcjgfbngemiaaRefE
import Derived.Deep.RegionHeld3
import Derived.BigRegion
namespace Go.Proofs.Ythpcjgfbngemiaa
open Go.ChangeShapes Go.WideShapes Go.ChangeAt Go.RowKit
set_option linter.unusedVariables false
set_option maxRecDepth 100000
theorem tw_stop {l : List RB} {x : RB} {k : Nat} (hall : ∀ j y, j < k → l[j]? = some y → rA y x = true) (hstop : k = l.length ∨ ∃ y, l[k]? = some y ∧ rA y x = false) : rW l x = l.take k ++ x :: l.drop k := by
  induction l generalizing k with
  | nil => simp [rW]
  | cons a r ih =>
    cases k with
    | zero =>
      rcases hstop with h | ⟨y, hy, hn⟩
      · simp at h
      · simp at hy
        subst hy
        simp [rW, hn]
    | succ k =>
      have h0 := hall 0 a (by omega) rfl
      have := ih (k := k) (fun j y hj hy => hall (j + 1) y (by omega) (by simpa using hy)) (by
        rcases hstop with h | ⟨y, hy, hn⟩
        · left; simpa using h
        · right; exact ⟨y, by simpa using hy, hn⟩)
      unfold rW at this ⊢
      simp only [List.takeWhile_cons, List.dropWhile_cons, h0, if_true, List.take_succ_cons, List.drop_succ_cons, List.cons_append]
      rw [this]
theorem slice28 (g off n c k : Nat) (hk : k ≤ n) (hc : n ≤ c) : ∃ a2 c2, (∀ W, (Instr.slice 28 (.slice (some ⟨g, off, none⟩) n c) (some (.int .i64 (k : Int))) none none).run Try.prog W = .ok (.slice (some a2) (n - k) c2) W) ∧ (k < n → a2 = ⟨g, off + k * 3, none⟩) := by
  by_cases h : c = k
  · obtain rfl : n = k := by omega
    subst h
    exact ⟨⟨g, off, none⟩, 0, fun W => by simp [go_sem], fun h => by omega⟩
  · exact ⟨⟨g, off + k * 3, none⟩, c - k, fun W => by simp [go_sem, hk, h], fun _ => rfl⟩
/-- a slice of blocks, as it is handed in -/
def SlR (w : World) (A : Option Addr) (n c : Nat) (l : List RB) : Prop := l.length = n ∧ ((A = none ∧ n = 0 ∧ c = 0) ∨ ∃ g off, A = some ⟨g, off, none⟩ ∧ n ≤ c ∧ ∀ i x, l[i]? = some x → w.cell? ⟨g, off + i * 3, none⟩ = some (.int .i64 x.1) ∧ w.cell? ⟨g, off + i * 3 + 1, none⟩ = some (.int .i64 x.2.1) ∧ w.cell? ⟨g, off + i * 3 + 2, none⟩ = some (.string x.2.2))
theorem SlR.kept {w w' : World} {A : Option Addr} {n c : Nat} {l : List RB} (h : SlR w A n c l) (hg : w.grownBy w' none) : SlR w' A n c l := by
  obtain ⟨h1, h2⟩ := h
  refine ⟨h1, ?_⟩
  rcases h2 with h2 | ⟨g, off, e, hc, h3⟩
  · exact .inl h2
  · refine .inr ⟨g, off, e, hc, fun i x hi => ?_⟩
    obtain ⟨c0, c1, c2⟩ := h3 i x hi
    exact ⟨hg.cell c0 (by simp), hg.cell c1 (by simp), hg.cell c2 (by simp)⟩
theorem slice28n (W : World) : (Instr.slice 28 (.slice none 0 0) (some (.int .i64 0)) none none).run Try.prog W = .ok (.slice none 0 0) W := by simp [go_sem]
/-- what stands behind the loop: x, and the rest -/
theorem tail_ok {w W : World} {A : Option Addr} {n c k m c' base : Nat} {D : Option Addr} {l : List RB} (hs : SlR w A n c l) (hg : w.grownBy W none) (hk : k ≤ n) (h1 : n ≤ 90000) (hm : m = k) (x : RB) (hb : base ≤ W.heap.size)
    (ho : W.ownsRow base 63 3 (.slice D m c') m (rvals renc (l.take k))) (hbase : w.heap.size ≤ base) :
    ∃ D2 c2 w2 v3, (Builtin.append_ #[28, 28] 28 #[.slice D m c', .slice (some ⟨W.heap.size, 0, none⟩) 1 1]).run Try.prog (W.alloc (.cells #[.int .i64 x.1, .int .i64 x.2.1, .string x.2.2] 63)) = .ok (.slice D2 (m + 1) c2) w2 ∧
      (∀ W', (Instr.slice 28 (.slice A n c) (some (.int .i64 (k : Int))) none none).run Try.prog W' = .ok v3 W') ∧
      ∃ D3 c3 w3, (Builtin.append_ #[28, 28] 28 #[.slice D2 (m + 1) c2, v3]).run Try.prog w2 = .ok (.slice D3 (n + 1) c3) w3 ∧ w3.ownsRow base 63 3 (.slice D3 (n + 1) c3) (n + 1) (rvals renc (l.take k ++ x :: l.drop k)) ∧ Below base W w3 := by
  obtain ⟨D2, c2, w2, r1, o1, b1⟩ := appR1 x ho hb (by omega)
  have hg2 : w.grownBy w2 none := ⟨b1.os.trans hg.os, b1.tape.trans hg.tape, b1.output.trans hg.output, Nat.le_trans hg.size b1.size, fun j hj _ => (b1.block j (by omega)).trans (hg.block j hj (by simp))⟩
  have hl := hs.1
  have hbw : base ≤ w2.heap.size := Nat.le_trans hb b1.size
  have e0 : l.take k ++ x :: l.drop k = (l.take k ++ [x]) ++ l.drop k := by simp
  rw [e0]
  rcases (hs.kept hg2).2 with ⟨rfl, rfl, rfl⟩ | ⟨g, off, rfl, hnc, hcells⟩
  · obtain rfl : k = 0 := by omega
    subst hm
    obtain ⟨i0, hi0, _⟩ := info_parts info63
    refine ⟨D2, c2, w2, .slice none 0 0, r1, fun W' => slice28n W', D2, c2, w2, run_append_owned_none (P := Try.prog) (w := w2) base 28 28 63 i0 3 Try.underlying28 hi0 _ _ _ o1, ?_, b1⟩
    have : l.drop 0 = [] := by rw [List.drop_zero]; exact List.length_eq_zero_iff.1 hl
    rw [this, List.append_nil]
    exact o1
  · obtain ⟨a2, c4, hsl, ha2⟩ := slice28 g off n c k hk hnc
    obtain ⟨D3, c3, w3, r3, o3, b3⟩ := appR (l2 := l.drop k) o1 hbw a2 (n - k) c4 (by simp [hl]) (by omega) (fun j u hu => by
      by_cases h : k < n
      · rw [ha2 h]
        exact rrow_drop hcells j u hu
      · have : l.drop k = [] := List.drop_of_length_le (by omega)
        rw [this] at hu
        simp [rvals] at hu)
    have e1 : m + 1 + (n - k) = n + 1 := by omega
    rw [e1] at r3 o3
    exact ⟨D2, c2, w2, _, r1, hsl, D3, c3, w3, r3, o3, b1.trans b3⟩
def WithPost (w : World) (n : Nat) (l : List RB) (x : RB) (e : Ending) (w' : World) : Prop := ∃ D c' N, N = n + 1 ∧ e = .returned (.slice D N c') ∧ w'.ownsRow w.heap.size 63 3 (.slice D N c') N (rvals renc (rW l x)) ∧ w.grownBy w' none
set_option maxHeartbeats 1000000 in
theorem rwith_at {w : World} {A : Option Addr} {n c : Nat} {l : List RB} (hs : SlR w A n c l) (h1 : n ≤ 90000) (x1 xa : Int) (xs : ByteArray) :
    Calls Try.prog 28 #[.slice A n c, .agg #[.int .i64 x1, .int .i64 xa, .string xs]] w (WithPost w n l (x1, xa, xs)) := by
  have hga := World.grownBy_alloc w (.cells #[.int .i64 x1, .int .i64 xa, .string xs] 63) none
  have hb := heap_alloc_new w (.cells #[.int .i64 x1, .int .i64 xa, .string xs] 63)
  have HS := Lib.hid hs
  have HG := Lib.hid hga
  have HB := Lib.hid hb
  obtain ⟨B, HBB⟩ : ∃ B, Hid (w.heap.size = B) := ⟨_, Lib.hid rfl⟩
  clear hs hga hb
  go_enter Try.func28, Try.ntmps28
  go_wp2
  rw [HBB.out] at HB ⊢
  obtain ⟨w1, hw1⟩ : ∃ w1 : World, w1 = w.alloc (.cells #[.int .i64 x1, .int .i64 xa, .string xs] 63) := ⟨_, rfl⟩
  rw [← hw1] at HG HB ⊢
  clear hw1
  go_loopw [5, 6] (fun v i wr => ∃ (k : Nat) (D : Option Addr) (m c' : Nat), k ≤ n ∧ m ≤ n ∧ i = .int .i64 (k : Int) ∧ v = .slice D m c' ∧ Hid (m = k ∧ (∀ j y, j < k → l[j]? = some y → rA y (x1, xa, xs) = true) ∧ wr.ownsRow w1.heap.size 63 3 (.slice D m c') m (rvals renc (l.take k)) ∧ Below w1.heap.size w1 wr)) (fun _ i _ => n - (intOf i).toNat)
  case atStart => exact ⟨0, none, 0, 0, by omega, by omega, by go_num, rfl, Lib.hid ⟨rfl, fun j y hj => by omega, World.ownsRow_nil _ _ _ _, Below.refl _ _⟩⟩
  case round =>
    obtain ⟨k, D, m, c', hk, hm, rfl, rfl, HK⟩ := hrel
    have HG1 := Lib.hid (below_grownN HK.out.2.2.2)
    have HS1 := Lib.hid (HS.out.kept (grown_trans HG.out HG1.out))
    have hb2 := kept2 HB.out HG1.out
    have z0 := cell_of_head hb2 0
    have z1 := cell_of_head hb2 1
    have z2 := cell_of_head hb2 2
    clear hb2
    by_cases hlt : k < n
    · obtain ⟨x, HX⟩ : ∃ x, Hid (l[k]? = some x) := ⟨_, Lib.hid (List.getElem?_eq_getElem (by rw [HS.out.1]; exact hlt))⟩
      rcases HS1.out.2 with ⟨_, e, _⟩ | ⟨g, off, rfl, hnc, hcells⟩
      · omega
      obtain ⟨c0, c1, c2⟩ := hcells k x HX.out
      obtain ⟨y1, ya, yy⟩ := x
      dsimp only at c0 c1 c2
      have hltd : decide ((k : Int) < (n : Int)) = true := by simp; omega
      have HKP : Hid (∀ W', wr.grownBy W' none → W'.cell? ⟨g, off + k * 3, none⟩ = some (.int .i64 y1) ∧ W'.cell? ⟨g, off + k * 3 + 1, none⟩ = some (.int .i64 ya) ∧ W'.cell? ⟨g, off + k * 3 + 2, none⟩ = some (.string yy) ∧ W'.cell? ⟨B, 0, none⟩ = some (.int .i64 x1) ∧ W'.cell? ⟨B, 1, none⟩ = some (.int .i64 xa) ∧ W'.cell? ⟨B, 2, none⟩ = some (.string xs)) := Lib.hid (fun W' hg => ⟨hg.cell c0 (by simp), hg.cell c1 (by simp), hg.cell c2 (by simp), hg.cell z0 (by simp), hg.cell z1 (by simp), hg.cell z2 (by simp)⟩)
      have c47 := rahead_at wr.drew (y1, ya, yy) (x1, xa, xs)
      unfold rbV at c47
      dsimp only at c47
      obtain ⟨t, ht⟩ : ∃ t, t = rA (y1, ya, yy) (x1, xa, xs) := ⟨_, rfl⟩
      rw [← ht] at c47
      have HT := Lib.hid ht
      clear ht hcells hnc
      have HSD := HKP.out wr.drew (grown_drewN wr 1 none)
      go_wp2_with fail
      go_region_held3 (fun W' => W'.cell? ⟨g, off + k * 3, none⟩ = some (.int .i64 y1) ∧ W'.cell? ⟨g, off + k * 3 + 1, none⟩ = some (.int .i64 ya) ∧ W'.cell? ⟨g, off + k * 3 + 2, none⟩ = some (.string yy) ∧ W'.cell? ⟨B, 0, none⟩ = some (.int .i64 x1) ∧ W'.cell? ⟨B, 1, none⟩ = some (.int .i64 xa) ∧ W'.cell? ⟨B, 2, none⟩ = some (.string xs)) (first | exact HSD | exact HKP.out _ (grown_trans (grown_drewN wr 1 none) (by assumption)) | go_keep) (first | (go_at_call 47; refine c47.mono ?_; rintro e wcl ⟨rfl, hgc⟩))
      rename_i hHeld
      obtain ⟨u0, u1, u2, u3, u4, u5⟩ := hHeld
      have HGC := Lib.hid (grown_trans (grown_drewN wr 1 none) hgc)
      clear hgc c47 HSD
      cases ht : t with
      | true =>
        subst ht
        obtain ⟨D2, c2', w2, hr1, ho1, hb1⟩ := appR1 (w := wcl) (y1, ya, yy) (HK.out.2.2.1.kept HGC.out (by cases e : (Value.slice D m c').ownBlock with | none => exact .inl rfl | some q => exact .inr (by simp))) (Nat.le_trans HK.out.2.2.2.size HGC.out.size) (by omega)
        dsimp only at hr1
        have HR1 := Lib.hid hr1
        have HO2 : Hid (m + 1 = k + 1 ∧ (∀ j y, j < k + 1 → l[j]? = some y → rA y (x1, xa, xs) = true) ∧ w2.ownsRow w1.heap.size 63 3 (.slice D2 (m + 1) c2') (m + 1) (rvals renc (l.take (k + 1))) ∧ Below w1.heap.size w1 w2) := Lib.hid ⟨by rw [HK.out.1], fun j y hj hy => by
            by_cases e : j = k
            · subst e
              rw [HX.out] at hy
              injection hy with hy
              rw [← hy, ← HT.out]
            · exact HK.out.2.1 j y (by omega) hy, by
            rw [List.take_add_one, HX.out]
            exact ho1, (HK.out.2.2.2.trans ⟨HGC.out.os, HGC.out.tape, HGC.out.output, HGC.out.size, fun j hj => HGC.out.block j (Nat.lt_of_lt_of_le hj HK.out.2.2.2.size) (by simp)⟩).trans hb1⟩
        have hm3 : m + 1 ≤ n := by have := HK.out.1; omega
        clear hr1 ho1 hb1
        go_wp2_with (at_builtin; refine append_run rfl (.tmp 19) (.tmp 24) 28 rfl rfl rfl HR1.out ?_)
        go_round
        case rel => exact ⟨k + 1, D2, m + 1, c2', by omega, hm3, by go_num, rfl, HO2⟩
        case measure => simp only [intOf]; omega
      | false =>
        subst ht
        have HSTOP := Lib.hid (tw_stop HK.out.2.1 (.inr ⟨_, HX.out, HT.out.symm⟩))
        have HGW := Lib.hid (grown_trans HG.out (grown_trans HG1.out HGC.out))
        have HMK := Lib.hid HK.out.1
        have HBW : Hid (w1.heap.size ≤ wcl.heap.size) := Lib.hid (Nat.le_trans HK.out.2.2.2.size HGC.out.size)
        have HOW : Hid (wcl.ownsRow w1.heap.size 63 3 (.slice D m c') m (rvals renc (l.take k))) := Lib.hid (HK.out.2.2.1.kept HGC.out (by cases e : (Value.slice D m c').ownBlock with | none => exact .inl rfl | some q => exact .inr (by simp)))
        obtain ⟨D2, c2', w2, v3, hr1, hsl, D3, c3, w3, hr3, ho3, hb3⟩ := tail_ok HS.out HGW.out hk h1 HMK.out (x1, xa, xs) HBW.out HOW.out (Nat.le_refl w.heap.size |> fun _ => HG.out.size)
        dsimp only at hr1
        have HR1 := Lib.hid hr1
        have HR3 := Lib.hid hr3
        have HF : Hid (WithPost w n l (x1, xa, xs) (.returned (.slice D3 (n + 1) c3)) w3) := Lib.hid ⟨D3, c3, n + 1, rfl, rfl, by rw [HSTOP.out]; exact owns_base ho3 HG.out.size, ⟨hb3.os.trans HGW.out.os, hb3.tape.trans HGW.out.tape, hb3.output.trans HGW.out.output, Nat.le_trans HGW.out.size hb3.size, fun j hj _ => (hb3.block j (by have := HG.out.size; omega)).trans (HGW.out.block j hj (by simp))⟩⟩
        clear hr1 hr3 ho3 hb3
        go_wp2_with (first | (at_builtin; refine append_run rfl (.tmp 28) (.tmp 30) 28 rfl rfl rfl HR1.out ?_) | (at_builtin; refine append_run rfl (.tmp 32) (.tmp 35) 28 rfl rfl rfl HR3.out ?_))
        go_ret
        exact HF.out
    · have hltd : decide ((k : Int) < (n : Int)) = false := by simp; omega
      have hkn : k = n := by omega
      have HSTOP := Lib.hid (tw_stop (k := k) HK.out.2.1 (.inl (by rw [HS.out.1]; exact hkn)))
      have hgd := grown_drewN wr 1 none
      have HGW := Lib.hid (grown_trans HG.out (grown_trans HG1.out hgd))
      have HMK := Lib.hid HK.out.1
      have HBW : Hid (w1.heap.size ≤ wr.drew.heap.size) := Lib.hid HK.out.2.2.2.size
      have HOW : Hid (wr.drew.ownsRow w1.heap.size 63 3 (.slice D m c') m (rvals renc (l.take k))) := Lib.hid HK.out.2.2.1
      have y0 : wr.drew.cell? ⟨B, 0, none⟩ = some (.int .i64 x1) := z0
      have y1 : wr.drew.cell? ⟨B, 1, none⟩ = some (.int .i64 xa) := z1
      have y2 : wr.drew.cell? ⟨B, 2, none⟩ = some (.string xs) := z2
      clear hkn hgd
      go_wp2_with fail
      go_region
      all_goals (
        obtain ⟨D2, c2', w2, v3, hr1, hsl, D3, c3, w3, hr3, ho3, hb3⟩ := tail_ok HS.out HGW.out hk h1 HMK.out (x1, xa, xs) HBW.out HOW.out (Nat.le_refl w.heap.size |> fun _ => HG.out.size)
        dsimp only at hr1
        have HR1 := Lib.hid hr1
        have HR3 := Lib.hid hr3
        have HF : Hid (WithPost w n l (x1, xa, xs) (.returned (.slice D3 (n + 1) c3)) w3) := Lib.hid ⟨D3, c3, n + 1, rfl, rfl, by rw [HSTOP.out]; exact owns_base ho3 HG.out.size, ⟨hb3.os.trans HGW.out.os, hb3.tape.trans HGW.out.tape, hb3.output.trans HGW.out.output, Nat.le_trans HGW.out.size hb3.size, fun j hj _ => (hb3.block j (by have := HG.out.size; omega)).trans (HGW.out.block j hj (by simp))⟩⟩
        clear hr1 hr3 ho3 hb3
        go_wp2_with (first | (at_builtin; refine append_run rfl (.tmp 28) (.tmp 30) 28 rfl rfl rfl HR1.out ?_) | (at_builtin; refine append_run rfl (.tmp 32) (.tmp 35) 28 rfl rfl rfl HR3.out ?_))
        go_ret
        exact HF.out)
end Go.Proofs.Ythpcjgfbngemiaa
