/-
  The document's slab: Alloc.
-/
import Derived.Test.YtoopfoapkbjdkaaRefD
import Derived.Deep.RegionHeld3
namespace Go.Proofs.Ytoopfoapkbjdkaa
open Go.ChangeShapes Go.WideShapes Go.ChangeAt Go.RowKit
set_option linter.unusedVariables false
set_option maxRecDepth 100000

theorem results_ref4_3 {fn : Func} {p a b c : Tmp} (h : fn.results = #[.cell p 32, .tmp a, .tmp b, .tmp c]) (tmps : Array Value) (w : World) (g : Nat) (t : TypeId) (fr : Nat × Nat) (x y z u : Value)
    (hp : tmps.getD p undef = .pointer (some ⟨g, 0, none⟩)) (hg : w.heap[g]? = some (.cells #[x, y, z, u] t fr)) : (results fn tmps).run Try.prog w = .ok (.tuple #[.agg #[x, y, z, u], tmps.getD a undef, tmps.getD b undef, tmps.getD c undef]) w := by
  have hp' : tmps[p]?.getD undef = .pointer (some ⟨g, 0, none⟩) := by simpa using hp
  simp only [results, h]
  simp [hp', asAddr, run_loadVar_row w g t 32 #[x, y, z, u] fr _ hg Try.underlying32 rfl (by kernel_rfl), Result.andThen]
theorem owns_pop1 {w : World} {base g n cap : Nat} {e : TypeId} {xs : List Value} {x : Value} (h : w.ownsRow base e 1 (.slice (some ⟨g, 0, none⟩) (n + 1) cap) (n + 1) (xs ++ [x])) : w.ownsRow base e 1 (.slice (some ⟨g, 0, none⟩) n cap) n xs := by
  have hl : xs.length = n := by have := h.1; simp at this; omega
  refine ⟨by omega, ?_⟩
  rcases h.2 with ⟨h', _⟩ | ⟨g', cap', cur, hv, hb, hgb, hnc, hcm, hcs, htake⟩
  · cases h'
  · injection hv with e1 _ e3
    injection e1 with e1
    injection e1 with e1
    subst e1; subst e3
    refine .inr ⟨g, cap, cur, rfl, hb, hgb, by omega, hcm, hcs, ?_⟩
    have h2 : List.take n (List.take ((n + 1) * 1) cur.toList) = List.take n (xs ++ [x]) := by rw [htake]
    rw [List.take_append_of_le_length (by omega), List.take_of_length_le (l := xs) (by omega), List.take_take, show min n ((n + 1) * 1) = n by omega] at h2
    rw [Nat.mul_one]
    exact h2
section
variable {w w' : World} {lo : Nat} {S : SI} {vL vF : Value}
def AllocPost (w : World) (S : SI) (v : Int) (e : Ending) (w' : World) : Prop :=
  ∃ vL' vF', e = .returned (.tuple #[refVal (S.alloc v) vL' vF', .int .i64 (S.place : Int), .int .i64 ((S.turn S.place + 1 : Nat) : Int), .bool true]) ∧ RefAt w' 0 (S.alloc v) vL' vF' ∧ w.grownBy w' none
set_option maxHeartbeats 2000000 in
theorem ralloc_full (h : RefAt w 0 S vL vF) (h6 : S.L.length ≤ 65536) (hm6 : S.most ≤ 65536) (v : Int) (hfull : S.most ≤ S.len) :
    Calls Try.prog 30 #[refVal S vL vF, .int .i64 v] w fun e w' => e = .returned (.tuple #[refVal S vL vF, .int .i64 0, .int .i64 0, .bool false]) ∧ w.grownBy w' none := by
  obtain ⟨AF, capF, rfl⟩ := owns_slice h.rowF
  obtain ⟨AL, capL, rfl⟩ := h.slice
  obtain ⟨hg0, hz0, b0, b1⟩ := alloc2 w (.cells #[.int .i64 (S.most : Int), .int .i64 (S.c : Int), .slice AL S.L.length capL, .slice AF S.fr.length capF] 32) (.cells #[.int .i64 0, .int .i64 0, .slice none 0 0, .slice none 0 0] 32)
  have hlen : S.len ≤ 65536 := Nat.le_trans (by unfold Slb.len; exact List.countP_le_length) h6
  have hl := rlen_at (h.kept (grown_trans hg0 (grown_drewN _ 1 none))) h6
  unfold refVal at hl ⊢
  obtain ⟨len, Hlen⟩ : ∃ len, Hid (S.L.length = len) := ⟨_, Lib.hid rfl⟩
  obtain ⟨lF, HlF⟩ : ∃ lF, Hid (S.fr.length = lF) := ⟨_, Lib.hid rfl⟩
  rw [Hlen.out, HlF.out] at hl b0 b1 hg0 ⊢
  have HL := Lib.hid hl
  have HB0 := Lib.hid b0
  have HB1 := Lib.hid b1
  have HG0 := Lib.hid hg0
  have hd : decide ((S.most : Int) ≤ (S.len : Int)) = true := by simp; omega
  have hd' : decide (S.most ≤ S.len) = true := by simp; omega
  obtain ⟨c00, c01, c02, c03, l0⟩ := cells4 b0
  have HR := Lib.hid h
  clear hl b0 b1 hg0 h hz0
  go_enter Try.func30, Try.ntmps30
  go_wp2_with fail
  generalize ((w.alloc (.cells #[.int .i64 (S.most : Int), .int .i64 (S.c : Int), .slice AL len capL, .slice AF lF capF] 32)).alloc (.cells #[.int .i64 0, .int .i64 0, .slice none 0 0, .slice none 0 0] 32)) = w0 at *
  have HG1 := Lib.hid (grown_trans (grown_drewN w0 1 none) (World.grownBy_alloc (w0.drewN 1) (.cells #[.int .i64 (S.most : Int), .int .i64 (S.c : Int), .slice AL len capL, .slice AF lF capF] 32) none))
  obtain ⟨k00, k01, k02, k03, _⟩ := cells4 (kept2 HB0.out HG1.out)
  obtain ⟨c10, c11, c12, c13, l1⟩ := cells4 (kept2 HB1.out HG1.out)
  obtain ⟨f10, f11, f12, f13⟩ := free4 (kept2 HB1.out HG1.out)
  go_region_held3 (fun w' => w'.cell? ⟨w.heap.size, 0, none⟩ = some (.int .i64 (S.most : Int)) ∧ w'.cell? ⟨w.heap.size, 1, none⟩ = some (.int .i64 (S.c : Int)) ∧ w'.cell? ⟨w.heap.size, 2, none⟩ = some (.slice AL len capL) ∧ w'.cell? ⟨w.heap.size, 3, none⟩ = some (.slice AF lF capF)) (first | exact ⟨c00, c01, c02, c03⟩ | exact ⟨k00, k01, k02, k03⟩ | go_keep)
    (first | (go_at_call 33; refine HL.out.mono ?_; rintro e w' ⟨rfl, rfl⟩))
  go_wp2
  have hf := fin_ref (S := S) (vL := .slice AL S.L.length capL) (vF := .slice AF S.fr.length capF) (lo := 0) (x := .int .i64 (S.most : Int)) (y := .int .i64 (S.c : Int)) (z := .slice AL len capL) (u := .slice AF lF capF) (w0 := w) (grown_trans HG0.out HG1.out) (show w.heap.size ≤ w.heap.size + 1 by omega) (kept2 HB1.out HG1.out) (HR.out.kept (grown_trans HG0.out HG1.out))
  refine bodyPost_ret (results_ref4_3 rfl _ _ _ _ _ _ _ _ _ rfl hf.1) rfl ?_
  exact ⟨rfl, hf.2.2⟩
set_option maxHeartbeats 2000000 in
theorem ralloc_new (h : RefAt w 0 S vL vF) (h6 : S.L.length ≤ 65536) (hm6 : S.most ≤ 65536) (v : Int) (hroom : S.len < S.most) (hfr : S.fr = []) :
    Calls Try.prog 30 #[refVal S vL vF, .int .i64 v] w (AllocPost w S v) := by
  unfold AllocPost
  have e1 : S.alloc v = ({ S with L := S.L ++ [⟨1, true, v⟩] } : SI) := by unfold Slb.alloc; rw [hfr]; rfl
  have e2 : S.place = S.L.length := by unfold Slb.place; rw [hfr]; rfl
  have e3 : S.turn S.L.length = 0 := by unfold Slb.turn; rw [List.getElem?_eq_none (Nat.le_refl _)]
  rw [e1, e2, e3]
  obtain ⟨AF, capF, rfl⟩ := owns_slice h.rowF
  obtain ⟨AL, capL, rfl⟩ := h.slice
  have hl0 : S.fr.length = 0 := by rw [hfr]; rfl
  rw [hl0] at h ⊢
  have hlen : S.len ≤ 65536 := Nat.le_trans (by unfold Slb.len; exact List.countP_le_length) h6
  obtain ⟨hg0, hz0, b0, b1⟩ := alloc2 w (.cells #[.int .i64 (S.most : Int), .int .i64 (S.c : Int), .slice AL S.L.length capL, .slice AF 0 capF] 32) (.cells #[.int .i64 0, .int .i64 0, .slice none 0 0, .slice none 0 0] 32)
  have hl := rlen_at (h.kept (grown_trans hg0 (grown_drewN _ 1 none))) h6
  unfold refVal at hl ⊢
  obtain ⟨len, Hlen⟩ : ∃ len, Hid (S.L.length = len) := ⟨_, Lib.hid rfl⟩
  rw [Hlen.out] at hl b0 b1 hg0 ⊢
  have HL := Lib.hid hl
  have HB0 := Lib.hid b0
  have HB1 := Lib.hid b1
  have HG0 := Lib.hid hg0
  have hd : decide ((S.most : Int) ≤ (S.len : Int)) = false := by simp; omega
  have hd' : decide (S.most ≤ S.len) = false := by simp; omega
  obtain ⟨c00, c01, c02, c03, l0⟩ := cells4 b0
  have HR := Lib.hid h
  clear hl b0 b1 hg0 h hz0
  go_enter Try.func30, Try.ntmps30
  go_wp2_with fail
  generalize ((w.alloc (.cells #[.int .i64 (S.most : Int), .int .i64 (S.c : Int), .slice AL len capL, .slice AF 0 capF] 32)).alloc (.cells #[.int .i64 0, .int .i64 0, .slice none 0 0, .slice none 0 0] 32)) = w0 at *
  have HG1 := Lib.hid (grown_trans (grown_drewN w0 1 none) (World.grownBy_alloc (w0.drewN 1) (.cells #[.int .i64 (S.most : Int), .int .i64 (S.c : Int), .slice AL len capL, .slice AF 0 capF] 32) none))
  obtain ⟨k00, k01, k02, k03, _⟩ := cells4 (kept2 HB0.out HG1.out)
  go_region_held3 (fun w' => w'.cell? ⟨w.heap.size, 0, none⟩ = some (.int .i64 (S.most : Int)) ∧ w'.cell? ⟨w.heap.size, 1, none⟩ = some (.int .i64 (S.c : Int)) ∧ w'.cell? ⟨w.heap.size, 2, none⟩ = some (.slice AL len capL) ∧ w'.cell? ⟨w.heap.size, 3, none⟩ = some (.slice AF 0 capF)) (first | exact ⟨c00, c01, c02, c03⟩ | exact ⟨k00, k01, k02, k03⟩ | go_keep)
    (first | (go_at_call 33; refine HL.out.mono ?_; rintro e w' ⟨rfl, rfl⟩))
  clear c00 c01 c02 c03 l0 k00 k01 k02 k03 HL
  have HB01 := Lib.hid (kept2 HB0.out HG1.out)
  have HB11 := Lib.hid (kept2 HB1.out HG1.out)
  have HGw := Lib.hid (grown_trans HG0.out HG1.out)
  have HR1 := Lib.hid (HR.out.kept (grown_trans HG0.out HG1.out))
  clear HB0 HB1 HG0 HG1 HR
  generalize (w0.drewN 1).alloc (.cells #[.int .i64 (S.most : Int), .int .i64 (S.c : Int), .slice AL len capL, .slice AF 0 capF] 32) = w1 at *
  have hd2 : decide ((0 : Int) < 0) = false := by simp
  obtain ⟨i0, hi, hz0, hz1, hz2⟩ := info_parts info80
  obtain ⟨g7, cap7, w7, g8, cap8, w8, hrun7, hrun8, ho8, hg7, hg8⟩ := run_push (w := w1) (cs := #[.int .i64 1, .bool true, .int .i64 v]) (ys := [.int .i64 1, .bool true, .int .i64 v]) Try.underlying29 hi hz0 hz1 hz2 rfl (by decide) HR1.out.rowL pcells_one rfl (by simp [Value.oneCell']) (fun w1 => cell_new3 w1 80 _ _ _) (by unfold maxLen; omega) (by omega)
  have hR8 : RefAt w8 0 ({ S with L := S.L ++ [⟨1, true, v⟩] } : SI) (.slice (some ⟨g8, 0, none⟩) (len + 1) cap8) (.slice AF 0 capF) := ⟨by
      have := ho8
      simp only [Hlen.out] at this
      simp only [List.length_append, List.length_cons, List.length_nil, Hlen.out, List.flatMap_append]
      exact this, (HR1.out.kept hg8).rowF⟩
  have HR8 := Lib.hid hR8
  have hB08 := kept2 HB01.out hg8
  have hB18 := kept2 HB11.out hg8
  have HG8 := Lib.hid (grown_trans HGw.out hg8)
  simp only [Hlen.out] at hrun7 hrun8 h6
  have HRun7 := Lib.hid hrun7
  have HRun8 := Lib.hid hrun8
  have HB08 := Lib.hid hB08
  have HB18 := Lib.hid hB18
  obtain ⟨c00, c01, c02, c03, l0⟩ := cells4 HB01.out
  obtain ⟨q00, q01, q02, q03, q0⟩ := cells4 hB08
  obtain ⟨c10, c11, c12, c13, l1⟩ := cells4 hB18
  have f02 := (free4 hB08).2.2.1
  obtain ⟨f10, f11, f12, f13⟩ := free4 hB18
  clear hrun7 hrun8 ho8 hg7 hg8 hB08 hB18 hi hz0 hz1 hz2 hR8 e1 e2 e3 hfr hl0 HR1 HB01 HB11
  go_wp2_with (first | (at_builtin; refine append_run rfl (.tmp 59) (.tmp 61) 29 rfl rfl rfl HRun7.out ?_) | (at_builtin; refine append_run rfl (.tmp 63) (.tmp 66) 29 rfl rfl rfl HRun8.out ?_))
  have hB19 : (w8.setCell ⟨w.heap.size, 2, none⟩ (.slice (some ⟨g8, 0, none⟩) (len + 1) cap8)).heap[w.heap.size + 1]? = some (.cells #[.int .i64 0, .int .i64 0, .slice none 0 0, .slice none 0 0] 32 (0, 0)) := (heap_setCell_other _ _ _ _ (by simp only; omega)).trans HB18.out
  have hf := fin_ref (x := .int .i64 (S.most : Int)) (y := .int .i64 (S.c : Int)) (z := .slice (some ⟨g8, 0, none⟩) (len + 1) cap8) (u := .slice AF 0 capF) (w0 := w) (grown_new HG8.out (grown_setCell w8 w.heap.size 2 (.slice (some ⟨g8, 0, none⟩) (len + 1) cap8)) (Nat.le_refl _)) (by omega) hB19 (HR8.out.setB HB08.out)
  refine bodyPost_ret (results_ref4_3 rfl _ _ _ _ _ _ _ _ _ rfl hf.1) rfl ?_
  exact ⟨_, _, rfl, hf.2.1, hf.2.2⟩
set_option maxHeartbeats 2000000 in
theorem ralloc_freed (h : RefAt w 0 S vL vF) (h6 : S.L.length ≤ 65536) (hm6 : S.most ≤ 65536) (v : Int) (hroom : S.len < S.most) {fr' : List Nat} {p : Nat} {s : Spot Int} (hfr : S.fr = fr' ++ [p]) (hf6 : S.fr.length ≤ 65536) (hs : S.L[p]? = some s) (ht : s.turn < 4294967296) :
    Calls Try.prog 30 #[refVal S vL vF, .int .i64 v] w (AllocPost w S v) := by
  unfold AllocPost
  have e2 : S.place = p := by unfold Slb.place; rw [hfr, List.getLast?_append]; rfl
  have e3 : S.turn p = s.turn := by unfold Slb.turn; rw [hs]
  have e1 : S.alloc v = ({ S with L := S.L.set p ⟨s.turn + 1, true, v⟩, fr := fr' } : SI) := by
    unfold Slb.alloc
    rw [hfr, List.getLast?_append]
    simp only [List.dropLast_concat]
    simp [e3]
  rw [e1, e2, e3]
  have hp := (List.getElem?_eq_some_iff.1 hs).1
  have hln : S.fr.length = fr'.length + 1 := by rw [hfr]; simp
  obtain ⟨gF, capF, rfl⟩ := owns_some h.rowF (by omega)
  obtain ⟨AL, capL, rfl⟩ := h.slice
  rw [hln] at h ⊢
  have hrF := h.rowF
  rw [hln, hfr, ivals_append] at hrF
  have hcap : fr'.length + 1 ≤ capF := by
    rcases hrF.2 with ⟨h', _⟩ | ⟨g', cap', cur, h', _, _, h3, _⟩
    · cases h'
    · injection h' with _ _ e3; omega
  have hgl : gF < w.heap.size := (hrF.lt gF rfl).2
  have HRF := Lib.hid hrF
  have Hs := Lib.hid hs
  clear hrF hs
  obtain ⟨n, Hn⟩ : ∃ n, Hid (fr'.length = n) := ⟨_, Lib.hid rfl⟩
  rw [Hn.out] at HRF hcap h ⊢
  rw [hln, Hn.out] at hf6
  have hlen : S.len ≤ 65536 := Nat.le_trans (by unfold Slb.len; exact List.countP_le_length) h6
  obtain ⟨hg0, hz0, b0, b1⟩ := alloc2 w (.cells #[.int .i64 (S.most : Int), .int .i64 (S.c : Int), .slice AL S.L.length capL, .slice (some ⟨gF, 0, none⟩) (n + 1) capF] 32) (.cells #[.int .i64 0, .int .i64 0, .slice none 0 0, .slice none 0 0] 32)
  have hl := rlen_at (h.kept (grown_trans hg0 (grown_drewN _ 1 none))) h6
  unfold refVal at hl ⊢
  obtain ⟨len, Hlen⟩ : ∃ len, Hid (S.L.length = len) := ⟨_, Lib.hid rfl⟩
  rw [Hlen.out] at hl b0 b1 hg0 ⊢
  have HL := Lib.hid hl
  have HB0 := Lib.hid b0
  have HB1 := Lib.hid b1
  have HG0 := Lib.hid hg0
  have hd : decide ((S.most : Int) ≤ (S.len : Int)) = false := by simp; omega
  have hd' : decide (S.most ≤ S.len) = false := by simp; omega
  obtain ⟨c00, c01, c02, c03, l0⟩ := cells4 b0
  have HR := Lib.hid h
  clear hl b0 b1 hg0 h hz0
  go_enter Try.func30, Try.ntmps30
  go_wp2_with fail
  generalize ((w.alloc (.cells #[.int .i64 (S.most : Int), .int .i64 (S.c : Int), .slice AL len capL, .slice (some ⟨gF, 0, none⟩) (n + 1) capF] 32)).alloc (.cells #[.int .i64 0, .int .i64 0, .slice none 0 0, .slice none 0 0] 32)) = w0 at *
  have HG1 := Lib.hid (grown_trans (grown_drewN w0 1 none) (World.grownBy_alloc (w0.drewN 1) (.cells #[.int .i64 (S.most : Int), .int .i64 (S.c : Int), .slice AL len capL, .slice (some ⟨gF, 0, none⟩) (n + 1) capF] 32) none))
  obtain ⟨k00, k01, k02, k03, _⟩ := cells4 (kept2 HB0.out HG1.out)
  go_region_held3 (fun w' => w'.cell? ⟨w.heap.size, 0, none⟩ = some (.int .i64 (S.most : Int)) ∧ w'.cell? ⟨w.heap.size, 1, none⟩ = some (.int .i64 (S.c : Int)) ∧ w'.cell? ⟨w.heap.size, 2, none⟩ = some (.slice AL len capL) ∧ w'.cell? ⟨w.heap.size, 3, none⟩ = some (.slice (some ⟨gF, 0, none⟩) (n + 1) capF)) (first | exact ⟨c00, c01, c02, c03⟩ | exact ⟨k00, k01, k02, k03⟩ | go_keep)
    (first | (go_at_call 33; refine HL.out.mono ?_; rintro e w' ⟨rfl, rfl⟩))
  clear c00 c01 c02 c03 l0 k00 k01 k02 k03 HL
  have HB01 := Lib.hid (kept2 HB0.out HG1.out)
  have HB11 := Lib.hid (kept2 HB1.out HG1.out)
  have HGw := Lib.hid (grown_trans HG0.out HG1.out)
  have HR1 := Lib.hid (HR.out.kept (grown_trans HG0.out HG1.out))
  clear HB0 HB1 HG0 HG1 HR
  generalize (w0.drewN 1).alloc (.cells #[.int .i64 (S.most : Int), .int .i64 (S.c : Int), .slice AL len capL, .slice (some ⟨gF, 0, none⟩) (n + 1) capF] 32) = w1 at *
  have HRF1 := Lib.hid (HRF.out.kept HGw.out (by simp [Value.ownBlock]))
  have hpc := HRF1.out.cellAt n (by omega)
  rw [List.getElem?_append_right (by rw [ivals_len, Hn.out]; exact Nat.le_refl _), ivals_len, Hn.out, Nat.sub_self] at hpc
  simp only [ivals, List.map_cons, List.map_nil, List.getElem?_cons_zero] at hpc
  obtain ⟨gL, cp, hv, hgl2, t0, _, _⟩ := HR1.out.cell Hs.out
  obtain ⟨rfl, rfl⟩ : AL = some ⟨gL, 0, none⟩ ∧ capL = cp := by injection hv with a _ b; exact ⟨a, b⟩
  clear hv
  obtain ⟨i0, hi, hz0, hz1, hz2⟩ := info_parts info3
  obtain ⟨g7, cap7, w7, hrun7, ho7, hg7⟩ := run_clone (w := w1) Try.underlying30 hi hz0 hz1 hz2 rfl (by decide) (owns_pop1 HRF1.out) ivals_one (by unfold maxLen; omega) (by omega)
  have hB07 := kept2 HB01.out hg7
  have hB17 := kept2 HB11.out hg7
  have hB08 : (w7.setCell ⟨w.heap.size, 3, none⟩ (.slice (some ⟨g7, 0, none⟩) n cap7)).heap[w.heap.size]? = some (.cells #[.int .i64 (S.most : Int), .int .i64 (S.c : Int), .slice (some ⟨gL, 0, none⟩) len capL, .slice (some ⟨g7, 0, none⟩) n cap7] 32 (0, 0)) := head_set hB07 3 _
  have hB18 : (w7.setCell ⟨w.heap.size, 3, none⟩ (.slice (some ⟨g7, 0, none⟩) n cap7)).heap[w.heap.size + 1]? = some (.cells #[.int .i64 0, .int .i64 0, .slice none 0 0, .slice none 0 0] 32 (0, 0)) := (heap_setCell_other _ _ _ _ (by simp only; omega)).trans hB17
  have hR7 : RefAt w7 0 ({ S with fr := fr' } : SI) (.slice (some ⟨gL, 0, none⟩) S.L.length capL) (.slice (some ⟨g7, 0, none⟩) n cap7) := ⟨(HR1.out.kept hg7).rowL, by simp only [Hn.out]; exact ownsRow_base0 ho7⟩
  have hR8 := hR7.setB (i := 3) (v := .slice (some ⟨g7, 0, none⟩) n cap7) hB07
  have HG8 := Lib.hid (grown_new (grown_trans HGw.out hg7) (grown_setCell w7 w.heap.size 3 (.slice (some ⟨g7, 0, none⟩) n cap7)) (Nat.le_refl _))
  have hW := with_at hR8 h6 hp ⟨s.turn + 1, true, v⟩
  have HR8 := Lib.hid hR8
  simp only [Hlen.out, Int.natCast_add, Int.natCast_one] at hW h6 hp
  have HW := Lib.hid hW
  have HRun7 := Lib.hid hrun7
  have HB08 := Lib.hid hB08
  have HB18 := Lib.hid hB18
  have hpI : (p : Int) < (len : Int) := by omega
  obtain ⟨c00, c01, c02, c03, l0⟩ := cells4 HB01.out
  obtain ⟨q00, q01, q02, q03, q0⟩ := cells4 hB07
  obtain ⟨r00, r01, r02, r03, r0⟩ := cells4 hB08
  have f03 := (free4 hB07).2.2.2
  clear hrun7 ho7 hg7 hB07 hB17 hB08 hB18 hi hz0 hz1 hz2 hR7 hR8 hW e1 e2 e3 hfr HRF HRF1 HB01 HB11 HR1
  go_wp2_with (first | (at_builtin; refine append_run rfl (.tmp 37) (.tmp 42) 30 rfl rfl rfl HRun7.out ?_))
  refine HW.out.mono ?_
  rintro e w9 ⟨A9, cap9, rfl, hrow, hg9⟩
  have HB09 := Lib.hid (kept2 HB08.out hg9)
  have HB19 := Lib.hid (kept2 HB18.out hg9)
  have HG9 := Lib.hid (grown_trans HG8.out hg9)
  have HR9 : Hid (RefAt w9 0 ({ S with L := S.L.set p ⟨s.turn + 1, true, v⟩, fr := fr' } : SI) (.slice A9 len cap9) (.slice (some ⟨g7, 0, none⟩) n cap7)) := Lib.hid ⟨by simp only [List.length_set, Hlen.out]; exact hrow, (HR8.out.kept hg9).rowF⟩
  clear c00 c01 c02 c03 l0 q00 q01 q02 q03 q0 r00 r01 r02 r03 r0 f03 hrow hg9 HW HB08 HB18 HG8 HR8 hpc t0
  obtain ⟨c00, c01, c02, c03, l0⟩ := cells4 HB09.out
  obtain ⟨c10, c11, c12, c13, l1⟩ := cells4 HB19.out
  have f02 := (free4 HB09.out).2.2.1
  obtain ⟨f10, f11, f12, f13⟩ := free4 HB19.out
  go_wp2
  have hB1x : (w9.setCell ⟨w.heap.size, 2, none⟩ (.slice A9 len cap9)).heap[w.heap.size + 1]? = some (.cells #[.int .i64 0, .int .i64 0, .slice none 0 0, .slice none 0 0] 32 (0, 0)) := (heap_setCell_other _ _ _ _ (by simp only; omega)).trans HB19.out
  have hf := fin_ref (x := .int .i64 (S.most : Int)) (y := .int .i64 (S.c : Int)) (z := .slice A9 len cap9) (u := .slice (some ⟨g7, 0, none⟩) n cap7) (w0 := w) (grown_new HG9.out (grown_setCell w9 w.heap.size 2 (.slice A9 len cap9)) (Nat.le_refl _)) (by omega) hB1x (HR9.out.setB HB09.out)
  refine bodyPost_ret (results_ref4_3 rfl _ _ _ _ _ _ _ _ _ rfl hf.1) rfl ?_
  exact ⟨_, _, rfl, hf.2.1, hf.2.2⟩
end
end Go.Proofs.Ytoopfoapkbjdkaa
