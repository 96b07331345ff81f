/-
  Get, Set and Free of a slab of numbers.
-/
import Derived.Test.YtoopfoapkbjdkaaFind
namespace Go.Proofs.Ytoopfoapkbjdkaa
open Go.ChangeShapes Go.WideShapes Go.ChangeAt Go.RowKit
set_option linter.unusedVariables false

/-- find told an error: so does Get -/
theorem get_no (A : Option Addr) (p t er : Int) (w : World) (her : ¬ er = 0) (hf : ∀ w', w.grownBy w' none → Calls Try.prog 38 #[.pointer A, hdl p t] w' fun e w'' => e = .returned (.tuple #[.pointer none, .int .i64 er]) ∧ w'.grownBy w'' none) :
    Calls Try.prog 15 #[.pointer A, hdl p t] w fun e w' => e = .returned (.tuple #[.int .i64 0, .int .i64 er]) ∧ w.grownBy w' none := by
  have Hs := Lib.hid hf
  clear hf
  have hb : (er != 0) = true := by simp [her]
  unfold hdl
  go_enter Try.func15, Try.ntmps15
  go_wp2_with (go_at_call 38; refine (Hs.out _ (World.grownBy_alloc _ _ none)).mono ?_; rintro e w' ⟨rfl, hg⟩; have HG := Lib.hid hg; clear hg)
  go_ret2
  exact ⟨rfl, grown_trans (World.grownBy_alloc _ _ none) (grown_trans HG.out (World.grownBy_alloc _ _ none))⟩
theorem get_yes (A : Option Addr) (dj o : Nat) (p t v : Int) (w : World) (hf : ∀ w', w.grownBy w' none → Calls Try.prog 38 #[.pointer A, hdl p t] w' fun e w'' => e = .returned (.tuple #[.pointer (some ⟨dj, o, none⟩), .int .i64 0]) ∧ w'.grownBy w'' none)
    (h2 : w.cell? ⟨dj, o + 2, none⟩ = some (.int .i64 v)) :
    Calls Try.prog 15 #[.pointer A, hdl p t] w fun e w' => e = .returned (.tuple #[.int .i64 v, .int .i64 0]) ∧ w.grownBy w' none := by
  have Hs := Lib.hid hf
  clear hf
  unfold hdl
  go_enter Try.func15, Try.ntmps15
  go_wp2_with (go_at_call 38; refine (Hs.out _ (World.grownBy_alloc _ _ none)).mono ?_; rintro e w' ⟨rfl, hg⟩; have hc := (grown_trans (World.grownBy_alloc w _ none) hg).cell h2 (by simp); have HG := Lib.hid hg; clear hg)
  go_ret2
  exact ⟨rfl, grown_trans (World.grownBy_alloc _ _ none) HG.out⟩
theorem set_no (A : Option Addr) (p t v er : Int) (w : World) (her : ¬ er = 0) (hf : ∀ w', w.grownBy w' none → Calls Try.prog 38 #[.pointer A, hdl p t] w' fun e w'' => e = .returned (.tuple #[.pointer none, .int .i64 er]) ∧ w'.grownBy w'' none) :
    Calls Try.prog 17 #[.pointer A, hdl p t, .int .i64 v] w fun e w' => e = .returned (.int .i64 er) ∧ w.grownBy w' none := by
  have Hs := Lib.hid hf
  clear hf
  have hb : (er != 0) = true := by simp [her]
  unfold hdl
  go_enter Try.func17, Try.ntmps17
  go_wp2_with (go_at_call 38; refine (Hs.out _ (World.grownBy_alloc _ _ none)).mono ?_; rintro e w' ⟨rfl, hg⟩; have HG := Lib.hid hg; clear hg)
  go_ret
  exact ⟨rfl, grown_trans (World.grownBy_alloc _ _ none) HG.out⟩
theorem set_yes (A : Option Addr) (dj o : Nat) (p t v v0 : Int) (w : World) (hf : ∀ w', w.grownBy w' none → Calls Try.prog 38 #[.pointer A, hdl p t] w' fun e w'' => e = .returned (.tuple #[.pointer (some ⟨dj, o, none⟩), .int .i64 0]) ∧ w'.grownBy w'' none)
    (h2 : w.cell? ⟨dj, o + 2, none⟩ = some (.int .i64 v0)) (hfr : w.frozen? ⟨dj, o + 2, none⟩ = false) :
    Calls Try.prog 17 #[.pointer A, hdl p t, .int .i64 v] w fun e w' => e = .returned (.int .i64 0) ∧ ∃ w1, w.grownBy w1 none ∧ w' = w1.setCell ⟨dj, o + 2, none⟩ (.int .i64 v) := by
  have Hs := Lib.hid hf
  clear hf
  unfold hdl
  have hlt := block_lt_of_cell h2
  go_enter Try.func17, Try.ntmps17
  go_wp2_with (go_at_call 38; refine (Hs.out _ (World.grownBy_alloc _ _ none)).mono ?_; rintro e w' ⟨rfl, hg⟩; have hc := (grown_trans (World.grownBy_alloc w _ none) hg).cell h2 (by simp); have hfr' := (World.frozen?_of_block (a := ⟨dj, o + 2, none⟩) ((grown_trans (World.grownBy_alloc w (.cells #[.int .i32 p, .int .u32 t] 35) none) hg).block dj hlt (by simp))).trans hfr; have HG := Lib.hid hg; clear hg)
  go_ret
  exact ⟨rfl, w', grown_trans (World.grownBy_alloc _ _ none) HG.out, rfl⟩
theorem free_no (A : Option Addr) (p t er : Int) (w : World) (her : ¬ er = 0) (hf : ∀ w', w.grownBy w' none → Calls Try.prog 38 #[.pointer A, hdl p t] w' fun e w'' => e = .returned (.tuple #[.pointer none, .int .i64 er]) ∧ w'.grownBy w'' none) :
    Calls Try.prog 14 #[.pointer A, hdl p t] w fun e w' => e = .returned (.int .i64 er) ∧ w.grownBy w' none := by
  have Hs := Lib.hid hf
  clear hf
  have hb : (er != 0) = true := by simp [her]
  unfold hdl
  go_enter Try.func14, Try.ntmps14
  go_wp2_with (go_at_call 38; refine (Hs.out _ (World.grownBy_alloc _ _ none)).mono ?_; rintro e w' ⟨rfl, hg⟩; have HG := Lib.hid hg; clear hg)
  go_ret
  exact ⟨rfl, grown_trans (World.grownBy_alloc _ _ none) HG.out⟩
theorem info21 : (Try.prog.info? 21).map (fun i => (i.zero, i.size, i.bytes)) = some (some (.int .i32 0), 1, 4) := by kernel_rfl
/-- a region that reads, calls what only reckons, and ends in one forced tail: the world has a name of its own -/
theorem region_tail {P : Program} {id : Nat} {Q : Exit → Act → World → Prop} {a : Act} {w : World} {l : List Oper} (n : Nat) (hm : P.follows .mixedOrders = true) (hB : Region.lexTailB .any l.toArray n = true)
    (h : ∀ w2 : World, w2 = w.drewN 1 → wpStill P l.toArray w2 (fun a' => wpList P l.toArray Q (l.drop n) a' w2) (l.take n) a) : (Code.region id l.toArray true).wp P Q a w :=
  wp_region_still_tail n hm hB (h _ rfl)
/-- the place's cells as Free leaves them -/
def freedSpot (w : World) (dj o : Nat) (turn : Int) : World := ((w.setCell ⟨dj, o, none⟩ (.int .u32 turn)).setCell ⟨dj, o + 1, none⟩ (.bool false)).setCell ⟨dj, o + 2, none⟩ (.int .i64 0)
theorem freed_other (w : World) (dj o : Nat) (turn : Int) {k : Nat} (h : k ≠ dj) : (freedSpot w dj o turn).heap[k]? = w.heap[k]? :=
  (heap_setCell_other _ _ k _ h).trans ((heap_setCell_other _ _ k _ h).trans (heap_setCell_other _ _ k _ h))
theorem cell_new1 (w : World) (t : TypeId) (y : Value) : ∀ j u, [y][j]? = some u → (w.alloc (.cells #[y] t)).cell? ((⟨w.heap.size, 0, none⟩ : Addr).add j) = some u := by
  intro j u hj
  rcases j with _ | j
  · injection hj with hj; subst hj
    rw [Go.WideShapes.add_plain]
    exact cell_of_head (heap_alloc_new w _) 0
  · simp at hj
set_option maxRecDepth 100000 in
set_option maxHeartbeats 1000000 in
theorem free_yes (lo b dj o n most c : Nat) (t turn v0 : Int) (s0 : Bool) (w : World) (Lc : List (List Value)) (fr : List Nat) (d cp : Nat → Nat) (vC vF : Value) (hfl : fr.length ≤ 65536) (hlo : lo ≤ w.heap.size)
    (hf : ∀ w', w.grownBy w' none → Calls Try.prog 38 #[.pointer (some ⟨b, 0, none⟩), hdl (n : Int) t] w' fun e w'' => e = .returned (.tuple #[.pointer (some ⟨dj, o, none⟩), .int .i64 0]) ∧ w'.grownBy w'' none)
    (h0 : w.cell? ⟨dj, o, none⟩ = some (.int .u32 turn)) (h1 : w.cell? ⟨dj, o + 1, none⟩ = some (.bool s0)) (h2 : w.cell? ⟨dj, o + 2, none⟩ = some (.int .i64 v0)) 
    (hfr : ∀ i, w.frozen? ⟨dj, i, none⟩ = false) (hM : ∀ w', w.grownBy w' none → Mem Ki (freedSpot w' dj o turn) lo b most c Lc fr d cp vC vF) :
    Calls Try.prog 14 #[.pointer (some ⟨b, 0, none⟩), hdl (n : Int) t] w fun e w' => e = .returned (.int .i64 0) ∧ ∃ w1 vF', w.grownBy w1 none ∧ Mem Ki w' lo b most c Lc (fr ++ [n]) d cp vC vF' ∧ Keep Ki lo (freedSpot w1 dj o turn) w' := by
  have Hs := Lib.hid hf
  clear hf
  unfold hdl
  have hlt := block_lt_of_cell h2
  simp only at hlt
  have Hfr := Lib.hid hfr
  have HM := Lib.hid hM
  clear hfr hM
  obtain ⟨i0, hi, hz0, hz1, hz2⟩ := info_parts info21
  have HI := Lib.hid hi
  have HZ0 := Lib.hid hz0
  have HZ1 := Lib.hid hz1
  have HZ2 := Lib.hid hz2
  clear hi hz0 hz1 hz2
  go_enter Try.func14, Try.ntmps14
  go_wp2_with (go_at_call 38; refine (Hs.out _ (World.grownBy_alloc _ _ none)).mono ?_; rintro e w' ⟨rfl, hg⟩; have hg2 := grown_trans (World.grownBy_alloc w (.cells #[.int .i32 (n : Int), .int .u32 t] 35) none) hg; have hc0 := hg2.cell h0 (by simp); have hc1 := hg2.cell h1 (by simp); have hc2 := hg2.cell h2 (by simp); have hf0 := (World.frozen?_of_block (a := ⟨dj, o, none⟩) (hg2.block dj hlt (by simp))).trans (Hfr.out _); have hf1 := (World.frozen?_of_block (a := ⟨dj, o + 1, none⟩) (hg2.block dj hlt (by simp))).trans (Hfr.out _); have hf2 := (World.frozen?_of_block (a := ⟨dj, o + 2, none⟩) (hg2.block dj hlt (by simp))).trans (Hfr.out _); obtain ⟨hb0, hb1⟩ := box_cells hg; have hz := box_lt hg; have HG := Lib.hid hg2; clear hg hg2)
  change Code.wp Try.prog _ _ _ (freedSpot w' dj o turn)
  have hbx : (freedSpot w' dj o turn).cell? ⟨w.heap.size, 0, none⟩ = some (.int .i32 (n : Int)) := (World.cell?_of_block (freed_other w' dj o turn (by simp only; omega))).trans hb0
  have hM1 := HM.out w' HG.out
  have hsz : w'.heap.size = (freedSpot w' dj o turn).heap.size := by simp [freedSpot]
  have HK : Hid (Keep Ki lo (freedSpot w' dj o turn) (freedSpot w' dj o turn)) := Lib.hid (Keep.refl _ _ _)
  generalize hwe : freedSpot w' dj o turn = w3 at hbx hM1 hsz ⊢
  rw [hwe] at HK
  rw [← hwe] at HK
  have Hwe := Lib.hid hwe
  clear hwe hc0 hc1 hc2 hf0 hf1 hf2 hb0 hb1 HK
  obtain ⟨A, cap, rfl⟩ := owns_slice hM1.rowF
  have hlo3 : lo ≤ w3.heap.size := by omega
  have H3 := Lib.hid hM1
  clear hM1
  have h4 := H3.out.freed4
  have H4 : Hid (Mem Ki w3.drew lo b most c Lc fr d cp vC (.slice A fr.length cap)) := Lib.hid (H3.out.drewN 1)
  have HK2 : Hid (Keep Ki lo w3 w3.drew) := Lib.hid (Keep.of_new (grown_drewN w3 1 none))
  obtain ⟨g', cap', w5, hrun, ho, hgr, hft⟩ := run_append_foot (P := Try.prog) ((w3.alloc (.cells #[.int .i32 (n : Int)] 21)).drew) lo 71 71 21 i0 (.int .i32 0) 1 4 Try.underlying71 HI.out HZ0.out HZ1.out HZ2.out rfl (by decide) (.slice A fr.length cap) fr.length (frVals fr) (H4.out.rowF.alloc _) ⟨w3.heap.size, 0, none⟩ 1 [.int .i32 (n : Int)] rfl (cell_new1 w3.drew 21 _) (by simp [Value.oneCell']) (by unfold maxLen; omega) (by omega) (by simp; omega)
  have hMF := H4.out.setF Ki_ok (fr' := fr ++ [n]) (w1 := w5) (vF' := .slice (some ⟨g', 0, none⟩) (fr.length + 1) cap') (by simpa [frVals] using ho) (grown_trans (World.grownBy_alloc w3.drew _ _) hgr)
  have hb5 : w5.heap[b]? = w3.heap[b]? := by
    have h1 : ((w3.alloc (.cells #[.int .i32 (n : Int)] 21)).drew.heap[b]?) = w3.heap[b]? := (World.grownBy_alloc w3 _ none).block b H3.out.blt (by simp)
    refine (hgr.block b (by have := H3.out.blt; simp; omega) fun e => ?_).trans h1
    obtain ⟨_, cur, h2⟩ := owns_type H3.out.rowF e.symm
    exact H3.out.not_b Ki_ok h2 Ki_ok.sf rfl
  have h54 : w5.cell? ⟨b, 4, none⟩ = some (.slice A fr.length cap) := (World.cell?_of_block (a := ⟨b, 4, none⟩) hb5).trans H3.out.freed4
  have h5f : w5.frozen? ⟨b, 4, none⟩ = false := (World.frozen?_of_block (a := ⟨b, 4, none⟩) hb5).trans (H3.out.frozen 4)
  have hbl := H3.out.blt
  have hbs : w.heap.size < w3.heap.size := by omega
  have HR := Lib.hid hrun
  have HMF := Lib.hid hMF
  clear hrun ho hgr hft hMF hb5 H3
  go_region_law ((refine step_append_run rfl (.tmp 27) (.tmp 30) 71 rfl rfl rfl HR.out ?_))
  all_goals go_wp2
  all_goals go_ret
  all_goals exact ⟨rfl, w', _, HG.out, HMF.out.1, by rw [Hwe.out]; exact HK2.out.trans HMF.out.2⟩
end Go.Proofs.Ytoopfoapkbjdkaa
