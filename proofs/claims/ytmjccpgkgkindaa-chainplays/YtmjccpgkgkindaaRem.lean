/-
  A node is taken out: Remove.
-/
import Derived.Test.YtmjccpgkgkindaaLay
namespace Go.Proofs.Ytmjccpgkgkindaa
open Go.ChangeShapes Go.WideShapes Go.ChangeAt Go.RowKit
set_option linter.unusedVariables false

theorem region_tail {P : Program} {id : Nat} {Q : Exit → Act → World → Prop} {a : Act} {w : World} {l : List Oper} (n : Nat) (hm : P.follows .mixedOrders = true) (hB : Region.lexTailB .any l.toArray n = true)
    (h : ∀ w2 : World, w2 = w.drewN 1 → wpStill P l.toArray w2 (fun a' => wpList P l.toArray Q (l.drop n) a' w2) (l.take n) a) : (Code.region id l.toArray true).wp P Q a w :=
  wp_region_still_tail n hm hB (h _ rfl)
theorem remove_no (p : Option Addr) (n : Int) (w : World) (h0 : Calls Try.prog 38 #[.pointer p, .int .i32 n] w fun e w' => e = .returned (.bool false) ∧ w = w') :
    Calls Try.prog 16 #[.pointer p, .int .i32 n] w fun e w' => e = .returned (.bool false) ∧ w = w' := by
  have H0 := Lib.hid h0
  clear h0
  go_enter Try.func16, Try.ntmps16
  go_wp2_with (go_at_call 38; refine H0.out.mono ?_; rintro e w' ⟨rfl, rfl⟩)
  go_ret
  exact ⟨rfl, rfl⟩
/-- the links behind it -/
def remLk (lk : Nat → Lk) (x pv nx : Nat) : Nat → Lk :=
  let k1 := put lk pv ⟨(lk pv).p, nx, (lk pv).l, (lk pv).s⟩
  let k2 := put k1 nx ⟨pv, (k1 nx).n, (k1 nx).l, (k1 nx).s⟩
  put k2 x ⟨0, 0, 0, false⟩
section
variable {w : World} {lo b N M gL gN : Nat} {lk : Nat → Lk} {ln : Nat → Nat}
set_option maxHeartbeats 2000000 in
theorem remove_raw (h : Mem w lo b N M gL gN lk ln) (x pv nx li lm : Nat) (hx : x < N) (hs : (lk x).s = true) (hpv : (lk x).p = pv) (hnx : (lk x).n = nx) (hp : pv < N + M) (hn : nx < N + M) (hli : (lk x).l = li) (hlm : li < M) (hln : ln li = lm + 1) (hl9 : lm < 9223372036854775807) :
    Calls Try.prog 16 #[.pointer (some ⟨b, 0, none⟩), .int .i32 (x : Int)] w fun e w' => e = .returned (.bool true) ∧ Mem w' lo b N M gL gN (remLk lk x pv nx) (put ln li lm) ∧ Kp gL gN w w' := by
  have h0 := stands_at h x (by have := h.n6; constructor <;> omega)
  have e : standsB N lk (x : Int) = true := by unfold standsB; rw [inN_nat hx]; simpa using hs
  rw [e] at h0
  have h1 := h.links1
  have x0 := h.links.cell (i := x) (t := 0) (by omega) (by decide)
  have x1 := h.links.cell (i := x) (t := 1) (by omega) (by decide)
  have x2 := h.links.cell (i := x) (t := 2) (by omega) (by decide)
  have x3 := h.links.cell (i := x) (t := 3) (by omega) (by decide)
  simp only [Lk.cells, List.getElem?_cons_succ, List.getElem?_cons_zero, Nat.add_zero, hpv, hnx, hli, hs] at x0 x1 x2 x3
  obtain ⟨L, HL⟩ : ∃ L, Hid (N + M = L) := ⟨_, Lib.hid rfl⟩
  rw [HL.out] at h1
  have hpL : pv < L := by rw [← HL.out]; exact hp
  have hnL : nx < L := by rw [← HL.out]; exact hn
  have hxL : x < L := by rw [← HL.out]; omega
  have HP := Lib.hid hp
  have HN := Lib.hid hn
  have HX : Hid (x < N + M) := Lib.hid (by omega)
  clear hp hn
  have hw : wrap64 (((lm + 1 : Nat) : Int) - 1) = (lm : Int) := by unfold wrap64; omega
  have HM := Lib.hid h
  have H0 := Lib.hid h0
  have hlt := h.links.lt
  clear h hpv hnx hli h0 e hs
  go_enter Try.func16, Try.ntmps16
  go_wp2_with (go_at_call 38; refine H0.out.mono ?_; rintro e w' ⟨rfl, rfl⟩)
  have hbx := heap_alloc_new w (.cells #[.int .i32 (pv : Int), .int .i32 (nx : Int), .int .i64 (li : Int), .bool true] 69)
  have HG := Lib.hid (World.grownBy_alloc w (.cells #[.int .i32 (pv : Int), .int .i32 (nx : Int), .int .i64 (li : Int), .bool true] 69) none)
  have HM0 := Lib.hid (HM.out.kept HG.out)
  have HK0 : Hid (Kp gL gN w _) := Lib.hid (Kp.of_new HG.out)
  obtain ⟨B, HB⟩ : ∃ B, Hid (w.heap.size = B) := ⟨_, Lib.hid rfl⟩
  have hLB : Hid (gL ≠ B ∧ gN ≠ B) := Lib.hid (by have := HM.out.lens.lt; rw [← HB.out]; omega)
  generalize w.alloc (.cells #[.int .i32 (pv : Int), .int .i32 (nx : Int), .int .i64 (li : Int), .bool true] 69) = w0 at *
  rw [HB.out] at hbx ⊢
  clear x0 x1 x2 x3 HM HG H0 h1 hlt
  -- prev.next
  refine region_tail 10 (by kernel_rfl) (by kernel_rfl) ?_
  intro w1 hw1
  have HM1 : Hid (Mem w1 lo b N M gL gN lk ln) := Lib.hid (by rw [hw1]; exact HM0.out.kept (grown_drewN w0 1 none))
  have HK1 : Hid (Kp gL gN w w1) := Lib.hid (by rw [hw1]; exact HK0.out.trans (Kp.of_new (grown_drewN w0 1 none)))
  have hbx : w1.heap[B]? = some (.cells #[.int .i32 (pv : Int), .int .i32 (nx : Int), .int .i64 (li : Int), .bool true] 69 (0, 0)) := by rw [hw1]; exact hbx
  have HBX := Lib.hid hbx
  have b0 := cell_of_head hbx 0
  have b1 := cell_of_head hbx 1
  simp only [List.getElem?_toArray, List.getElem?_cons_zero, List.getElem?_cons_succ] at b0 b1
  have h1 := HM1.out.links1
  rw [HL.out] at h1
  clear hw1 hbx HM0 HK0
  simp only [List.take_succ_cons, List.take_zero, List.drop_succ_cons, List.drop_zero]
  repeat still_step
  refine wpStill_nil ?_
  clear b0 b1 h1
  refine store_next HM1.out pv nx HP.out rfl _ _ rfl rfl rfl size21 ?_
  intro w2 hm2 hk2
  have HM2 := Lib.hid hm2
  have HK2 := Lib.hid (HK1.out.trans hk2)
  have HBX2 := Lib.hid ((hk2.block B (Array.getElem?_eq_some_iff.1 HBX.out).1 ⟨fun e => hLB.out.1 e.symm, fun e => hLB.out.2 e.symm⟩).trans HBX.out)
  clear hm2 hk2 HM1 HK1 HBX
  go_wp2_with fail
  -- next.prev
  refine region_tail 10 (by kernel_rfl) (by kernel_rfl) ?_
  intro w3 hw3
  have HM3 : Hid (Mem w3 lo b N M gL gN _ ln) := Lib.hid (by rw [hw3]; exact HM2.out.kept (grown_drewN w2 1 none))
  have HK3 : Hid (Kp gL gN w w3) := Lib.hid (by rw [hw3]; exact HK2.out.trans (Kp.of_new (grown_drewN w2 1 none)))
  have hbx : w3.heap[B]? = some (.cells #[.int .i32 (pv : Int), .int .i32 (nx : Int), .int .i64 (li : Int), .bool true] 69 (0, 0)) := by rw [hw3]; exact HBX2.out
  have HBX := Lib.hid hbx
  have b0 := cell_of_head hbx 0
  have b1 := cell_of_head hbx 1
  simp only [List.getElem?_toArray, List.getElem?_cons_zero, List.getElem?_cons_succ] at b0 b1
  have h1 := HM3.out.links1
  rw [HL.out] at h1
  clear hw3 hbx HM2 HK2 HBX2
  simp only [List.take_succ_cons, List.take_zero, List.drop_succ_cons, List.drop_zero]
  repeat still_step
  refine wpStill_nil ?_
  clear b0 b1 h1
  refine store_prev HM3.out nx pv HN.out rfl _ _ rfl rfl rfl size21 ?_
  intro w4 hm4 hk4
  have HM4 := Lib.hid hm4
  have HK4 := Lib.hid (HK3.out.trans hk4)
  have HBX4 := Lib.hid ((hk4.block B (Array.getElem?_eq_some_iff.1 HBX.out).1 ⟨fun e => hLB.out.1 e.symm, fun e => hLB.out.2 e.symm⟩).trans HBX.out)
  have h1 := HM4.out.links1
  rw [HL.out] at h1
  clear hm4 hk4 HM3 HK3 HBX
  -- the node's own link
  go_wp2_with (refine store_link HM4.out x 0 0 0 false HX.out rfl _ _ rfl rfl rfl size69 ?_)
  intro w5 hm5 hk5
  have HM5 := Lib.hid hm5
  have HK5 := Lib.hid (HK4.out.trans hk5)
  have HBX5 := Lib.hid ((hk5.block B (Array.getElem?_eq_some_iff.1 HBX4.out).1 ⟨fun e => hLB.out.1 e.symm, fun e => hLB.out.2 e.symm⟩).trans HBX4.out)
  clear hm5 hk5 HM4 HK4 HBX4 h1
  go_wp2_with fail
  -- the length
  refine region_tail 10 (by kernel_rfl) (by kernel_rfl) ?_
  intro w6 hw6
  have HM6 : Hid (Mem w6 lo b N M gL gN _ ln) := Lib.hid (by rw [hw6]; exact HM5.out.kept (grown_drewN w5 1 none))
  have HK6 : Hid (Kp gL gN w w6) := Lib.hid (by rw [hw6]; exact HK5.out.trans (Kp.of_new (grown_drewN w5 1 none)))
  have hbx : w6.heap[B]? = some (.cells #[.int .i32 (pv : Int), .int .i32 (nx : Int), .int .i64 (li : Int), .bool true] 69 (0, 0)) := by rw [hw6]; exact HBX5.out
  have b2 := cell_of_head hbx 2
  simp only [List.getElem?_toArray, List.getElem?_cons_zero, List.getElem?_cons_succ] at b2
  have h2 := HM6.out.lens2
  have c3 := HM6.out.lens.cell hlm
  rw [hln] at c3
  clear hw6 hbx HM5 HK5 HBX5
  simp only [List.take_succ_cons, List.take_zero, List.drop_succ_cons, List.drop_zero]
  repeat still_step
  refine wpStill_nil ?_
  clear b2 h2 c3
  refine store_len HM6.out li lm _ ?_ hlm rfl _ _ rfl rfl rfl size3 ?_
  · first | exact hw | (rw [IntKind.wrap_i64]; omega) | omega
  intro w7 hm7 hk7
  have HM7 := Lib.hid hm7
  have HK7 := Lib.hid (HK6.out.trans hk7)
  clear hm7 hk7 HM6 HK6
  go_wp2
  go_ret
  exact ⟨rfl, HM7.out, HK7.out⟩
end
end Go.Proofs.Ytmjccpgkgkindaa
