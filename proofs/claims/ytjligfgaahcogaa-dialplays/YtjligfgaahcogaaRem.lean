/-
  Remove and New of a dial.
-/
import Derived.Test.YtjligfgaahcogaaTurn
namespace Go.Proofs.Ytjligfgaahcogaa
open Go.ChangeShapes Go.WideShapes Go.ChangeAt Go.RowKit
set_option linter.unusedVariables false

/-- the links behind Remove -/
def remLk (lk : Nat → Lk) (x pv nx : Nat) : Nat → Lk :=
  let k1 := put lk pv ⟨(lk pv).p, nx, (lk pv).s⟩
  let k2 := put k1 nx ⟨pv, (k1 nx).n, (k1 nx).s⟩
  put k2 x ⟨0, 0, false⟩
/-- of the first k hands those that were at x are at y -/
def mvAt (hd : Nat → Nat) (x y k : Nat) : Nat → Nat := fun j => if j < k ∧ hd j = x then y else hd j
theorem mvAt_hit {hd : Nat → Nat} {x y k : Nat} (h : hd k = x) : put (mvAt hd x y k) k y = mvAt hd x y (k + 1) := by
  funext j
  unfold put mvAt
  by_cases h1 : j = k
  · subst h1; rw [if_pos rfl, if_pos ⟨by omega, h⟩]
  · rw [if_neg h1]
    by_cases h2 : j < k ∧ hd j = x
    · rw [if_pos h2, if_pos ⟨by omega, h2.2⟩]
    · rw [if_neg h2, if_neg (fun h3 => h2 ⟨by omega, h3.2⟩)]
theorem mvAt_miss {hd : Nat → Nat} {x y k : Nat} (h : hd k ≠ x) : mvAt hd x y k = mvAt hd x y (k + 1) := by
  funext j
  unfold mvAt
  by_cases h2 : j < k ∧ hd j = x
  · rw [if_pos h2, if_pos ⟨by omega, h2.2⟩]
  · rw [if_neg h2, if_neg (fun h3 => h2 ⟨by
      have : j ≠ k := fun e => h (e ▸ h3.2)
      omega, h3.2⟩)]
theorem mvAt_self {hd : Nat → Nat} {x y k : Nat} : mvAt hd x y k k = hd k := by unfold mvAt; rw [if_neg (by omega)]
theorem mvAt_zero {hd : Nat → Nat} {x y : Nat} : mvAt hd x y 0 = hd := by funext j; unfold mvAt; rw [if_neg (by omega)]

section
variable {w : World} {lo b N M gL gH : Nat} {lk : Nat → Lk} {hd : Nat → Nat} {cnt : Nat}
set_option maxHeartbeats 2000000 in
theorem remove_raw (h : Mem w lo b N M gL gH lk hd (cnt + 1)) (x pv nx : Nat) (hx : x < N) (hs : (lk x).s = true) (hpv : (lk x).p = pv) (hnx : (lk x).n = nx) (hp : pv < N) (hn : nx < N) (hc9 : cnt ≤ 65536) :
    Calls Try.prog 18 #[.pointer (some ⟨b, 0, none⟩), .int .i32 (x : Int)] w fun e w' => e = .returned (.bool true) ∧ Mem w' lo b N M gL gH (remLk lk x pv nx) (mvAt hd x nx M) cnt ∧ Kp b gL gH w w' := by
  have h0 := has_at h x (by have := h.n6; constructor <;> omega)
  have e : hasB N lk (x : Int) = true := by unfold hasB; rw [inN_nat hx]; simpa using hs
  rw [e] at h0
  have h1 := h.links0
  have m8 := h.m8
  have x0 := h.links.cell (i := x) (t := 0) (by omega) (by decide)
  have x1 := h.links.cell (i := x) (t := 1) (by omega) (by decide)
  have x2 := h.links.cell (i := x) (t := 2) (by omega) (by decide)
  simp only [Lk.cells, List.getElem?_cons_succ, List.getElem?_cons_zero, Nat.add_zero, hpv, hnx, hs] at x0 x1 x2
  have hw : wrap64 (((cnt + 1 : Nat) : Int) - 1) = (cnt : Int) := by unfold wrap64; omega
  have HM := Lib.hid h
  have H0 := Lib.hid h0
  clear h hpv hnx h0 e hs
  go_enter Try.func18, Try.ntmps18
  go_wp2_with (go_at_call 24; refine H0.out.mono ?_; rintro e w' ⟨rfl, rfl⟩)
  have hbx := heap_alloc_new w (.cells #[.int .i32 (pv : Int), .int .i32 (nx : Int), .bool true] 72)
  have HG := Lib.hid (World.grownBy_alloc w (.cells #[.int .i32 (pv : Int), .int .i32 (nx : Int), .bool true] 72) none)
  have HM0 := Lib.hid (HM.out.kept HG.out)
  have HK0 : Hid (Kp b gL gH w _) := Lib.hid (Kp.of_new HG.out)
  obtain ⟨B, HB⟩ : ∃ B, Hid (w.heap.size = B) := ⟨_, Lib.hid rfl⟩
  have hLB : Hid (B ≠ b ∧ B ≠ gL ∧ B ≠ gH) := Lib.hid (by have := HM.out.hands.lt; have := HM.out.links.lt; have := HM.out.blt; rw [← HB.out]; omega)
  generalize w.alloc (.cells #[.int .i32 (pv : Int), .int .i32 (nx : Int), .bool true] 72) = w0 at *
  rw [HB.out] at hbx ⊢
  clear x0 x1 x2 HM HG H0 h1
  -- prev.next
  refine region_tail 10 (by kernel_rfl) (by kernel_rfl) ?_
  intro w1 hw1
  have HM1 : Hid (Mem w1 lo b N M gL gH lk hd (cnt + 1)) := Lib.hid (by rw [hw1]; exact HM0.out.kept (grown_drewN w0 1 none))
  have HK1 : Hid (Kp b gL gH w w1) := Lib.hid (by rw [hw1]; exact HK0.out.trans (Kp.of_new (grown_drewN w0 1 none)))
  have hbx : w1.heap[B]? = some (.cells #[.int .i32 (pv : Int), .int .i32 (nx : Int), .bool true] 72 (0, 0)) := by rw [hw1]; exact hbx
  have HBX := Lib.hid hbx
  have b0 := cell_of_head hbx 0
  have b1 := cell_of_head hbx 1
  simp only [List.getElem?_toArray, List.getElem?_cons_zero, List.getElem?_cons_succ] at b0 b1
  have h1 := HM1.out.links0
  clear hw1 hbx HM0 HK0
  simp only [List.take_succ_cons, List.take_zero, List.drop_succ_cons, List.drop_zero]
  repeat still_step
  refine wpStill_nil ?_
  clear b0 b1 h1
  refine store_next HM1.out pv nx hp rfl _ _ rfl rfl rfl size21 ?_
  intro w2 hm2 hk2
  have HM2 := Lib.hid hm2
  have HK2 := Lib.hid (HK1.out.trans hk2)
  have HBX2 := Lib.hid ((hk2.block B (Array.getElem?_eq_some_iff.1 HBX.out).1 hLB.out).trans HBX.out)
  clear hm2 hk2 HM1 HK1 HBX
  go_wp2_with fail
  -- next.prev
  refine region_tail 10 (by kernel_rfl) (by kernel_rfl) ?_
  intro w3 hw3
  have HM3 : Hid (Mem w3 lo b N M gL gH _ hd (cnt + 1)) := Lib.hid (by rw [hw3]; exact HM2.out.kept (grown_drewN w2 1 none))
  have HK3 : Hid (Kp b gL gH w w3) := Lib.hid (by rw [hw3]; exact HK2.out.trans (Kp.of_new (grown_drewN w2 1 none)))
  have hbx : w3.heap[B]? = some (.cells #[.int .i32 (pv : Int), .int .i32 (nx : Int), .bool true] 72 (0, 0)) := by rw [hw3]; exact HBX2.out
  have HBX := Lib.hid hbx
  have b0 := cell_of_head hbx 0
  have b1 := cell_of_head hbx 1
  simp only [List.getElem?_toArray, List.getElem?_cons_zero, List.getElem?_cons_succ] at b0 b1
  have h1 := HM3.out.links0
  clear hw3 hbx HM2 HK2 HBX2
  simp only [List.take_succ_cons, List.take_zero, List.drop_succ_cons, List.drop_zero]
  repeat still_step
  refine wpStill_nil ?_
  clear b0 b1 h1
  refine store_prev HM3.out nx pv hn rfl _ _ rfl rfl rfl size21 ?_
  intro w4 hm4 hk4
  have HM4 := Lib.hid hm4
  have HK4 := Lib.hid (HK3.out.trans hk4)
  have HBX4 := Lib.hid ((hk4.block B (Array.getElem?_eq_some_iff.1 HBX.out).1 hLB.out).trans HBX.out)
  have h1 := HM4.out.links0
  clear hm4 hk4 HM3 HK3 HBX
  -- the node's own link
  go_wp2_with (refine store_link HM4.out x 0 0 false hx rfl _ _ rfl rfl rfl size72 ?_)
  intro w5 hm5 hk5
  have HM5 : Hid (Mem w5 lo b N M gL gH (remLk lk x pv nx) hd (cnt + 1)) := Lib.hid hm5
  have HK5 := Lib.hid (HK4.out.trans hk5)
  have HBX5 := Lib.hid ((hk5.block B (Array.getElem?_eq_some_iff.1 HBX4.out).1 hLB.out).trans HBX4.out)
  have h1 := HM5.out.hands1
  clear hm5 hk5 HM4 HK4 HBX4
  go_wp2_with fail
  -- the hands
  go_loopw [51] (fun k wr => ∃ k' : Nat, k' ≤ M ∧ k = .int .i64 (k' : Int) ∧ Hid (Mem wr lo b N M gL gH (remLk lk x pv nx) (mvAt hd x nx k') (cnt + 1)) ∧ Hid (Kp b gL gH w wr) ∧ Hid (wr.heap[B]? = some (.cells #[.int .i32 (pv : Int), .int .i32 (nx : Int), .bool true] 72 (0, 0)))) (fun k _ => M - (intOf k).toNat)
  case atStart => exact ⟨0, by omega, by go_num, Lib.hid (by rw [mvAt_zero]; exact HM5.out), HK5, HBX5⟩
  case round =>
    obtain ⟨k, hk, rfl, HM6, HK6, HBX6⟩ := hrel
    clear HM5 HK5 HBX5 h1
    by_cases hlt : k < M
    · have h1 := HM6.out.hands1
      have c1 := HM6.out.hands.cell hlt
      rw [mvAt_self] at c1
      by_cases he : hd k = x
      · rw [he] at c1
        have HE := Lib.hid (mvAt_hit (y := nx) he)
        clear he
        go_wp2_with fail
        refine region_tail 8 (by kernel_rfl) (by kernel_rfl) ?_
        intro w7 hw7
        have HM7 : Hid (Mem w7 lo b N M gL gH _ _ (cnt + 1)) := Lib.hid (by rw [hw7]; exact HM6.out.kept (grown_drewN wr 1 none))
        have HK7 : Hid (Kp b gL gH w w7) := Lib.hid (by rw [hw7]; exact HK6.out.trans (Kp.of_new (grown_drewN wr 1 none)))
        have hbx : w7.heap[B]? = some (.cells #[.int .i32 (pv : Int), .int .i32 (nx : Int), .bool true] 72 (0, 0)) := by rw [hw7]; exact HBX6.out
        have HBX := Lib.hid hbx
        have b1 := cell_of_head hbx 1
        simp only [List.getElem?_toArray, List.getElem?_cons_zero, List.getElem?_cons_succ] at b1
        have h1 := HM7.out.hands1
        clear hw7 hbx HM6 HK6 HBX6 c1
        simp only [List.take_succ_cons, List.take_zero, List.drop_succ_cons, List.drop_zero]
        repeat still_step
        refine wpStill_nil ?_
        clear b1 h1
        refine store_hand HM7.out k nx hlt rfl _ _ rfl rfl rfl size21 ?_
        intro w8 hm8 hk8
        have HM8 : Hid (Mem w8 lo b N M gL gH (remLk lk x pv nx) (mvAt hd x nx (k + 1)) (cnt + 1)) := Lib.hid (by rw [← HE.out]; exact hm8)
        have HK8 := Lib.hid (HK7.out.trans hk8)
        have HBX8 := Lib.hid ((hk8.block B (Array.getElem?_eq_some_iff.1 HBX.out).1 hLB.out).trans HBX.out)
        clear hm8 hk8 HM7 HK7 HBX
        go_wp2
        go_roundw
        case rel => exact ⟨k + 1, by omega, by go_num, HM8, HK8, HBX8⟩
        case measure => simp [intOf]; omega
      · have hne : ((hd k : Int) == (x : Int)) = false := by simp; omega
        have hne2 : (hd k == x) = false := by simp [he]
        have HE := Lib.hid (mvAt_miss (y := nx) he)
        go_wp2
        go_roundw
        case rel => exact ⟨k + 1, by omega, by go_num, Lib.hid (by rw [← HE.out]; exact HM6.out), HK6, HBX6⟩
        case measure => simp [intOf]; omega
    · obtain rfl : k = M := by omega
      have c2 := HM6.out.count2
      clear HBX6
      go_wp2_with (refine store_count HM6.out cnt _ (by first | exact hw | omega) rfl _ _ rfl rfl rfl size3 ?_)
      intro w9 hm9 hk9
      have HM9 := Lib.hid hm9
      have HK9 := Lib.hid (HK6.out.trans hk9)
      clear hm9 hk9 HM6 HK6
      go_wp2
      go_ret
      exact ⟨rfl, HM9.out, HK9.out⟩
end

/-! ### New -/
theorem info_parts {P : Program} {t : TypeId} {z : Value} {s b : Nat} (h : (P.info? t).map (fun i => (i.zero, i.size, i.bytes)) = some (some z, s, b)) : ∃ i, P.info? t = some i ∧ i.zero = some z ∧ i.size = s ∧ i.bytes = b := by
  obtain ⟨i, hi, hz⟩ := Option.map_eq_some_iff.1 h
  simp only [Prod.mk.injEq] at hz
  exact ⟨i, hi, hz.1, hz.2.1, hz.2.2⟩
theorem info72 : (Try.prog.info? 72).map (fun i => (i.zero, i.size, i.bytes)) = some (some (.agg #[.int .i32 0, .int .i32 0, .bool false]), 3, 12) := by kernel_rfl
theorem info21 : (Try.prog.info? 21).map (fun i => (i.zero, i.size, i.bytes)) = some (some (.int .i32 0), 1, 4) := by kernel_rfl
def zcells : Array Value := #[.int .i32 0, .int .i32 0, .bool false]
theorem make58 (L : Nat) (hL : L ≤ 70000) (w : World) : (Instr.makeSlice 58 (.int .i64 (L : Int)) (.int .i64 (L : Int))).run Try.prog w = .ok (.slice (some ⟨w.heap.size, 0, none⟩) L L) (w.alloc (.cells (madeCells zcells (L * 3)) 72)) := by
  obtain ⟨i, hi, hz, hs, hb⟩ := info_parts info72
  have hr := run_make (P := Try.prog) w 58 72 i _ Try.underlying58 hi hz .i64 .i64 L L (by omega) (Int.le_refl _) (by rw [hb]; omega) (by omega)
  rw [hr, hs, Int.toNat_natCast]; rfl
theorem made_at (L i t : Nat) (hi : i < L) (ht : t < 3) : (madeCells zcells (L * 3))[i * 3 + t]? = zlk.cells[t]? := by
  have h1 : i * 3 + t < L * 3 := by omega
  have h2 : (i * 3 + t) % 3 = t := by omega
  have hs : zcells.size = 3 := rfl
  unfold madeCells
  rw [Array.getElem?_map, hs]
  rw [show (Array.range (L * 3))[i * 3 + t]? = some (i * 3 + t) by simp [h1]]
  simp only [Option.map_some, h2]
  match t, ht with
  | 0, _ => rfl
  | 1, _ => rfl
  | 2, _ => rfl
theorem links_made {w : World} {g L : Nat} (h : w.heap[g]? = some (.cells (madeCells zcells (L * 3)) 72 (0, 0))) : LinksAt w g L (fun _ => zlk) :=
  ⟨_, h, size_madeCells _ _, fun i t hi ht => made_at L i t hi ht⟩
theorem hands_made {w : World} {g M : Nat} (h : w.heap[g]? = some (.cells (madeCells #[.int .i32 0] M) 21 (0, 0))) : HandsAt w g M (fun _ => 0) :=
  ⟨_, h, size_madeCells _ _, fun i hi => by
    have := toList_madeCells_one (Value.int .i32 0) M
    rw [← Array.getElem?_toList, this, List.getElem?_replicate, if_pos hi]; rfl⟩
theorem new_no (n m : Int) (w : World) (h : n < 0 ∨ 65536 < n ∨ m < 1 ∨ 8 < m) :
    Calls Try.prog 7 #[.int .i64 n, .int .i64 m] w fun e w' => e = .returned (.tuple #[.pointer none, .int .i64 1]) ∧ w = w' := by
  by_cases h1 : n < 0
  · have hd1 : decide (n < 0) = true := by simp; omega
    go_enter Try.func7, Try.ntmps7
    go_wp2
    go_ret2
    exact ⟨rfl, rfl⟩
  · have hd1 : decide (n < 0) = false := by simp; omega
    by_cases h2 : 65536 < n
    · have hd2 : decide (65536 < n) = true := by simp; omega
      go_enter Try.func7, Try.ntmps7
      go_wp2
      go_ret2
      exact ⟨rfl, rfl⟩
    · have hd2 : decide (65536 < n) = false := by simp; omega
      by_cases h3 : m < 1
      · have hd3 : decide (m < 1) = true := by simp; omega
        go_enter Try.func7, Try.ntmps7
        go_wp2
        go_ret2
        exact ⟨rfl, rfl⟩
      · have hd3 : decide (m < 1) = false := by simp; omega
        have hd4 : decide (8 < m) = true := by simp; omega
        go_enter Try.func7, Try.ntmps7
        go_wp2
        go_ret2
        exact ⟨rfl, rfl⟩
/-- three new blocks -/
theorem alloc3 (w : World) (o0 o1 o2 : Obj) : w.grownBy (((w.alloc o0).alloc o1).alloc o2) none ∧ (((w.alloc o0).alloc o1).alloc o2).heap.size = w.heap.size + 3 ∧
    (((w.alloc o0).alloc o1).alloc o2).heap[w.heap.size]? = some o0 ∧ (((w.alloc o0).alloc o1).alloc o2).heap[w.heap.size + 1]? = some o1 ∧ (((w.alloc o0).alloc o1).alloc o2).heap[w.heap.size + 2]? = some o2 := by
  have e : (((w.alloc o0).alloc o1).alloc o2).heap.toList = w.heap.toList ++ [o0, o1, o2] := by simp only [World.alloc, Array.toList_push, List.append_assoc, List.cons_append, List.nil_append]
  have g : ∀ (i : Nat) (o : Obj), [o0, o1, o2][i]? = some o → (((w.alloc o0).alloc o1).alloc o2).heap[w.heap.size + i]? = some o := fun i o h => by
    rw [← Array.getElem?_toList, e, List.getElem?_append_right (by rw [Array.length_toList]; omega), Array.length_toList, Nat.add_sub_cancel_left]; exact h
  exact ⟨grown_trans (grown_trans (World.grownBy_alloc _ _ none) (World.grownBy_alloc _ _ none)) (World.grownBy_alloc _ _ none), by simp only [World.size_alloc], g 0 _ rfl, g 1 _ rfl, g 2 _ rfl⟩
set_option maxHeartbeats 1000000 in
theorem new_raw (N M : Nat) (w : World) (hN : N ≤ 65536) (hM1 : 1 ≤ M) (hM8 : M ≤ 8) :
    Calls Try.prog 7 #[.int .i64 (N : Int), .int .i64 (M : Int)] w fun e w' => ∃ gL gH, e = .returned (.tuple #[.pointer (some ⟨w.heap.size + 2, 0, none⟩), .int .i64 0]) ∧ Mem w' w.heap.size (w.heap.size + 2) N M gL gH (fun _ => zlk) (fun _ => 0) 0 ∧ w.grownBy w' none ∧ w'.heap.size = w.heap.size + 3 := by
  have hd1 : decide ((N : Int) < 0) = false := by simp
  have hd2 : decide (65536 < (N : Int)) = false := by simp; omega
  have hd3 : decide ((M : Int) < 1) = false := by simp; omega
  have hd4 : decide (8 < (M : Int)) = false := by simp; omega
  have hmk1 := make58 N (by omega)
  have hmk2 := run_make_row' (P := Try.prog) 29 21 (.int .i32 0) 4 Try.underlying29 info21 rfl .i64 .i64 M (by omega) (by omega)
  go_enter Try.func7, Try.ntmps7
  go_wp2_with fail
  go_region
  · obtain ⟨hg, hz, b0, b1, b2⟩ := alloc3 w (.cells (madeCells zcells (N * 3)) 72) (.cells (madeCells #[.int .i32 0] M) 21) (.cells #[.slice (some ⟨w.heap.size, 0, none⟩) N N, .slice (some ⟨w.heap.size + 1, 0, none⟩) M M, .int .i64 0] 60)
    have hg : w.grownBy (((w.alloc (.cells (madeCells zcells (N * 3)) 72)).alloc (.cells (madeCells #[.int .i32 0] M) 21)).alloc (.cells #[.slice (some ⟨w.heap.size, 0, none⟩) N N, .slice (some ⟨w.heap.size + 1, 0, none⟩) M M, .int .i64 0] 60)).drew none := grown_trans hg (grown_drewN _ 1 none)
    have HM0 : Hid (Mem (((w.alloc (.cells (madeCells zcells (N * 3)) 72)).alloc (.cells (madeCells #[.int .i32 0] M) 21)).alloc (.cells #[.slice (some ⟨w.heap.size, 0, none⟩) N N, .slice (some ⟨w.heap.size + 1, 0, none⟩) M M, .int .i64 0] 60)).drew w.heap.size (w.heap.size + 2) N M (w.heap.size) (w.heap.size + 1) (fun _ => zlk) (fun _ => 0) 0) := Lib.hid ⟨hN, hM1, hM8, by omega, by omega, by omega, b2, links_made (g := w.heap.size) (L := N) b0, hands_made (g := w.heap.size + 1) b1⟩
    have HG0 := Lib.hid hg
    have HZ : Hid ((((w.alloc (.cells (madeCells zcells (N * 3)) 72)).alloc (.cells (madeCells #[.int .i32 0] M) 21)).alloc (.cells #[.slice (some ⟨w.heap.size, 0, none⟩) N N, .slice (some ⟨w.heap.size + 1, 0, none⟩) M M, .int .i64 0] 60)).drew.heap.size = w.heap.size + 3) := Lib.hid hz
    clear hg hz b0 b1 b2 hmk1 hmk2
    generalize (((w.alloc (.cells (madeCells zcells (N * 3)) 72)).alloc (.cells (madeCells #[.int .i32 0] M) 21)).alloc (.cells #[.slice (some ⟨w.heap.size, 0, none⟩) N N, .slice (some ⟨w.heap.size + 1, 0, none⟩) M M, .int .i64 0] 60)).drew = w0 at *
    go_wp2
    go_ret2
    exact ⟨_, _, rfl, HM0.out, HG0.out, HZ.out⟩
  · obtain ⟨hg, hz, b0, b1, b2⟩ := alloc3 w (.cells (madeCells #[.int .i32 0] M) 21) (.cells (madeCells zcells (N * 3)) 72) (.cells #[.slice (some ⟨w.heap.size + 1, 0, none⟩) N N, .slice (some ⟨w.heap.size, 0, none⟩) M M, .int .i64 0] 60)
    have hg : w.grownBy (((w.alloc (.cells (madeCells #[.int .i32 0] M) 21)).alloc (.cells (madeCells zcells (N * 3)) 72)).alloc (.cells #[.slice (some ⟨w.heap.size + 1, 0, none⟩) N N, .slice (some ⟨w.heap.size, 0, none⟩) M M, .int .i64 0] 60)).drew none := grown_trans hg (grown_drewN _ 1 none)
    have HM0 : Hid (Mem (((w.alloc (.cells (madeCells #[.int .i32 0] M) 21)).alloc (.cells (madeCells zcells (N * 3)) 72)).alloc (.cells #[.slice (some ⟨w.heap.size + 1, 0, none⟩) N N, .slice (some ⟨w.heap.size, 0, none⟩) M M, .int .i64 0] 60)).drew w.heap.size (w.heap.size + 2) N M (w.heap.size + 1) (w.heap.size) (fun _ => zlk) (fun _ => 0) 0) := Lib.hid ⟨hN, hM1, hM8, by omega, by omega, by omega, b2, links_made (g := w.heap.size + 1) (L := N) b1, hands_made (g := w.heap.size) b0⟩
    have HG0 := Lib.hid hg
    have HZ : Hid ((((w.alloc (.cells (madeCells #[.int .i32 0] M) 21)).alloc (.cells (madeCells zcells (N * 3)) 72)).alloc (.cells #[.slice (some ⟨w.heap.size + 1, 0, none⟩) N N, .slice (some ⟨w.heap.size, 0, none⟩) M M, .int .i64 0] 60)).drew.heap.size = w.heap.size + 3) := Lib.hid hz
    clear hg hz b0 b1 b2 hmk1 hmk2
    generalize (((w.alloc (.cells (madeCells #[.int .i32 0] M) 21)).alloc (.cells (madeCells zcells (N * 3)) 72)).alloc (.cells #[.slice (some ⟨w.heap.size + 1, 0, none⟩) N N, .slice (some ⟨w.heap.size, 0, none⟩) M M, .int .i64 0] 60)).drew = w0 at *
    go_wp2
    go_ret2
    exact ⟨_, _, rfl, HM0.out, HG0.out, HZ.out⟩
end Go.Proofs.Ytjligfgaahcogaa
