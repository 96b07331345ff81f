/-
  The law on sums: its walk.
-/
import Derived.Test.YthgecgehelnadaaDoorAddR
import Derived.Test.YthgecgehelnadaaDoorRAdd
import Derived.Test.YthgecgehelnadaaDoorOfLaw
import Derived.IntWalk
namespace Go.Proofs.YthgecgehelnadaaDoor
open Go.Shelf Go.RowKit Go.Sort
open Go.Lib hiding intOf
set_option linter.unusedVariables false
theorem add0 {x : Int} (h : 0 ≤ x ∧ x < 18446744073709551616) : addf 0 x = x := by unfold addf; rw [IntKind.wrap_u64]; omega
theorem add_sub {x y : Int} (h : 0 ≤ x ∧ x < 18446744073709551616) : subf (addf x y) y = x := by unfold subf addf; rw [IntKind.wrap_u64, IntKind.wrap_u64]; omega
theorem add_comm (x y : Int) : addf x y = addf y x := by unfold addf; rw [Int.add_comm]
theorem add_assoc (x y z : Int) : addf (addf x y) z = addf x (addf y z) := by unfold addf; simp only [IntKind.wrap_u64]; omega
theorem zipz (a : List Int) (h : a.length = 10) (hu : U64s a) : List.zipWith addf zs a = a := by
  refine List.ext_getElem (by simp [zs, h]) fun i h1 h2 => ?_
  rw [List.getElem_zipWith]
  have hz : ∀ i (hi : i < zs.length), zs[i] = 0 := by decide
  rw [hz, add0 (hu _ (List.getElem_mem _))]
theorem zip_sub (a b : List Int) (h : a.length = b.length) (hu : U64s a) : List.zipWith subf (List.zipWith addf a b) b = a := by
  refine List.ext_getElem (by simp [h]) fun i h1 h2 => ?_
  rw [List.getElem_zipWith, List.getElem_zipWith, add_sub (hu _ (List.getElem_mem _))]
theorem zip_comm (a b : List Int) : List.zipWith addf a b = List.zipWith addf b a := by
  rw [List.zipWith_comm]
  congr 1
  funext x y
  exact add_comm _ _
theorem Rws.drew {W : World} {A : Option Addr} {rows : List (List Int)} (h : Rws W A rows) : Rws W.drew A rows := h
theorem rws1 (W : World) (a0 a1 a2 a3 a4 a5 a6 a7 a8 a9 : Int) : Rws (W.alloc (.cells #[.int .u64 a0, .int .u64 a1, .int .u64 a2, .int .u64 a3, .int .u64 a4, .int .u64 a5, .int .u64 a6, .int .u64 a7, .int .u64 a8, .int .u64 a9] 24)) (some ⟨W.heap.size, 0, none⟩) [[a0, a1, a2, a3, a4, a5, a6, a7, a8, a9]] := fun i hi => by
  refine ⟨_, rfl, fun j hj => ?_⟩
  rw [World.cell?_alloc_new]
  have hi' : i = 0 := by simp at hi; omega
  subst hi'
  have hj' : j < 10 := by simpa using hj
  rcases (show j = 0 ∨ j = 1 ∨ j = 2 ∨ j = 3 ∨ j = 4 ∨ j = 5 ∨ j = 6 ∨ j = 7 ∨ j = 8 ∨ j = 9 by omega) with rfl | rfl | rfl | rfl | rfl | rfl | rfl | rfl | rfl | rfl <;> rfl
theorem rws2 (W : World) (a0 a1 a2 a3 a4 a5 a6 a7 a8 a9 b0 b1 b2 b3 b4 b5 b6 b7 b8 b9 : Int) : Rws (W.alloc (.cells #[.int .u64 a0, .int .u64 a1, .int .u64 a2, .int .u64 a3, .int .u64 a4, .int .u64 a5, .int .u64 a6, .int .u64 a7, .int .u64 a8, .int .u64 a9, .int .u64 b0, .int .u64 b1, .int .u64 b2, .int .u64 b3, .int .u64 b4, .int .u64 b5, .int .u64 b6, .int .u64 b7, .int .u64 b8, .int .u64 b9] 24)) (some ⟨W.heap.size, 0, none⟩) [[a0, a1, a2, a3, a4, a5, a6, a7, a8, a9], [b0, b1, b2, b3, b4, b5, b6, b7, b8, b9]] := fun i hi => by
  refine ⟨_, rfl, fun j hj => ?_⟩
  rw [World.cell?_alloc_new]
  rcases (show i = 0 ∨ i = 1 by simp at hi; omega) with rfl | rfl
  all_goals
    have hj' : j < 10 := by simpa using hj
    rcases (show j = 0 ∨ j = 1 ∨ j = 2 ∨ j = 3 ∨ j = 4 ∨ j = 5 ∨ j = 6 ∨ j = 7 ∨ j = 8 ∨ j = 9 by omega) with rfl | rfl | rfl | rfl | rfl | rfl | rfl | rfl | rfl | rfl <;> rfl
theorem rws3 (W : World) (a0 a1 a2 a3 a4 a5 a6 a7 a8 a9 b0 b1 b2 b3 b4 b5 b6 b7 b8 b9 c0 c1 c2 c3 c4 c5 c6 c7 c8 c9 : Int) : Rws (W.alloc (.cells #[.int .u64 a0, .int .u64 a1, .int .u64 a2, .int .u64 a3, .int .u64 a4, .int .u64 a5, .int .u64 a6, .int .u64 a7, .int .u64 a8, .int .u64 a9, .int .u64 b0, .int .u64 b1, .int .u64 b2, .int .u64 b3, .int .u64 b4, .int .u64 b5, .int .u64 b6, .int .u64 b7, .int .u64 b8, .int .u64 b9, .int .u64 c0, .int .u64 c1, .int .u64 c2, .int .u64 c3, .int .u64 c4, .int .u64 c5, .int .u64 c6, .int .u64 c7, .int .u64 c8, .int .u64 c9] 24)) (some ⟨W.heap.size, 0, none⟩) [[a0, a1, a2, a3, a4, a5, a6, a7, a8, a9], [b0, b1, b2, b3, b4, b5, b6, b7, b8, b9], [c0, c1, c2, c3, c4, c5, c6, c7, c8, c9]] := fun i hi => by
  refine ⟨_, rfl, fun j hj => ?_⟩
  rw [World.cell?_alloc_new]
  rcases (show i = 0 ∨ i = 1 ∨ i = 2 by simp at hi; omega) with rfl | rfl | rfl
  all_goals
    have hj' : j < 10 := by simpa using hj
    rcases (show j = 0 ∨ j = 1 ∨ j = 2 ∨ j = 3 ∨ j = 4 ∨ j = 5 ∨ j = 6 ∨ j = 7 ∨ j = 8 ∨ j = 9 by omega) with rfl | rfl | rfl | rfl | rfl | rfl | rfl | rfl | rfl | rfl <;> rfl

set_option maxHeartbeats 2000000 in
set_option maxRecDepth 100000 in
theorem adds_law (a b c : List Int) (ha : a.length = 10) (hb : b.length = 10) (hc : c.length = 10) (ua : U64s a) (ub : U64s b) (uc : U64s c) (w : World) (he : EnvT w) : Calls Tryd.prog 4 #[cv a, cv b, cv c] w fun e w' => e = .returned (.bool true) ∧ Below w.heap.size w w' := by
  -- what the calls tell
  obtain ⟨s, hs⟩ : ∃ s, s = List.zipWith addf a b := ⟨_, rfl⟩
  obtain ⟨t, ht⟩ : ∃ t, t = List.zipWith addf s c := ⟨_, rfl⟩
  have hsl : s.length = 10 := by rw [hs]; simp [ha, hb]
  have htl : t.length = 10 := by rw [ht]; simp [hsl, hc]
  have k1 : addL [a, b] = s := by show List.zipWith addf (List.zipWith addf zs a) b = s; rw [zipz a ha ua, hs]
  have k2 : addL [b, a] = s := by show List.zipWith addf (List.zipWith addf zs b) a = s; rw [zipz b hb ub, zip_comm, hs]
  have k3 : addL [a, b, c] = t := by show List.zipWith addf (List.zipWith addf (List.zipWith addf zs a) b) c = t; rw [zipz a ha ua, ← hs, ht]
  have us : U64s s := by
    rw [hs]
    intro x hx
    obtain ⟨i, hi, rfl⟩ := List.getElem_of_mem hx
    rw [List.getElem_zipWith]
    unfold addf
    rw [IntKind.wrap_u64]
    omega
  have k4 : addL [s, c] = t := by show List.zipWith addf (List.zipWith addf zs s) c = t; rw [zipz s hsl us, ht]
  have k5 : addL [c] = c := zipz c hc uc
  have k6 : List.zipWith addf a b = s := hs.symm
  have k7 : List.zipWith subf s b = a := by rw [hs]; exact zip_sub a b (by omega) ua
  have k8 : List.zipWith subf s a = b := by rw [hs, zip_comm]; exact zip_sub b a (by omega) ub
  obtain ⟨a0, a1, a2, a3, a4, a5, a6, a7, a8, a9, rfl⟩ := ten_list a ha
  obtain ⟨b0, b1, b2, b3, b4, b5, b6, b7, b8, b9, rfl⟩ := ten_list b hb
  obtain ⟨c0, c1, c2, c3, c4, c5, c6, c7, c8, c9, rfl⟩ := ten_list c hc
  clear hs ht
  obtain ⟨s0, s1, s2, s3, s4, s5, s6, s7, s8, s9, rfl⟩ := ten_list s hsl
  obtain ⟨t0, t1, t2, t3, t4, t5, t6, t7, t8, t9, rfl⟩ := ten_list t htl
  have l2 : ∀ (x y : List Int), x.length = 10 → y.length = 10 → ∀ r ∈ [x, y], r.length = 10 := fun x y h1 h2 r hr => by
    simp only [List.mem_cons, List.not_mem_nil, or_false] at hr
    rcases hr with rfl | rfl <;> assumption
  have l3 : ∀ r ∈ [[a0, a1, a2, a3, a4, a5, a6, a7, a8, a9], [b0, b1, b2, b3, b4, b5, b6, b7, b8, b9], [c0, c1, c2, c3, c4, c5, c6, c7, c8, c9]], r.length = 10 := by intro r hr; simp only [List.mem_cons, List.not_mem_nil, or_false] at hr; rcases hr with rfl | rfl | rfl <;> rfl
  have K15ab : Hid (∀ (V : World) (g : Nat), Rws V (some ⟨g, 0, none⟩) [[a0, a1, a2, a3, a4, a5, a6, a7, a8, a9], [b0, b1, b2, b3, b4, b5, b6, b7, b8, b9]] → Calls Tryd.prog 15 #[.slice (some ⟨g, 0, none⟩) 2 2] V fun e w' => e = .returned (.agg #[.int .u64 s0, .int .u64 s1, .int .u64 s2, .int .u64 s3, .int .u64 s4, .int .u64 s5, .int .u64 s6, .int .u64 s7, .int .u64 s8, .int .u64 s9]) ∧ Below V.heap.size V w') := Lib.hid (fun V g h =>
    (add_at _ _ 2 2 rfl (l2 _ _ rfl rfl) (by omega) V h).mono fun e w' ⟨h1, h2⟩ => ⟨by rw [h1, k1]; rfl, h2⟩)
  have K15ba : Hid (∀ (V : World) (g : Nat), Rws V (some ⟨g, 0, none⟩) [[b0, b1, b2, b3, b4, b5, b6, b7, b8, b9], [a0, a1, a2, a3, a4, a5, a6, a7, a8, a9]] → Calls Tryd.prog 15 #[.slice (some ⟨g, 0, none⟩) 2 2] V fun e w' => e = .returned (.agg #[.int .u64 s0, .int .u64 s1, .int .u64 s2, .int .u64 s3, .int .u64 s4, .int .u64 s5, .int .u64 s6, .int .u64 s7, .int .u64 s8, .int .u64 s9]) ∧ Below V.heap.size V w') := Lib.hid (fun V g h =>
    (add_at _ _ 2 2 rfl (l2 _ _ rfl rfl) (by omega) V h).mono fun e w' ⟨h1, h2⟩ => ⟨by rw [h1, k2]; rfl, h2⟩)
  have K15sc : Hid (∀ (V : World) (g : Nat), Rws V (some ⟨g, 0, none⟩) [[s0, s1, s2, s3, s4, s5, s6, s7, s8, s9], [c0, c1, c2, c3, c4, c5, c6, c7, c8, c9]] → Calls Tryd.prog 15 #[.slice (some ⟨g, 0, none⟩) 2 2] V fun e w' => e = .returned (.agg #[.int .u64 t0, .int .u64 t1, .int .u64 t2, .int .u64 t3, .int .u64 t4, .int .u64 t5, .int .u64 t6, .int .u64 t7, .int .u64 t8, .int .u64 t9]) ∧ Below V.heap.size V w') := Lib.hid (fun V g h =>
    (add_at _ _ 2 2 rfl (l2 _ _ rfl rfl) (by omega) V h).mono fun e w' ⟨h1, h2⟩ => ⟨by rw [h1, k4]; rfl, h2⟩)
  have K15abc : Hid (∀ (V : World) (g : Nat), Rws V (some ⟨g, 0, none⟩) [[a0, a1, a2, a3, a4, a5, a6, a7, a8, a9], [b0, b1, b2, b3, b4, b5, b6, b7, b8, b9], [c0, c1, c2, c3, c4, c5, c6, c7, c8, c9]] → Calls Tryd.prog 15 #[.slice (some ⟨g, 0, none⟩) 3 3] V fun e w' => e = .returned (.agg #[.int .u64 t0, .int .u64 t1, .int .u64 t2, .int .u64 t3, .int .u64 t4, .int .u64 t5, .int .u64 t6, .int .u64 t7, .int .u64 t8, .int .u64 t9]) ∧ Below V.heap.size V w') := Lib.hid (fun V g h =>
    (add_at _ _ 3 3 rfl (by intro r hr; simp only [List.mem_cons, List.not_mem_nil, or_false] at hr; rcases hr with rfl | rfl | rfl <;> rfl) (by omega) V h).mono fun e w' ⟨h1, h2⟩ => ⟨by rw [h1, k3]; rfl, h2⟩)
  have K15c : Hid (∀ (V : World) (g : Nat), Rws V (some ⟨g, 0, none⟩) [[c0, c1, c2, c3, c4, c5, c6, c7, c8, c9]] → Calls Tryd.prog 15 #[.slice (some ⟨g, 0, none⟩) 1 1] V fun e w' => e = .returned (.agg #[.int .u64 c0, .int .u64 c1, .int .u64 c2, .int .u64 c3, .int .u64 c4, .int .u64 c5, .int .u64 c6, .int .u64 c7, .int .u64 c8, .int .u64 c9]) ∧ Below V.heap.size V w') := Lib.hid (fun V g h =>
    (add_at _ _ 1 1 rfl (by intro r hr; simp only [List.mem_cons, List.not_mem_nil, or_false] at hr; rw [hr]; rfl) (by omega) V h).mono fun e w' ⟨h1, h2⟩ => ⟨by rw [h1, k5]; rfl, h2⟩)
  have K15n : Hid (∀ V : World, Calls Tryd.prog 15 #[.slice none 0 0] V fun e w' => e = .returned (.agg #[.int .u64 0, .int .u64 0, .int .u64 0, .int .u64 0, .int .u64 0, .int .u64 0, .int .u64 0, .int .u64 0, .int .u64 0, .int .u64 0]) ∧ Below V.heap.size V w') := Lib.hid (fun V =>
    (add_at [] none 0 0 rfl (by simp) (by omega) V (fun i hi => by cases hi)).mono fun e w' ⟨h1, h2⟩ => ⟨by rw [h1]; rfl, h2⟩)
  have K16 : Hid (∀ V : World, Calls Tryd.prog 16 #[.agg #[.int .u64 a0, .int .u64 a1, .int .u64 a2, .int .u64 a3, .int .u64 a4, .int .u64 a5, .int .u64 a6, .int .u64 a7, .int .u64 a8, .int .u64 a9], .agg #[.int .u64 b0, .int .u64 b1, .int .u64 b2, .int .u64 b3, .int .u64 b4, .int .u64 b5, .int .u64 b6, .int .u64 b7, .int .u64 b8, .int .u64 b9]] V fun e w' => e = .returned (.agg #[.int .u64 s0, .int .u64 s1, .int .u64 s2, .int .u64 s3, .int .u64 s4, .int .u64 s5, .int .u64 s6, .int .u64 s7, .int .u64 s8, .int .u64 s9]) ∧ Below V.heap.size V w') := Lib.hid (fun V =>
    (radd_at [a0, a1, a2, a3, a4, a5, a6, a7, a8, a9] [b0, b1, b2, b3, b4, b5, b6, b7, b8, b9] rfl rfl V).mono fun e w' ⟨h1, h2⟩ => ⟨by rw [h1, k6]; rfl, h2⟩)
  have K17b : Hid (∀ V : World, Calls Tryd.prog 17 #[.agg #[.int .u64 s0, .int .u64 s1, .int .u64 s2, .int .u64 s3, .int .u64 s4, .int .u64 s5, .int .u64 s6, .int .u64 s7, .int .u64 s8, .int .u64 s9], .agg #[.int .u64 b0, .int .u64 b1, .int .u64 b2, .int .u64 b3, .int .u64 b4, .int .u64 b5, .int .u64 b6, .int .u64 b7, .int .u64 b8, .int .u64 b9]] V fun e w' => e = .returned (.agg #[.int .u64 a0, .int .u64 a1, .int .u64 a2, .int .u64 a3, .int .u64 a4, .int .u64 a5, .int .u64 a6, .int .u64 a7, .int .u64 a8, .int .u64 a9]) ∧ Below V.heap.size V w') := Lib.hid (fun V =>
    (since_at [s0, s1, s2, s3, s4, s5, s6, s7, s8, s9] [b0, b1, b2, b3, b4, b5, b6, b7, b8, b9] rfl rfl V).mono fun e w' ⟨h1, h2⟩ => ⟨by rw [h1, k7]; rfl, h2⟩)
  have K17a : Hid (∀ V : World, Calls Tryd.prog 17 #[.agg #[.int .u64 s0, .int .u64 s1, .int .u64 s2, .int .u64 s3, .int .u64 s4, .int .u64 s5, .int .u64 s6, .int .u64 s7, .int .u64 s8, .int .u64 s9], .agg #[.int .u64 a0, .int .u64 a1, .int .u64 a2, .int .u64 a3, .int .u64 a4, .int .u64 a5, .int .u64 a6, .int .u64 a7, .int .u64 a8, .int .u64 a9]] V fun e w' => e = .returned (.agg #[.int .u64 b0, .int .u64 b1, .int .u64 b2, .int .u64 b3, .int .u64 b4, .int .u64 b5, .int .u64 b6, .int .u64 b7, .int .u64 b8, .int .u64 b9]) ∧ Below V.heap.size V w') := Lib.hid (fun V =>
    (since_at [s0, s1, s2, s3, s4, s5, s6, s7, s8, s9] [a0, a1, a2, a3, a4, a5, a6, a7, a8, a9] rfl rfl V).mono fun e w' ⟨h1, h2⟩ => ⟨by rw [h1, k8]; rfl, h2⟩)
  have HE := Lib.hid he
  clear k1 k2 k3 k4 k5 k6 k7 k8 ua ub uc us ha hb hc hsl htl he
  -- the three boxes
  have hA := row_alloc w [a0, a1, a2, a3, a4, a5, a6, a7, a8, a9]
  have bw1 := (Below.refl w.heap.size w).alloc (Nat.le_refl _) (.cells (ca [a0, a1, a2, a3, a4, a5, a6, a7, a8, a9]) 24)
  have bw2 := (Below.refl (w.alloc (.cells (ca [a0, a1, a2, a3, a4, a5, a6, a7, a8, a9]) 24)).heap.size (w.alloc (.cells (ca [a0, a1, a2, a3, a4, a5, a6, a7, a8, a9]) 24))).alloc (Nat.le_refl _) (.cells (ca [b0, b1, b2, b3, b4, b5, b6, b7, b8, b9]) 24)
  have hB := row_alloc (w.alloc (.cells (ca [a0, a1, a2, a3, a4, a5, a6, a7, a8, a9]) 24)) [b0, b1, b2, b3, b4, b5, b6, b7, b8, b9]
  have bw3 := (Below.refl ((w.alloc (.cells (ca [a0, a1, a2, a3, a4, a5, a6, a7, a8, a9]) 24)).alloc (.cells (ca [b0, b1, b2, b3, b4, b5, b6, b7, b8, b9]) 24)).heap.size ((w.alloc (.cells (ca [a0, a1, a2, a3, a4, a5, a6, a7, a8, a9]) 24)).alloc (.cells (ca [b0, b1, b2, b3, b4, b5, b6, b7, b8, b9]) 24))).alloc (Nat.le_refl _) (.cells (ca [c0, c1, c2, c3, c4, c5, c6, c7, c8, c9]) 24)
  have hC := row_alloc ((w.alloc (.cells (ca [a0, a1, a2, a3, a4, a5, a6, a7, a8, a9]) 24)).alloc (.cells (ca [b0, b1, b2, b3, b4, b5, b6, b7, b8, b9]) 24)) [c0, c1, c2, c3, c4, c5, c6, c7, c8, c9]
  have hA3 := (hA.kept bw2 hA.lt).kept bw3 (hA.kept bw2 hA.lt).lt
  have hB3 := hB.kept bw3 hB.lt
  have q3 := (bw1.trans (bw2.mono bw1.size)).trans (bw3.mono (bw1.trans (bw2.mono bw1.size)).size)
  obtain ⟨w1, hw1⟩ : ∃ w1, w1 = ((w.alloc (.cells (ca [a0, a1, a2, a3, a4, a5, a6, a7, a8, a9]) 24)).alloc (.cells (ca [b0, b1, b2, b3, b4, b5, b6, b7, b8, b9]) 24)).alloc (.cells (ca [c0, c1, c2, c3, c4, c5, c6, c7, c8, c9]) 24) := ⟨_, rfl⟩
  rw [← hw1] at hA3 hB3 hC q3
  simp only [World.size_alloc] at hB3 hC
  simp only [ca10] at hw1
  have HW := Lib.hid hw1
  have H1 := Lib.hid (And.intro hA3 (And.intro hB3 (And.intro hC q3)))
  have zA := hA3.cells10
  have zB := hB3.cells10
  obtain ⟨x0, x1, x2, x3, x4, x5, x6, x7, x8, x9⟩ := zA
  obtain ⟨y0, y1, y2, y3, y4, y5, y6, y7, y8, y9⟩ := zB
  clear hA bw1 bw2 hB bw3 hC hA3 hB3 q3 hw1
  show Calls Tryd.prog 4 #[.agg (ca _), .agg (ca _), .agg (ca _)] w _
  rw [ca10, ca10, ca10]
  go_enter Tryd.func4, Tryd.ntmps4
  go_wp2_with (first | fail | (rw [← HW.out]))
  refine (K15ab.out _ _ (rws2 w1 a0 a1 a2 a3 a4 a5 a6 a7 a8 a9 b0 b1 b2 b3 b4 b5 b6 b7 b8 b9)).mono ?_
  rintro e w2 ⟨rfl, hg2⟩
  obtain ⟨hA1, hB1, hC1, q1⟩ := H1.out
  have qq := (Below.refl w1.heap.size w1).alloc (Nat.le_refl _) (.cells #[.int .u64 a0, .int .u64 a1, .int .u64 a2, .int .u64 a3, .int .u64 a4, .int .u64 a5, .int .u64 a6, .int .u64 a7, .int .u64 a8, .int .u64 a9, .int .u64 b0, .int .u64 b1, .int .u64 b2, .int .u64 b3, .int .u64 b4, .int .u64 b5, .int .u64 b6, .int .u64 b7, .int .u64 b8, .int .u64 b9] 24)
  have hg2' := qq.trans (hg2.mono qq.size)
  have hA2 := hA1.kept hg2' hA1.lt
  have hB2 := hB1.kept hg2' hB1.lt
  have hC2 := hC1.kept hg2' hC1.lt
  have q2 := q1.trans (hg2'.mono q1.size)
  have qs := (Below.refl w2.heap.size w2).alloc (Nat.le_refl _) (.cells (ca [s0, s1, s2, s3, s4, s5, s6, s7, s8, s9]) 24)
  have hA3 := hA2.kept qs hA2.lt
  have hB3 := hB2.kept qs hB2.lt
  have hC3 := hC2.kept qs hC2.lt
  have hS3 := row_alloc w2 [s0, s1, s2, s3, s4, s5, s6, s7, s8, s9]
  have q3 := q2.trans (qs.mono q2.size)
  obtain ⟨w3, hw3⟩ : ∃ w3, w3 = w2.alloc (.cells (ca [s0, s1, s2, s3, s4, s5, s6, s7, s8, s9]) 24) := ⟨_, rfl⟩
  obtain ⟨q, hq⟩ : ∃ q, q = w2.heap.size := ⟨_, rfl⟩
  rw [← hw3] at hA3 hB3 hC3 hS3 q3
  rw [← hq] at hS3
  have hE3 := HE.out.kept q3
  have H3 := Lib.hid (And.intro hA3 (And.intro hB3 (And.intro hC3 (And.intro hS3 (And.intro q3 hE3)))))
  have HW3 := Lib.hid (And.intro hw3 hq)
  have ZS : Hid (∀ V : World, Below w3.heap.size w3 V → V.cell? ⟨w.heap.size, 0, none⟩ = some (.int .u64 a0) ∧ V.cell? ⟨w.heap.size, 1, none⟩ = some (.int .u64 a1) ∧ V.cell? ⟨w.heap.size, 2, none⟩ = some (.int .u64 a2) ∧ V.cell? ⟨w.heap.size, 3, none⟩ = some (.int .u64 a3) ∧ V.cell? ⟨w.heap.size, 4, none⟩ = some (.int .u64 a4) ∧ V.cell? ⟨w.heap.size, 5, none⟩ = some (.int .u64 a5) ∧ V.cell? ⟨w.heap.size, 6, none⟩ = some (.int .u64 a6) ∧ V.cell? ⟨w.heap.size, 7, none⟩ = some (.int .u64 a7) ∧ V.cell? ⟨w.heap.size, 8, none⟩ = some (.int .u64 a8) ∧ V.cell? ⟨w.heap.size, 9, none⟩ = some (.int .u64 a9) ∧ V.cell? ⟨(w.heap.size + 1), 0, none⟩ = some (.int .u64 b0) ∧ V.cell? ⟨(w.heap.size + 1), 1, none⟩ = some (.int .u64 b1) ∧ V.cell? ⟨(w.heap.size + 1), 2, none⟩ = some (.int .u64 b2) ∧ V.cell? ⟨(w.heap.size + 1), 3, none⟩ = some (.int .u64 b3) ∧ V.cell? ⟨(w.heap.size + 1), 4, none⟩ = some (.int .u64 b4) ∧ V.cell? ⟨(w.heap.size + 1), 5, none⟩ = some (.int .u64 b5) ∧ V.cell? ⟨(w.heap.size + 1), 6, none⟩ = some (.int .u64 b6) ∧ V.cell? ⟨(w.heap.size + 1), 7, none⟩ = some (.int .u64 b7) ∧ V.cell? ⟨(w.heap.size + 1), 8, none⟩ = some (.int .u64 b8) ∧ V.cell? ⟨(w.heap.size + 1), 9, none⟩ = some (.int .u64 b9) ∧ V.cell? ⟨(w.heap.size + 1 + 1), 0, none⟩ = some (.int .u64 c0) ∧ V.cell? ⟨(w.heap.size + 1 + 1), 1, none⟩ = some (.int .u64 c1) ∧ V.cell? ⟨(w.heap.size + 1 + 1), 2, none⟩ = some (.int .u64 c2) ∧ V.cell? ⟨(w.heap.size + 1 + 1), 3, none⟩ = some (.int .u64 c3) ∧ V.cell? ⟨(w.heap.size + 1 + 1), 4, none⟩ = some (.int .u64 c4) ∧ V.cell? ⟨(w.heap.size + 1 + 1), 5, none⟩ = some (.int .u64 c5) ∧ V.cell? ⟨(w.heap.size + 1 + 1), 6, none⟩ = some (.int .u64 c6) ∧ V.cell? ⟨(w.heap.size + 1 + 1), 7, none⟩ = some (.int .u64 c7) ∧ V.cell? ⟨(w.heap.size + 1 + 1), 8, none⟩ = some (.int .u64 c8) ∧ V.cell? ⟨(w.heap.size + 1 + 1), 9, none⟩ = some (.int .u64 c9) ∧ V.cell? ⟨q, 0, none⟩ = some (.int .u64 s0) ∧ V.cell? ⟨q, 1, none⟩ = some (.int .u64 s1) ∧ V.cell? ⟨q, 2, none⟩ = some (.int .u64 s2) ∧ V.cell? ⟨q, 3, none⟩ = some (.int .u64 s3) ∧ V.cell? ⟨q, 4, none⟩ = some (.int .u64 s4) ∧ V.cell? ⟨q, 5, none⟩ = some (.int .u64 s5) ∧ V.cell? ⟨q, 6, none⟩ = some (.int .u64 s6) ∧ V.cell? ⟨q, 7, none⟩ = some (.int .u64 s7) ∧ V.cell? ⟨q, 8, none⟩ = some (.int .u64 s8) ∧ V.cell? ⟨q, 9, none⟩ = some (.int .u64 s9)) := Lib.hid (fun V hV => by
    obtain ⟨x0, x1, x2, x3, x4, x5, x6, x7, x8, x9⟩ := (H3.out.1.kept hV H3.out.1.lt).cells10
    obtain ⟨y0, y1, y2, y3, y4, y5, y6, y7, y8, y9⟩ := (H3.out.2.1.kept hV H3.out.2.1.lt).cells10
    obtain ⟨m0, m1, m2, m3, m4, m5, m6, m7, m8, m9⟩ := (H3.out.2.2.1.kept hV H3.out.2.2.1.lt).cells10
    obtain ⟨n0, n1, n2, n3, n4, n5, n6, n7, n8, n9⟩ := (H3.out.2.2.2.1.kept hV H3.out.2.2.2.1.lt).cells10
    exact ⟨x0, x1, x2, x3, x4, x5, x6, x7, x8, x9, y0, y1, y2, y3, y4, y5, y6, y7, y8, y9, m0, m1, m2, m3, m4, m5, m6, m7, m8, m9, n0, n1, n2, n3, n4, n5, n6, n7, n8, n9⟩)
  have J15ba : Hid (∀ V : World, Below w3.heap.size w3 V → Calls Tryd.prog 15 #[.slice (some ⟨V.heap.size, 0, none⟩) 2 2] (V.alloc (.cells #[.int .u64 b0, .int .u64 b1, .int .u64 b2, .int .u64 b3, .int .u64 b4, .int .u64 b5, .int .u64 b6, .int .u64 b7, .int .u64 b8, .int .u64 b9, .int .u64 a0, .int .u64 a1, .int .u64 a2, .int .u64 a3, .int .u64 a4, .int .u64 a5, .int .u64 a6, .int .u64 a7, .int .u64 a8, .int .u64 a9] 24)) fun e w' => e = .returned (.agg #[.int .u64 s0, .int .u64 s1, .int .u64 s2, .int .u64 s3, .int .u64 s4, .int .u64 s5, .int .u64 s6, .int .u64 s7, .int .u64 s8, .int .u64 s9]) ∧ Below w3.heap.size w3 w') := Lib.hid (fun V hV =>
    (K15ba.out _ _ (rws2 V b0 b1 b2 b3 b4 b5 b6 b7 b8 b9 a0 a1 a2 a3 a4 a5 a6 a7 a8 a9)).mono fun e w' ⟨h1, h2⟩ => ⟨h1, (hV.alloc hV.size _).trans (h2.mono (hV.alloc hV.size _).size)⟩)
  have J16 : Hid (∀ V : World, Below w3.heap.size w3 V → Calls Tryd.prog 16 #[.agg #[.int .u64 a0, .int .u64 a1, .int .u64 a2, .int .u64 a3, .int .u64 a4, .int .u64 a5, .int .u64 a6, .int .u64 a7, .int .u64 a8, .int .u64 a9], .agg #[.int .u64 b0, .int .u64 b1, .int .u64 b2, .int .u64 b3, .int .u64 b4, .int .u64 b5, .int .u64 b6, .int .u64 b7, .int .u64 b8, .int .u64 b9]] V fun e w' => e = .returned (.agg #[.int .u64 s0, .int .u64 s1, .int .u64 s2, .int .u64 s3, .int .u64 s4, .int .u64 s5, .int .u64 s6, .int .u64 s7, .int .u64 s8, .int .u64 s9]) ∧ Below w3.heap.size w3 w') := Lib.hid (fun V hV => (K16.out V).mono fun e w' ⟨h1, h2⟩ => ⟨h1, hV.trans (h2.mono hV.size)⟩)
  have J17b : Hid (∀ V : World, Below w3.heap.size w3 V → Calls Tryd.prog 17 #[.agg #[.int .u64 s0, .int .u64 s1, .int .u64 s2, .int .u64 s3, .int .u64 s4, .int .u64 s5, .int .u64 s6, .int .u64 s7, .int .u64 s8, .int .u64 s9], .agg #[.int .u64 b0, .int .u64 b1, .int .u64 b2, .int .u64 b3, .int .u64 b4, .int .u64 b5, .int .u64 b6, .int .u64 b7, .int .u64 b8, .int .u64 b9]] V fun e w' => e = .returned (.agg #[.int .u64 a0, .int .u64 a1, .int .u64 a2, .int .u64 a3, .int .u64 a4, .int .u64 a5, .int .u64 a6, .int .u64 a7, .int .u64 a8, .int .u64 a9]) ∧ Below w3.heap.size w3 w') := Lib.hid (fun V hV => (K17b.out V).mono fun e w' ⟨h1, h2⟩ => ⟨h1, hV.trans (h2.mono hV.size)⟩)
  have J17a : Hid (∀ V : World, Below w3.heap.size w3 V → Calls Tryd.prog 17 #[.agg #[.int .u64 s0, .int .u64 s1, .int .u64 s2, .int .u64 s3, .int .u64 s4, .int .u64 s5, .int .u64 s6, .int .u64 s7, .int .u64 s8, .int .u64 s9], .agg #[.int .u64 a0, .int .u64 a1, .int .u64 a2, .int .u64 a3, .int .u64 a4, .int .u64 a5, .int .u64 a6, .int .u64 a7, .int .u64 a8, .int .u64 a9]] V fun e w' => e = .returned (.agg #[.int .u64 b0, .int .u64 b1, .int .u64 b2, .int .u64 b3, .int .u64 b4, .int .u64 b5, .int .u64 b6, .int .u64 b7, .int .u64 b8, .int .u64 b9]) ∧ Below w3.heap.size w3 w') := Lib.hid (fun V hV => (K17a.out V).mono fun e w' ⟨h1, h2⟩ => ⟨h1, hV.trans (h2.mono hV.size)⟩)
  clear x0 x1 x2 x3 x4 x5 x6 x7 x8 x9 y0 y1 y2 y3 y4 y5 y6 y7 y8 y9 hA1 hB1 hC1 q1 qq hg2 hg2' hA2 hB2 hC2 q2 qs hA3 hB3 hC3 hS3 q3 hw3 hq hE3 H1 HW K15ab K15ba K16 K17a K17b
  go_wp2_with (first | fail | (refine st24n rfl (.tmp 7) (.tmp 11) rfl [s0, s1, s2, s3, s4, s5, s6, s7, s8, s9] rfl rfl rfl _ rfl ?_; rw [← HW3.out.1, ← HW3.out.2]))
  have z := ZS.out _ (Below.refl _ w3)
  go_region_held3 (fun w' => w'.cell? ⟨w.heap.size, 0, none⟩ = some (.int .u64 a0) ∧ w'.cell? ⟨w.heap.size, 1, none⟩ = some (.int .u64 a1) ∧ w'.cell? ⟨w.heap.size, 2, none⟩ = some (.int .u64 a2) ∧ w'.cell? ⟨w.heap.size, 3, none⟩ = some (.int .u64 a3) ∧ w'.cell? ⟨w.heap.size, 4, none⟩ = some (.int .u64 a4) ∧ w'.cell? ⟨w.heap.size, 5, none⟩ = some (.int .u64 a5) ∧ w'.cell? ⟨w.heap.size, 6, none⟩ = some (.int .u64 a6) ∧ w'.cell? ⟨w.heap.size, 7, none⟩ = some (.int .u64 a7) ∧ w'.cell? ⟨w.heap.size, 8, none⟩ = some (.int .u64 a8) ∧ w'.cell? ⟨w.heap.size, 9, none⟩ = some (.int .u64 a9) ∧ w'.cell? ⟨(w.heap.size + 1), 0, none⟩ = some (.int .u64 b0) ∧ w'.cell? ⟨(w.heap.size + 1), 1, none⟩ = some (.int .u64 b1) ∧ w'.cell? ⟨(w.heap.size + 1), 2, none⟩ = some (.int .u64 b2) ∧ w'.cell? ⟨(w.heap.size + 1), 3, none⟩ = some (.int .u64 b3) ∧ w'.cell? ⟨(w.heap.size + 1), 4, none⟩ = some (.int .u64 b4) ∧ w'.cell? ⟨(w.heap.size + 1), 5, none⟩ = some (.int .u64 b5) ∧ w'.cell? ⟨(w.heap.size + 1), 6, none⟩ = some (.int .u64 b6) ∧ w'.cell? ⟨(w.heap.size + 1), 7, none⟩ = some (.int .u64 b7) ∧ w'.cell? ⟨(w.heap.size + 1), 8, none⟩ = some (.int .u64 b8) ∧ w'.cell? ⟨(w.heap.size + 1), 9, none⟩ = some (.int .u64 b9) ∧ w'.cell? ⟨(w.heap.size + 1 + 1), 0, none⟩ = some (.int .u64 c0) ∧ w'.cell? ⟨(w.heap.size + 1 + 1), 1, none⟩ = some (.int .u64 c1) ∧ w'.cell? ⟨(w.heap.size + 1 + 1), 2, none⟩ = some (.int .u64 c2) ∧ w'.cell? ⟨(w.heap.size + 1 + 1), 3, none⟩ = some (.int .u64 c3) ∧ w'.cell? ⟨(w.heap.size + 1 + 1), 4, none⟩ = some (.int .u64 c4) ∧ w'.cell? ⟨(w.heap.size + 1 + 1), 5, none⟩ = some (.int .u64 c5) ∧ w'.cell? ⟨(w.heap.size + 1 + 1), 6, none⟩ = some (.int .u64 c6) ∧ w'.cell? ⟨(w.heap.size + 1 + 1), 7, none⟩ = some (.int .u64 c7) ∧ w'.cell? ⟨(w.heap.size + 1 + 1), 8, none⟩ = some (.int .u64 c8) ∧ w'.cell? ⟨(w.heap.size + 1 + 1), 9, none⟩ = some (.int .u64 c9) ∧ w'.cell? ⟨q, 0, none⟩ = some (.int .u64 s0) ∧ w'.cell? ⟨q, 1, none⟩ = some (.int .u64 s1) ∧ w'.cell? ⟨q, 2, none⟩ = some (.int .u64 s2) ∧ w'.cell? ⟨q, 3, none⟩ = some (.int .u64 s3) ∧ w'.cell? ⟨q, 4, none⟩ = some (.int .u64 s4) ∧ w'.cell? ⟨q, 5, none⟩ = some (.int .u64 s5) ∧ w'.cell? ⟨q, 6, none⟩ = some (.int .u64 s6) ∧ w'.cell? ⟨q, 7, none⟩ = some (.int .u64 s7) ∧ w'.cell? ⟨q, 8, none⟩ = some (.int .u64 s8) ∧ w'.cell? ⟨q, 9, none⟩ = some (.int .u64 s9)) (first | exact z | exact ZS.out _ hgl | exact ZS.out _ (hgl.alloc hgl.size _) | go_keep)
    (first | (go_at_call 16; with_reducible refine (J16.out _ ?pre).mono ?_; (case pre => first | exact hgl | exact hgl.alloc hgl.size _ | exact (Below.refl _ _).drew); rintro e wl ⟨rfl, hgl⟩) | (go_at_call 17; first | (with_reducible refine (J17b.out _ ?pre).mono ?_; (case pre => first | exact hgl | exact hgl.alloc hgl.size _ | exact (Below.refl _ _).drew); rintro e wl ⟨rfl, hgl⟩) | (with_reducible refine (J17a.out _ ?pre).mono ?_; (case pre => first | exact hgl | exact hgl.alloc hgl.size _ | exact (Below.refl _ _).drew); rintro e wl ⟨rfl, hgl⟩)) | (go_at_call 15; with_reducible refine (J15ba.out _ ?pre).mono ?_; (case pre => first | exact hgl | exact hgl.alloc hgl.size _ | exact (Below.refl _ _).drew); rintro e wl ⟨rfl, hgl⟩))
  obtain ⟨w4, hw4⟩ : ∃ w4, w4 = wl := ⟨_, rfl⟩
  rw [← hw4] at hgl ⊢
  have HG4 := Lib.hid hgl
  have z := ZS.out _ hgl
  clear hgl hw4
  have J15abc : Hid (∀ (V : World) (g : Nat), Rws V (some ⟨g, 0, none⟩) [[a0, a1, a2, a3, a4, a5, a6, a7, a8, a9], [b0, b1, b2, b3, b4, b5, b6, b7, b8, b9], [c0, c1, c2, c3, c4, c5, c6, c7, c8, c9]] → Below w3.heap.size w3 V → Calls Tryd.prog 15 #[.slice (some ⟨g, 0, none⟩) 3 3] V fun e w' => e = .returned (.agg #[.int .u64 t0, .int .u64 t1, .int .u64 t2, .int .u64 t3, .int .u64 t4, .int .u64 t5, .int .u64 t6, .int .u64 t7, .int .u64 t8, .int .u64 t9]) ∧ Below w3.heap.size w3 w' ∧ Below V.heap.size V w') := Lib.hid (fun V g h hV => (K15abc.out V g h).mono fun e w' ⟨h1, h2⟩ => ⟨h1, hV.trans (h2.mono hV.size), h2⟩)
  have J15sc : Hid (∀ (V : World) (g : Nat), Rws V (some ⟨g, 0, none⟩) [[s0, s1, s2, s3, s4, s5, s6, s7, s8, s9], [c0, c1, c2, c3, c4, c5, c6, c7, c8, c9]] → Below w3.heap.size w3 V → Calls Tryd.prog 15 #[.slice (some ⟨g, 0, none⟩) 2 2] V fun e w' => e = .returned (.agg #[.int .u64 t0, .int .u64 t1, .int .u64 t2, .int .u64 t3, .int .u64 t4, .int .u64 t5, .int .u64 t6, .int .u64 t7, .int .u64 t8, .int .u64 t9]) ∧ Below w3.heap.size w3 w') := Lib.hid (fun V g h hV => (K15sc.out V g h).mono fun e w' ⟨h1, h2⟩ => ⟨h1, hV.trans (h2.mono hV.size)⟩)
  have J15c : Hid (∀ (V : World) (g : Nat), Rws V (some ⟨g, 0, none⟩) [[c0, c1, c2, c3, c4, c5, c6, c7, c8, c9]] → Below w3.heap.size w3 V → Calls Tryd.prog 15 #[.slice (some ⟨g, 0, none⟩) 1 1] V fun e w' => e = .returned (.agg #[.int .u64 c0, .int .u64 c1, .int .u64 c2, .int .u64 c3, .int .u64 c4, .int .u64 c5, .int .u64 c6, .int .u64 c7, .int .u64 c8, .int .u64 c9]) ∧ Below w3.heap.size w3 w') := Lib.hid (fun V g h hV => (K15c.out V g h).mono fun e w' ⟨h1, h2⟩ => ⟨h1, hV.trans (h2.mono hV.size)⟩)
  have J15n : Hid (∀ (V : World), Below w3.heap.size w3 V → Calls Tryd.prog 15 #[.slice none 0 0] V fun e w' => e = .returned (.agg #[.int .u64 0, .int .u64 0, .int .u64 0, .int .u64 0, .int .u64 0, .int .u64 0, .int .u64 0, .int .u64 0, .int .u64 0, .int .u64 0]) ∧ Below w3.heap.size w3 w') := Lib.hid (fun V hV => (K15n.out V).mono fun e w' ⟨h1, h2⟩ => ⟨h1, hV.trans (h2.mono hV.size)⟩)
  have J6 : Hid (∀ (V : World), Below w3.heap.size w3 V → Calls Tryd.prog 6 #[] V fun e w' => e = .returned (.bool true) ∧ Below w3.heap.size w3 w') := Lib.hid (fun V hV => (alive_at V (H3.out.2.2.2.2.2.kept hV)).mono fun e w' ⟨h1, h2⟩ => ⟨h1, hV.trans (h2.mono hV.size)⟩)
  clear J15ba J16 J17a J17b K15abc K15sc K15c K15n
  go_wp2_with fail
  have P1 := (rws3 w4 a0 a1 a2 a3 a4 a5 a6 a7 a8 a9 b0 b1 b2 b3 b4 b5 b6 b7 b8 b9 c0 c1 c2 c3 c4 c5 c6 c7 c8 c9).drew
  have P2 := ((rws3 w4 a0 a1 a2 a3 a4 a5 a6 a7 a8 a9 b0 b1 b2 b3 b4 b5 b6 b7 b8 b9 c0 c1 c2 c3 c4 c5 c6 c7 c8 c9).kept l3 ((Below.refl _ _).alloc (Nat.le_refl _) (.cells #[.int .u64 s0, .int .u64 s1, .int .u64 s2, .int .u64 s3, .int .u64 s4, .int .u64 s5, .int .u64 s6, .int .u64 s7, .int .u64 s8, .int .u64 s9, .int .u64 c0, .int .u64 c1, .int .u64 c2, .int .u64 c3, .int .u64 c4, .int .u64 c5, .int .u64 c6, .int .u64 c7, .int .u64 c8, .int .u64 c9] 24))).drew
  have P3 := (rws3 (w4.alloc (.cells #[.int .u64 s0, .int .u64 s1, .int .u64 s2, .int .u64 s3, .int .u64 s4, .int .u64 s5, .int .u64 s6, .int .u64 s7, .int .u64 s8, .int .u64 s9, .int .u64 c0, .int .u64 c1, .int .u64 c2, .int .u64 c3, .int .u64 c4, .int .u64 c5, .int .u64 c6, .int .u64 c7, .int .u64 c8, .int .u64 c9] 24)) a0 a1 a2 a3 a4 a5 a6 a7 a8 a9 b0 b1 b2 b3 b4 b5 b6 b7 b8 b9 c0 c1 c2 c3 c4 c5 c6 c7 c8 c9).drew
  have Q2 := (rws2 (w4.alloc (.cells #[.int .u64 a0, .int .u64 a1, .int .u64 a2, .int .u64 a3, .int .u64 a4, .int .u64 a5, .int .u64 a6, .int .u64 a7, .int .u64 a8, .int .u64 a9, .int .u64 b0, .int .u64 b1, .int .u64 b2, .int .u64 b3, .int .u64 b4, .int .u64 b5, .int .u64 b6, .int .u64 b7, .int .u64 b8, .int .u64 b9, .int .u64 c0, .int .u64 c1, .int .u64 c2, .int .u64 c3, .int .u64 c4, .int .u64 c5, .int .u64 c6, .int .u64 c7, .int .u64 c8, .int .u64 c9] 24)) s0 s1 s2 s3 s4 s5 s6 s7 s8 s9 c0 c1 c2 c3 c4 c5 c6 c7 c8 c9).drew
  have Q3 := ((rws2 w4 s0 s1 s2 s3 s4 s5 s6 s7 s8 s9 c0 c1 c2 c3 c4 c5 c6 c7 c8 c9).kept (l2 _ _ rfl rfl) ((Below.refl _ _).alloc (Nat.le_refl _) (.cells #[.int .u64 a0, .int .u64 a1, .int .u64 a2, .int .u64 a3, .int .u64 a4, .int .u64 a5, .int .u64 a6, .int .u64 a7, .int .u64 a8, .int .u64 a9, .int .u64 b0, .int .u64 b1, .int .u64 b2, .int .u64 b3, .int .u64 b4, .int .u64 b5, .int .u64 b6, .int .u64 b7, .int .u64 b8, .int .u64 b9, .int .u64 c0, .int .u64 c1, .int .u64 c2, .int .u64 c3, .int .u64 c4, .int .u64 c5, .int .u64 c6, .int .u64 c7, .int .u64 c8, .int .u64 c9] 24))).drew
  rw [World.size_alloc] at P3 Q2
  have HP1 := Lib.hid P1
  have HP2 := Lib.hid P2
  have HP3 := Lib.hid P3
  have HQ2 := Lib.hid Q2
  have HQ3 := Lib.hid Q3
  clear P1 P2 P3 Q2 Q3
  go_region_held3 (fun w' => w'.cell? ⟨w.heap.size, 0, none⟩ = some (.int .u64 a0) ∧ w'.cell? ⟨w.heap.size, 1, none⟩ = some (.int .u64 a1) ∧ w'.cell? ⟨w.heap.size, 2, none⟩ = some (.int .u64 a2) ∧ w'.cell? ⟨w.heap.size, 3, none⟩ = some (.int .u64 a3) ∧ w'.cell? ⟨w.heap.size, 4, none⟩ = some (.int .u64 a4) ∧ w'.cell? ⟨w.heap.size, 5, none⟩ = some (.int .u64 a5) ∧ w'.cell? ⟨w.heap.size, 6, none⟩ = some (.int .u64 a6) ∧ w'.cell? ⟨w.heap.size, 7, none⟩ = some (.int .u64 a7) ∧ w'.cell? ⟨w.heap.size, 8, none⟩ = some (.int .u64 a8) ∧ w'.cell? ⟨w.heap.size, 9, none⟩ = some (.int .u64 a9) ∧ w'.cell? ⟨(w.heap.size + 1), 0, none⟩ = some (.int .u64 b0) ∧ w'.cell? ⟨(w.heap.size + 1), 1, none⟩ = some (.int .u64 b1) ∧ w'.cell? ⟨(w.heap.size + 1), 2, none⟩ = some (.int .u64 b2) ∧ w'.cell? ⟨(w.heap.size + 1), 3, none⟩ = some (.int .u64 b3) ∧ w'.cell? ⟨(w.heap.size + 1), 4, none⟩ = some (.int .u64 b4) ∧ w'.cell? ⟨(w.heap.size + 1), 5, none⟩ = some (.int .u64 b5) ∧ w'.cell? ⟨(w.heap.size + 1), 6, none⟩ = some (.int .u64 b6) ∧ w'.cell? ⟨(w.heap.size + 1), 7, none⟩ = some (.int .u64 b7) ∧ w'.cell? ⟨(w.heap.size + 1), 8, none⟩ = some (.int .u64 b8) ∧ w'.cell? ⟨(w.heap.size + 1), 9, none⟩ = some (.int .u64 b9) ∧ w'.cell? ⟨(w.heap.size + 1 + 1), 0, none⟩ = some (.int .u64 c0) ∧ w'.cell? ⟨(w.heap.size + 1 + 1), 1, none⟩ = some (.int .u64 c1) ∧ w'.cell? ⟨(w.heap.size + 1 + 1), 2, none⟩ = some (.int .u64 c2) ∧ w'.cell? ⟨(w.heap.size + 1 + 1), 3, none⟩ = some (.int .u64 c3) ∧ w'.cell? ⟨(w.heap.size + 1 + 1), 4, none⟩ = some (.int .u64 c4) ∧ w'.cell? ⟨(w.heap.size + 1 + 1), 5, none⟩ = some (.int .u64 c5) ∧ w'.cell? ⟨(w.heap.size + 1 + 1), 6, none⟩ = some (.int .u64 c6) ∧ w'.cell? ⟨(w.heap.size + 1 + 1), 7, none⟩ = some (.int .u64 c7) ∧ w'.cell? ⟨(w.heap.size + 1 + 1), 8, none⟩ = some (.int .u64 c8) ∧ w'.cell? ⟨(w.heap.size + 1 + 1), 9, none⟩ = some (.int .u64 c9) ∧ w'.cell? ⟨q, 0, none⟩ = some (.int .u64 s0) ∧ w'.cell? ⟨q, 1, none⟩ = some (.int .u64 s1) ∧ w'.cell? ⟨q, 2, none⟩ = some (.int .u64 s2) ∧ w'.cell? ⟨q, 3, none⟩ = some (.int .u64 s3) ∧ w'.cell? ⟨q, 4, none⟩ = some (.int .u64 s4) ∧ w'.cell? ⟨q, 5, none⟩ = some (.int .u64 s5) ∧ w'.cell? ⟨q, 6, none⟩ = some (.int .u64 s6) ∧ w'.cell? ⟨q, 7, none⟩ = some (.int .u64 s7) ∧ w'.cell? ⟨q, 8, none⟩ = some (.int .u64 s8) ∧ w'.cell? ⟨q, 9, none⟩ = some (.int .u64 s9)) (first | exact z | exact ZS.out _ hgl | exact ZS.out _ (hgl.alloc hgl.size _) | exact ZS.out _ HG4.out.drew | exact ZS.out _ (HG4.out.alloc HG4.out.size _).drew | exact ZS.out _ ((HG4.out.alloc HG4.out.size _).alloc (HG4.out.alloc HG4.out.size _).size _).drew | go_keep)
    (first
    | (go_at_call 15; with_reducible refine (J15abc.out _ _ ?r ?pre).mono ?_; (case r => first | exact HP1.out | exact HP2.out | exact HP3.out); (case pre => first | exact hgl | exact hgl.alloc hgl.size _ | exact HG4.out.drew | exact (HG4.out.alloc HG4.out.size _).drew | exact ((HG4.out.alloc HG4.out.size _).alloc (HG4.out.alloc HG4.out.size _).size _).drew); rintro e wl ⟨rfl, hgl, hgc⟩)
    | (go_at_call 15; with_reducible refine (J15sc.out _ _ ?r ?pre).mono ?_; (case r => first | exact HQ2.out.kept (l2 _ _ rfl rfl) hgc | exact HQ3.out.kept (l2 _ _ rfl rfl) hgc | exact rws2 _ s0 s1 s2 s3 s4 s5 s6 s7 s8 s9 c0 c1 c2 c3 c4 c5 c6 c7 c8 c9); (case pre => first | exact hgl | exact hgl.alloc hgl.size _ | exact HG4.out.drew | exact (HG4.out.alloc HG4.out.size _).drew | exact ((HG4.out.alloc HG4.out.size _).alloc (HG4.out.alloc HG4.out.size _).size _).drew); rintro e wl ⟨rfl, hgl⟩)
    | (go_at_call 15; with_reducible refine (J15c.out _ _ ?r ?pre).mono ?_; (case r => exact rws1 _ c0 c1 c2 c3 c4 c5 c6 c7 c8 c9); (case pre => first | exact hgl | exact hgl.alloc hgl.size _ | exact HG4.out.drew | exact (HG4.out.alloc HG4.out.size _).drew | exact ((HG4.out.alloc HG4.out.size _).alloc (HG4.out.alloc HG4.out.size _).size _).drew); rintro e wl ⟨rfl, hgl⟩)
    | (go_at_call 15; with_reducible refine (J15n.out _ ?pre).mono ?_; (case pre => first | exact hgl | exact hgl.alloc hgl.size _ | exact HG4.out.drew | exact (HG4.out.alloc HG4.out.size _).drew | exact ((HG4.out.alloc HG4.out.size _).alloc (HG4.out.alloc HG4.out.size _).size _).drew); rintro e wl ⟨rfl, hgl⟩)
    | (go_at_call 6; with_reducible refine (J6.out _ ?pre).mono ?_; (case pre => first | exact hgl | exact hgl.alloc hgl.size _ | exact HG4.out.drew | exact (HG4.out.alloc HG4.out.size _).drew | exact ((HG4.out.alloc HG4.out.size _).alloc (HG4.out.alloc HG4.out.size _).size _).drew); rintro e wl ⟨rfl, hgl⟩))
  all_goals go_wp2
  all_goals go_ret
  all_goals exact ⟨rfl, H3.out.2.2.2.2.1.trans (hgl.mono H3.out.2.2.2.2.1.size)⟩
theorem tallyAdds_law (a : List Int) (ha : a.length = 10) (ua : U64s a) (b : List Int) (hb : b.length = 10) (ub : U64s b) (c : List Int) (hc : c.length = 10) (uc : U64s c) (w : World) (he : EnvT w) : Calls Tryd.prog 4 #[cv a, cv b, cv c] w fun e w' => e = .returned (.bool true) ∧ Below w.heap.size w w' := adds_law a b c ha hb hc ua ub uc w he
end Go.Proofs.YthgecgehelnadaaDoor
