/-
  The document's example.
-/
import Derived.Test.YthpcjgfbngemiaaAliveB
import Derived.Laws.BytesArg
import Derived.Laws.StructEq
namespace Go.Proofs.Ythpcjgfbngemiaa
open Go.ChangeShapes Go.WideShapes Go.ChangeAt Go.RowKit
set_option linter.unusedVariables false
set_option maxRecDepth 100000
theorem cv3 (w : World) (x y z : Value) (n c : Nat) : (convert 31 31 (.slice (some ⟨w.heap.size, 0, none⟩) n c)).run Try.prog (w.alloc (.cells #[x, y, z] 5)) = .ok (.slice (some ⟨w.heap.size, 0, none⟩) n c) (w.alloc (.cells #[x, y, z] 5 (3, 4))) :=
  Lib.run_convert_bytes_const w 31 5 #[x, y, z] n c (by kernel_rfl) (by kernel_rfl)
theorem cv4 (w : World) (x y z u : Value) (n c : Nat) : (convert 31 31 (.slice (some ⟨w.heap.size, 0, none⟩) n c)).run Try.prog (w.alloc (.cells #[x, y, z, u] 5)) = .ok (.slice (some ⟨w.heap.size, 0, none⟩) n c) (w.alloc (.cells #[x, y, z, u] 5 (4, 5))) :=
  Lib.run_convert_bytes_const w 31 5 #[x, y, z, u] n c (by kernel_rfl) (by kernel_rfl)
theorem cv6 (w : World) (x y z u v q : Value) (n c : Nat) : (convert 31 31 (.slice (some ⟨w.heap.size, 0, none⟩) n c)).run Try.prog (w.alloc (.cells #[x, y, z, u, v, q] 5)) = .ok (.slice (some ⟨w.heap.size, 0, none⟩) n c) (w.alloc (.cells #[x, y, z, u, v, q] 5 (6, 7))) :=
  Lib.run_convert_bytes_const w 31 5 #[x, y, z, u, v, q] n c (by kernel_rfl) (by kernel_rfl)
set_option maxHeartbeats 1000000 in
theorem alive_at (w : World) : Calls Try.prog 8 #[] w fun e w' => e = .returned (.bool true) ∧ w.grownBy w' none := by
  have k3 := cv3
  have k4 := cv4
  have k6 := cv6
  have HNew := Lib.hid (new_at w 10 (by decide) (by decide))
  obtain ⟨b, HB⟩ : ∃ b, Hid (w.heap.size = b) := ⟨_, Lib.hid rfl⟩
  go_enter Try.func8, Try.ntmps8
  go_wp2_with fail
  refine HNew.out.mono ?_
  unfold NewPost
  rw [HB.out]
  rintro e w1 ⟨rfl, v, hv, hg⟩
  have HX1 : Hid (VAt w1 b b ⟨.slice none 0 0, .slice none 0 0, .slice none 0 0, v⟩ A0) := Lib.hid hv
  have HG1 := Lib.hid hg
  have HLo : Hid (∀ h V W k, VAt W b b h V → own b h k → w.heap.size ≤ k) := Lib.hid fun h V W k hx hk => by rw [HB.out]; exact (hx.own_lo hk).1
  clear hv hg HNew
  generalize (⟨.slice none 0 0, .slice none 0 0, .slice none 0 0, v⟩ : Hd) = h1 at HX1
  go_wp2_with fail
  refine (put1 HX1.out).mono ?_
  rintro e w2 ⟨rfl, h2, hx2, hs2⟩
  have HX2 := Lib.hid hx2
  have HG2 := Lib.hid (hs2.grown (lo := 0) HG1.out (fun k hk => HLo.out _ _ _ k HX1.out hk))
  clear hx2 hs2 HX1 HG1
  go_wp2_with fail
  refine (put2 HX2.out).mono ?_
  rintro e w3 ⟨rfl, h3, hx3, hs3⟩
  have HX3 := Lib.hid hx3
  have HG3 := Lib.hid (hs3.grown (lo := 0) HG2.out (fun k hk => HLo.out _ _ _ k HX2.out hk))
  clear hx3 hs3 HX2 HG2
  go_wp2_with fail
  refine (put3 HX3.out).mono ?_
  rintro e w4 ⟨rfl, h4, hx4, hs4⟩
  have HX4 := Lib.hid hx4
  have HG4 := Lib.hid (hs4.grown (lo := 0) HG3.out (fun k hk => HLo.out _ _ _ k HX3.out hk))
  clear hx4 hs4 HX3 HG3
  go_wp2_with fail
  refine (drop0 HX4.out).mono ?_
  rintro e w5 ⟨rfl, h5, hx5, hs5⟩
  have HX5 := Lib.hid hx5
  have HG5 := Lib.hid (hs5.grown (lo := 0) HG4.out (fun k hk => HLo.out _ _ _ k HX4.out hk))
  clear hx5 hs5 HX4 HG4
  go_wp2_with fail
  refine (drop2 HX5.out).mono ?_
  rintro e w6 ⟨rfl, h6, hx6, hs6⟩
  have HX6 := Lib.hid hx6
  have HG6 := Lib.hid (hs6.grown (lo := 0) HG5.out (fun k hk => HLo.out _ _ _ k HX5.out hk))
  clear hx6 hs6 HX5 HG5
  go_wp2_with fail
  refine (put4 HX6.out).mono ?_
  rintro e w7 ⟨rfl, h7, hx7, hs7⟩
  have HX7 := Lib.hid hx7
  have HG7 := Lib.hid (hs7.grown (lo := 0) HG6.out (fun k hk => HLo.out _ _ _ k HX6.out hk))
  clear hx7 hs7 HX6 HG6
  go_wp2_with fail
  have hget := get_yes HX7.out (i := 1) (a := 0) (m := 3) (p := 1) (by decide) rfl (by decide) (by decide) (by decide) (by decide)
  refine hget.mono ?_
  rintro e w8 ⟨A, c, rfl, hrow, hg8⟩
  have HROW : Hid (w8.ownsRow w7.heap.size 5 1 (.slice A 3 c) 3 [.int .u8 98, .int .u8 98, .int .u8 98]) := Lib.hid hrow
  have HX8 := Lib.hid (HX7.out.kept hg8)
  have HG8 := Lib.hid (grown_trans HG7.out hg8)
  clear hget hrow hg8 HX7 HG7
  go_wp2_with fail
  refine (blocks_at HX8.out (by decide)).mono ?_
  rintro e w9 ⟨A', c', l, rfl, hp, hs, hrow9, hg9⟩
  obtain rfl := two_list hp hs
  have HX9 := Lib.hid (HX8.out.kept hg9)
  have HG9 := Lib.hid (grown_trans HG8.out hg9)
  have HR9 : Hid (w9.ownsRow w8.heap.size 59 3 (.slice A' 2 c') 2 [.int .i64 1, .int .i64 0, .int .i64 3, .int .i64 0, .int .i64 3, .int .i64 6]) := Lib.hid hrow9
  have HROW9 : Hid (w9.ownsRow w7.heap.size 5 1 (.slice A 3 c) 3 [.int .u8 98, .int .u8 98, .int .u8 98]) := Lib.hid (owns_stay HROW.out fun k hk => hg9.block k (HROW.out.lt k hk).2 (by simp))
  clear hp hs hrow9 hg9 HX8 HG8 HROW
  have HPk := Lib.hid (packs_at HX9.out)
  have HMv := Lib.hid (moved_at HX9.out)
  obtain ⟨g1, cA, eA⟩ := owns_some HROW9.out (by decide)
  injection eA with eA1 eA2 eA3
  subst eA1
  clear eA2 eA3
  obtain ⟨g2, cB, eB⟩ := owns_some HR9.out (by decide)
  injection eB with eB1 eB2 eB3
  subst eB1
  clear eB2 eB3
  have r0 := HROW9.out.cellAt 0 (by decide)
  have r1 := HROW9.out.cellAt 1 (by decide)
  have r2 := HROW9.out.cellAt 2 (by decide)
  have t0 := HR9.out.cellAt 3 (by decide)
  have t1 := HR9.out.cellAt 4 (by decide)
  have t2 := HR9.out.cellAt 5 (by decide)
  simp only [List.getElem?_cons_zero, List.getElem?_cons_succ] at r0 r1 r2 t0 t1 t2
  have hstr : (convert 31 9 (.slice (some ⟨g1, 0, none⟩) 3 c)).run Try.prog w9 = .ok (.string ⟨#[98, 98, 98]⟩) w9 :=
    run_convert_bytes_arg w9 31 5 (by kernel_rfl) (by kernel_rfl) g1 0 3 c [98, 98, 98] rfl (fun i hi => by
      rcases i with _ | _ | _ | i
      · exact r0
      · exact r1
      · exact r2
      · omega) 9 (by kernel_rfl)
  clear r0 r1 r2
  simp only [List.length_cons, List.length_nil, Nat.zero_add, Nat.reduceAdd]
  have ep : (A6.packs : Int) = 1 := rfl
  have em : (A6.moved : Int) = 3 := rfl
  rw [ep] at HPk
  rw [em] at HMv
  clear ep em
  go_wp2_with fail
  refine HPk.out.mono ?_
  rintro e w' ⟨rfl, rfl⟩
  go_wp2_with fail
  refine HMv.out.mono ?_
  rintro e w' ⟨rfl, rfl⟩
  go_wp2_with fail
  go_ret
  exact ⟨rfl, HG9.out⟩
end Go.Proofs.Ythpcjgfbngemiaa
