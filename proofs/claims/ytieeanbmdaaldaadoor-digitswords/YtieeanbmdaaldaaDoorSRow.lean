/-
  Rows of strings: joined, gone through, built; the document's Words, Join, Same.
-/
import Derived.Test.YtieeanbmdaaldaaDoorRefX
import Derived.Test.YtieeanbmdaaldaaDoorAlive
import Derived.Test.YtieeanbmdaaldaaDoorLayJ
import Derived.Shelf.Strings.OnBuilder
import Derived.Laws.Strings3
namespace Go.Proofs.YtieeanbmdaaldaaDoor
open Go.Shelf Go.RowKit Go.Sort
open Go.Lib hiding intOf
set_option linter.unusedVariables false
def mkS (x : List UInt8) : ByteArray := ⟨x.toArray⟩
theorem mkS_list (x : List UInt8) : (mkS x).data.toList = x := by simp [mkS]
theorem mkS_of (s : ByteArray) : mkS s.data.toList = s := by apply ByteArray.ext; simp [mkS]
/-- strings that are read -/
def SRow (w : World) (A : Option Addr) (l : List (List UInt8)) : Prop := l = [] ∨ ∃ b off, A = some ⟨b, off, none⟩ ∧ ∀ j (hj : j < l.length), w.cell? ⟨b, off + j, none⟩ = some (.string (mkS l[j]))
theorem SRow.kept {w w' : World} {A : Option Addr} {l : List (List UInt8)} (h : SRow w A l) (hb : Below w.heap.size w w') : SRow w' A l := by
  rcases h with h | ⟨b, off, e, h⟩
  · exact .inl h
  · exact .inr ⟨b, off, e, fun j hj => by rw [hb.cell (by exact Lib.lt_of_cell (h j hj))]; exact h j hj⟩
theorem svals_app (l r : List (List UInt8)) : svals (l ++ r) = svals l ++ svals r := by simp [svals]
theorem info9 : (Tryd.prog.info? 9).map (fun i => (i.zero, i.size, i.bytes)) = some (some (.string ⟨#[]⟩), 1, 16) := by kernel_rfl
theorem appS {w : World} {base n : Nat} {v : Value} {l : List (List UInt8)} (x : List UInt8) (s : ByteArray) (hs : s = mkS x) (ho : w.ownsRow base 9 1 v n (svals l)) (hb : base ≤ w.heap.size) (hn : n + 1 ≤ 1000000) :
    ∃ v' w1, (Builtin.append_ #[37, 37] 37 #[v, .slice (some ⟨w.heap.size, 0, none⟩) 1 1]).run Tryd.prog (w.alloc (.cells #[.string s] 9)) = .ok v' w1 ∧ w1.ownsRow base 9 1 v' (n + 1) (svals (l ++ [x])) ∧ Below base w w1 := by
  obtain ⟨i0, hi, hz0, hz1, hz2⟩ := info_parts info9
  obtain ⟨v', w1, h1, h2, h3, _⟩ := run_append_own (P := Tryd.prog) (w.alloc (.cells #[.string s] 9)) base 37 37 9 i0 (.string ⟨#[]⟩) 1 16 Tryd.underlying37 hi hz0 hz1 hz2 rfl (by decide) v n (svals l) (ho.alloc _) ⟨w.heap.size, 0, none⟩ 1 1 (svals [x]) rfl (fun j u hu => by
    have hj : j < 1 := (List.getElem?_eq_some_iff.1 hu).1
    obtain rfl : j = 0 := by omega
    simp [svals] at hu
    subst hu
    rw [Lib.add_plain, World.cell?_alloc_new, hs]
    rfl) (fun u hu => by obtain ⟨z, _, rfl⟩ := List.mem_map.1 hu; rfl) (by unfold maxLen; omega) (by omega) (by simp; omega)
  exact ⟨v', w1, h1, by rw [svals_app]; exact h2, ((Below.refl base w).alloc hb _).trans (grown_below (ho.alloc _) h3 (by simp; omega))⟩
theorem owns_srow {w : World} {base n : Nat} {v : Value} {l : List (List UInt8)} (ho : w.ownsRow base 9 1 v n (svals l)) : ∃ A cap, v = .slice A l.length cap ∧ SRow w A l := by
  obtain ⟨h1, h2⟩ := ho
  rw [svals_len, Nat.mul_one] at h1
  rcases h2 with ⟨rfl, rfl⟩ | ⟨g, cap, cur, rfl, hg, hh, hcap, hm, hs, ht⟩
  · exact ⟨none, 0, by rw [h1], .inl (List.length_eq_zero_iff.1 h1)⟩
  · subst h1
    refine ⟨_, cap, rfl, .inr ⟨g, 0, rfl, fun j hj => ?_⟩⟩
    have hx : (svals l)[j]? = some (.string (mkS l[j])) := by simp [svals, hj, mkS]
    rw [← ht, Nat.mul_one, List.getElem?_take, if_pos hj] at hx
    simp only [World.cell?, hh, Nat.zero_add]
    simpa using hx
theorem alloc_srow (w : World) (l : List (List UInt8)) : SRow (w.alloc (.cells (svals l).toArray 9)) (some ⟨w.heap.size, 0, none⟩) l := by
  refine .inr ⟨_, 0, rfl, fun j hj => ?_⟩
  rw [World.cell?_alloc_new]
  have hx : (svals l)[j]? = some (.string (mkS l[j])) := by simp [svals, hj, mkS]
  simpa using hx
/-- the program's Words -/
theorem words_row (s : ByteArray) (hs : s.size ≤ 1000000) (n : Nat) (hn : n = (wds s.data.toList).length) (w : World) (he : Env w) :
    Calls Tryd.prog 20 #[.string s] w fun e w' => ∃ A cap, e = .returned (.slice A n cap) ∧ SRow w' A (wds s.data.toList) ∧ Below w.heap.size w w' :=
  (words_at s hs n hn w he).mono fun e w' ⟨h1, h2⟩ => ⟨_, _, h1, h2 ▸ alloc_srow w _, h2 ▸ (Below.refl _ _).alloc (Nat.le_refl _) _⟩
theorem lJx : Builder.Extra Tryd.prog lJ_ren where
  sizeBuilder := by kernel_rfl
  liesBuilder := by kernel_rfl
  t5 := Tryd.underlying5
  a5 := Tryd.isAgg5
  z5 := Tryd.sizeOf5
  v5 := Tryd.zeroValue5
  infoByte := by kernel_rfl
  cellsByte := by kernel_rfl
  sizeByte := by kernel_rfl
  neB5 := by decide
theorem join32_none (A : Option Addr) (cap : Nat) (w : World) : Calls Tryd.prog 32 #[.slice A 0 cap, .string ⟨#[32]⟩] w fun e w' => e = .returned (.string (mkS (join [] [32]))) ∧ Below w.heap.size w w' := by
  have c0 : Calls Tryd.prog 32 #[.slice A 0 cap, .string ⟨#[32]⟩] w fun e w' => e = .returned (.string ⟨#[]⟩) ∧ w' = w := Any.strings_Join_none lJ lJx A cap ⟨#[32]⟩ w
  exact c0.mono fun e w' ⟨h1, h2⟩ => ⟨h1, h2 ▸ Below.refl _ _⟩
theorem map_mkS (l : List (List UInt8)) : (l.map mkS).map (·.data.toList) = l := by
  rw [List.map_map]
  exact (List.map_congr_left (g := id) (fun x _ => mkS_list x)).trans (List.map_id l)
theorem join32_some (b off cap : Nat) (xs : List ByteArray) (w : World) (hc : ∀ (j : Nat) x, xs[j]? = some x → w.cell? ⟨b, off + j, none⟩ = some (.string x)) (hb : b < w.heap.size) (h1 : xs.length ≤ 100000) (h2 : xs.length ≤ cap)
    (h3 : (join (xs.map (·.data.toList)) [32]).length ≤ 1000000) : Calls Tryd.prog 32 #[.slice (some ⟨b, off, none⟩) xs.length cap, .string ⟨#[32]⟩] w fun e w' => e = .returned (.string (mkS (join (xs.map (·.data.toList)) [32]))) ∧ Below w.heap.size w w' :=
  Any.strings_Join lJ lJx b off cap xs ⟨#[32]⟩ w hc hb (Nat.le_trans h1 (by decide)) h2 (Nat.le_trans h3 (by decide))
theorem join32_at (l : List (List UInt8)) (A : Option Addr) (cap : Nat) (hcap : l.length ≤ cap) (hlen : (join l [32]).length ≤ 1000000) (h50 : l.length ≤ 100000) (w : World) (h : SRow w A l) :
    Calls Tryd.prog 32 #[.slice A l.length cap, .string ⟨#[32]⟩] w fun e w' => e = .returned (.string (mkS (join l [32]))) ∧ Below w.heap.size w w' := by
  by_cases h0 : l.length = 0
  · have hl := List.length_eq_zero_iff.1 h0
    subst hl
    exact join32_none A cap w
  · rcases h with e | ⟨b, off, rfl, hc⟩
    · rw [e] at h0; exact absurd rfl h0
    · have c := join32_some b off cap (l.map mkS) w (fun j x hx => by
        have hj : j < l.length := by have := (List.getElem?_eq_some_iff.1 hx).1; simpa using this
        rw [hc j hj]
        rw [List.getElem?_map, List.getElem?_eq_getElem hj] at hx
        injection hx with hx
        rw [← hx]) (by exact Lib.lt_of_cell (hc 0 (by omega))) (by rw [List.length_map]; exact h50) (by rw [List.length_map]; exact hcap) (by rw [map_mkS]; exact hlen)
      rw [map_mkS, List.length_map] at c
      exact c
/-- the program's Join -/
theorem join_at (l : List (List UInt8)) (A : Option Addr) (n cap : Nat) (hn : n = l.length) (hcap : n ≤ cap) (hlen : (join l [32]).length ≤ 1000000) (h50 : n ≤ 100000) (w : World) (h : SRow w A l) (t : ByteArray) (ht : t = mkS (join l [32])) :
    Calls Tryd.prog 23 #[.slice A n cap] w fun e w' => e = .returned (.string t) ∧ Below w.heap.size w w' := by
  have c : Calls Tryd.prog 32 #[.slice A n cap, .string ⟨#[32]⟩] w fun e w' => e = .returned (.string t) ∧ Below w.heap.size w w' := by
    subst hn ht
    exact join32_at l A cap hcap hlen h50 w h
  clear h ht hlen hn hcap h50
  go_enter Tryd.func23, Tryd.ntmps23
  go_wp2_with fail
  refine c.mono ?_
  rintro e w' ⟨rfl, hb⟩
  go_wp2
  go_ret
  exact ⟨rfl, hb⟩
theorem join_snoc (l : List (List UInt8)) (x : List UInt8) : join (l ++ [x]) [32] = if l.length = 0 then x else join l [32] ++ [32] ++ x := by
  cases l with
  | nil => simp [join_one]
  | cons a r =>
    rw [List.cons_append, join_cons, join_cons, if_neg (by simp)]
    simp [joinTail]
theorem str_join (a b : List UInt8) : (mkS a ++ mkS b : ByteArray) = mkS (a ++ b) := by
  apply ByteArray.ext
  simp [mkS, ByteArray.data_append]
theorem mkS_size (a : List UInt8) : (mkS a).size = a.length := by rw [← size_list, mkS_list]
set_option maxHeartbeats 400000 in
set_option maxRecDepth 100000 in
theorem rjoin_at (l : List (List UInt8)) (A : Option Addr) (n cap : Nat) (hn : n = l.length) (hlen : ∀ k, (join (l.take k) [32]).length ≤ 1000000) (hel : ∀ x ∈ l, x.length ≤ 1000000) (h50 : n ≤ 100000) (w : World) (h : SRow w A l) (t : ByteArray) (ht : t = mkS (join l [32])) :
    Calls Tryd.prog 24 #[.slice A n cap] w fun e w' => e = .returned (.string t) ∧ w = w' := by
  have HL := Lib.hid (And.intro hn (And.intro hlen hel))
  have HB := Lib.hid h
  have HT := Lib.hid ht
  clear hn hlen hel h ht
  go_enter Tryd.func24, Tryd.ntmps24
  go_wp2
  go_loop [3, 4] (fun s i => ∃ (k : Nat) (c : List UInt8), k ≤ n ∧ i = .int .i64 (k : Int) ∧ s = .string (mkS c) ∧ Hid (c = join (l.take k) [32])) (fun _ i => n - (intOf i).toNat)
  case atStart => exact ⟨0, [], by omega, by go_num, rfl, Lib.hid (by simp [join_nil])⟩
  case round =>
    obtain ⟨k, c, hk, rfl, rfl, HC⟩ := hrel
    by_cases hlt : k < n
    · have hkl : k < l.length := by have := HL.out.1; omega
      rcases HB.out with e | ⟨b, off, e, hc⟩
      · rw [e] at hkl; simp at hkl
      · subst e
        have hcell := hc k hkl
        obtain ⟨x, hx⟩ : ∃ x, x = l[k] := ⟨_, rfl⟩
        rw [← hx] at hcell
        have hcl : c.length ≤ 1000000 := by rw [HC.out]; exact HL.out.2.1 k
        have hxl : x.length ≤ 1000000 := by rw [hx]; exact HL.out.2.2 _ (List.getElem_mem hkl)
        have HX : Hid (join (l.take (k + 1)) [32] = if k = 0 then x else c ++ [32] ++ x) := Lib.hid (by
          rw [List.take_add_one, List.getElem?_eq_getElem hkl, HC.out, hx]
          show join (l.take k ++ [l[k]]) [32] = _
          rw [join_snoc]
          have : (l.take k).length = k := by simp; omega
          rw [this])
        have z1 : (mkS c).size ≤ 1000000 := by rw [mkS_size]; exact hcl
        have z2 : (mkS x).size ≤ 1000000 := by rw [mkS_size]; exact hxl
        clear hc hx hcl hxl HB HT
        by_cases h0 : k = 0
        · have hp : ¬ (0 : Int) < (k : Int) := by omega
          have hc0 : c = [] := by rw [HC.out, h0]; simp [join_nil]
          have HX2 : Hid (c ++ x = join (l.take (k + 1)) [32]) := Lib.hid (by have := HX.out; rw [if_pos h0] at this; rw [this, hc0]; rfl)
          clear h0 hc0
          go_wp2
          go_round
          case rel =>
            refine ⟨k + 1, c ++ x, by omega, by go_num, ?_, Lib.hid HX2.out⟩
            rw [str_join]
          case measure => simp only [intOf]; omega
        · have hp : (0 : Int) < (k : Int) := by omega
          go_wp2
          go_round
          case rel =>
            have e32 : (⟨#[32]⟩ : ByteArray) = mkS [32] := rfl
            refine ⟨k + 1, c ++ [32] ++ x, by omega, by go_num, ?_, Lib.hid (by have := HX.out; rw [if_neg h0] at this; exact this.symm)⟩
            rw [e32, str_join, str_join]
          case measure => simp only [intOf]; omega
    · have e : l.take k = l := by rw [List.take_of_length_le]; have := HL.out.1; omega
      have HE : Hid (t = mkS c) := Lib.hid (by rw [HT.out, HC.out, e])
      go_wp2
      go_ret
      exact ⟨by rw [HE.out]; rfl, rfl⟩
set_option maxHeartbeats 400000 in
set_option maxRecDepth 100000 in
theorem same_at (l : List (List UInt8)) (A B : Option Addr) (n cA cB : Nat) (hn : n = l.length) (h50 : n ≤ 1000000) (w : World) (hA : SRow w A l) (hB : SRow w B l) :
    Calls Tryd.prog 21 #[.slice A n cA, .slice B n cB] w fun e w' => e = .returned (.bool true) ∧ Below w.heap.size w w' := by
  have HL := Lib.hid hn
  have HA := Lib.hid hA
  have HB := Lib.hid hB
  clear hn hA hB
  go_enter Tryd.func21, Tryd.ntmps21
  go_wp2
  go_loopw [5] (fun i wr => ∃ (k q : Nat), k ≤ n ∧ i = .int .i64 (k : Int) ∧ wr = w.drewN q) (fun i _ => n - (intOf i).toNat)
  case atStart => exact ⟨0, 0, by omega, by go_num, rfl⟩
  case round =>
    obtain ⟨k, q, hk, rfl, rfl⟩ := hrel
    by_cases hlt : k < n
    · have hkl : k < l.length := by have := HL.out; omega
      rcases HA.out with e | ⟨b, off, e, hc⟩
      · rw [e] at hkl; simp at hkl
      · rcases HB.out with e2 | ⟨b2, off2, e2, hc2⟩
        · rw [e2] at hkl; simp at hkl
        · subst e e2
          obtain ⟨x, hx⟩ : ∃ x, x = mkS l[k] := ⟨_, rfl⟩
          have d1 : w.cell? ⟨b, off + k, none⟩ = some (.string x) := by rw [hc k hkl, hx]
          have d2 : w.cell? ⟨b2, off2 + k, none⟩ = some (.string x) := by rw [hc2 k hkl, hx]
          clear hc hc2 hx
          go_wp2_with fail
          go_quiet (fail)
          rename_i nq
          go_wp2
          go_round
          case rel => exact ⟨k + 1, q + nq, by omega, by go_num, rfl⟩
          case measure => simp only [intOf]; omega
    · go_wp2
      go_ret
      exact ⟨rfl, below_drew (Below.refl _ _) q⟩
end Go.Proofs.YtieeanbmdaaldaaDoor
