/-
  Sums of any rows: Add.
-/
import Derived.Test.YthgecgehelnadaaDoorAdd
import Derived.Deep.MidRow
namespace Go.Proofs.YthgecgehelnadaaDoor
open Go.Shelf Go.RowKit Go.Sort
open Go.Lib hiding intOf
set_option linter.unusedVariables false
theorem Ten.range {w : World} {b off : Nat} {c : List Int} (h : Ten w b off c) : w.rangeAt b off (c.map (Value.int .u64)) := fun j v hv => by
  rw [List.getElem?_map] at hv
  have hj : j < c.length := by
    cases e : c[j]? with
    | none => rw [e] at hv; cases hv
    | some x => exact (List.getElem?_eq_some_iff.1 e).1
  rw [List.getElem?_eq_getElem hj] at hv
  rw [← Option.some.inj hv]
  exact h j hj
theorem ld24m {ops : Array Oper} {rest : List Oper} {o : Oper} {a : Act} {w : World} {Q : Exit → Act → World → Prop} (hgd : o.guard = none) (x : Operand) (ho : o.op = .load 24 x) (g off : Nat) (hx : a.eval x = .pointer (some ⟨g, off, none⟩)) (c : List Int) (h : Ten w g off c) (hc : c.length = 10)
    (hK : wpList Tryd.prog ops Q rest (a.put o.dst (cv c)) w) : wpList Tryd.prog ops Q (o :: rest) a w :=
  wpList_load_mid hgd 24 x ho g off hx (c.map (Value.int .u64)) _ h.range Tryd.underlying24 rfl (by rw [List.length_map, hc]; exact info24) hK
/-- rows of ten numbers, one behind the other -/
def Rws (w : World) (A : Option Addr) (rows : List (List Int)) : Prop := ∀ i (h : i < rows.length), ∃ g, A = some ⟨g, 0, none⟩ ∧ Ten w g (i * 10) rows[i]
theorem Rws.kept {w w' : World} {A : Option Addr} {rows : List (List Int)} (h : Rws w A rows) (hl : ∀ r ∈ rows, r.length = 10) (hb : Below w.heap.size w w') : Rws w' A rows := fun i hi => by
  obtain ⟨g, e, ht⟩ := h i hi
  exact ⟨g, e, ht.kept hb (ht.lt (hl _ (List.getElem_mem hi)))⟩
def addL (rows : List (List Int)) : List Int := rows.foldl (List.zipWith addf) zs
theorem addL_len : ∀ (rows : List (List Int)) (s : List Int), s.length = 10 → (∀ r ∈ rows, r.length = 10) → (rows.foldl (List.zipWith addf) s).length = 10
  | [], s, hs, _ => hs
  | r :: q, s, hs, h => addL_len q _ (by simp [hs, h r (by simp)]) (fun x hx => h x (by simp [hx]))
theorem addL_succ (rows : List (List Int)) (k : Nat) (hk : k < rows.length) : addL (rows.take (k + 1)) = List.zipWith addf (addL (rows.take k)) rows[k] := by
  rw [List.take_add_one, List.getElem?_eq_getElem hk, addL, List.foldl_append]
  rfl
theorem ixA47 (g k n cap : Nat) (hk : k < n) (w : World) : (Instr.indexAt 47 (.slice (some ⟨g, 0, none⟩) n cap) (.int .i64 (k : Int))).run Tryd.prog w = .ok (.pointer (some ⟨g, k * 10, none⟩)) w := by
  simp [go_sem, hk]
set_option maxHeartbeats 1000000 in
set_option maxRecDepth 100000 in
theorem add_at (rows : List (List Int)) (A : Option Addr) (n cap : Nat) (hn : n = rows.length) (hl : ∀ r ∈ rows, r.length = 10) (h50 : n ≤ 1000) (w : World) (h : Rws w A rows) :
    Calls Tryd.prog 15 #[.slice A n cap] w fun e w' => e = .returned (cv (addL rows)) ∧ Below w.heap.size w w' := by
  have hR := row_alloc w zs
  have b1 := (Below.refl w.heap.size w).alloc (Nat.le_refl _) (.cells (ca zs) 24)
  have b2 := (Below.refl (w.alloc (.cells (ca zs) 24)).heap.size (w.alloc (.cells (ca zs) 24))).alloc (Nat.le_refl _) (.cells (ca zs) 24)
  have hS := row_alloc (w.alloc (.cells (ca zs) 24)) zs
  have hR2 := hR.kept b2 hR.lt
  have q2 := b1.trans (b2.mono b1.size)
  have hs2 : ((w.alloc (.cells (ca zs) 24)).alloc (.cells (ca zs) 24)).heap.size = w.heap.size + 2 := by simp only [World.size_alloc]
  obtain ⟨w2, hw2⟩ : ∃ w2, w2 = (w.alloc (.cells (ca zs) 24)).alloc (.cells (ca zs) 24) := ⟨_, rfl⟩
  rw [← hw2] at hS hR2 q2 hs2
  simp only [World.size_alloc] at hS
  have HW := Lib.hid hw2
  have H2 := Lib.hid (And.intro hR2 (And.intro hS q2))
  have HS := Lib.hid hs2
  have HA := Lib.hid h
  have HL := Lib.hid (And.intro hn hl)
  clear hR b1 b2 hS hR2 q2 hs2 hw2 h hn hl
  go_enter Tryd.func15, Tryd.ntmps15
  go_wp2_with fail
  have hAA : (w.alloc (.cells #[.int .u64 0, .int .u64 0, .int .u64 0, .int .u64 0, .int .u64 0, .int .u64 0, .int .u64 0, .int .u64 0, .int .u64 0, .int .u64 0] 24)).alloc (.cells #[.int .u64 0, .int .u64 0, .int .u64 0, .int .u64 0, .int .u64 0, .int .u64 0, .int .u64 0, .int .u64 0, .int .u64 0, .int .u64 0] 24) = w2 := HW.out.symm
  rw [hAA]
  clear hAA
  refine (fields_at (w.heap.size + 1) _).mono ?_
  rintro e w3 ⟨rfl, hb3⟩
  obtain ⟨hR2, hS2, q2⟩ := H2.out
  have hR3 := hR2.kept hb3 hR2.lt
  have hS3 := hS2.kept hb3 hS2.lt
  have q3 := q2.trans (hb3.mono q2.size)
  have hs3 : w.heap.size + 2 ≤ w3.heap.size := by have := hb3.size; rw [HS.out] at this; exact this
  have hb4 := (Below.refl w3.heap.size w3).alloc (Nat.le_refl _) (.cells (pa (w.heap.size + 1)) 48)
  have hR4 := hR3.kept hb4 hR3.lt
  have hS4 := hS3.kept hb4 hS3.lt
  have hP4 := prow_alloc w3 (w.heap.size + 1)
  have q4 := q3.trans (hb4.mono q3.size)
  obtain ⟨p, hp⟩ : ∃ p, p = w3.heap.size := ⟨_, rfl⟩
  have hp3 : w.heap.size + 2 ≤ p := by rw [hp]; exact hs3
  rw [← hp] at hP4
  have H4 := Lib.hid (And.intro hR4 (And.intro hS4 (And.intro hP4 q4)))
  have HP := Lib.hid hp3
  have HP2 := Lib.hid hp
  clear hb3 hR2 hS2 q2 hR3 hS3 q3 hs3 hb4 hR4 hS4 hP4 q4 hp hp3 H2 HW HS
  go_wp2_with (first | fail | refine st48 rfl (.tmp 4) (.tmp 9) rfl (w.heap.size + 1) rfl rfl _ rfl ?_)
  rw [← HP2.out]
  go_loopw [12] (fun i wr => ∃ k : Nat, k ≤ n ∧ i = .int .i64 (k : Int) ∧ Hid (RowAt wr w.heap.size zs ∧ RowAt wr (w.heap.size + 1) (addL (rows.take k)) ∧ PRow wr p (w.heap.size + 1) ∧ Below w.heap.size w wr)) (fun i _ => n - (intOf i).toNat)
  case atStart => exact ⟨0, by omega, by go_num, H4⟩
  case round =>
    obtain ⟨k, hk, rfl, HR⟩ := hrel
    by_cases hlt : k < n
    · have hkr : k < rows.length := by have := HL.out.1; omega
      obtain ⟨g, rfl, ht⟩ := (HA.out.kept HL.out.2 HR.out.2.2.2) k hkr
      obtain ⟨c, hc⟩ : ∃ c, c = rows[k] := ⟨_, rfl⟩
      have hcl : c.length = 10 := by rw [hc]; exact HL.out.2 _ (List.getElem_mem hkr)
      rw [← hc] at ht
      have HT := Lib.hid (And.intro ht hcl)
      obtain ⟨hR, hS, hP, q⟩ := HR.out
      have hb5 := (Below.refl wr.heap.size wr).alloc (Nat.le_refl _) (.cells (ca c) 24)
      have hR5 := hR.kept hb5 hR.lt
      have hS5 := hS.kept hb5 hS.lt
      have hP5 := hP.kept hb5 hP.lt
      have hC5 := row_alloc wr c
      have q5 := q.trans (hb5.mono q.size)
      obtain ⟨d, hd⟩ : ∃ d, d = wr.heap.size := ⟨_, rfl⟩
      have hd1 : p < d := by rw [hd]; exact hP.lt
      rw [← hd] at hC5
      obtain ⟨w5, hw5⟩ : ∃ w5, w5 = wr.alloc (.cells (ca c) 24) := ⟨_, rfl⟩
      rw [← hw5] at hR5 hS5 hP5 hC5 q5
      have hs := addL_len (rows.take k) zs rfl (fun r hr => HL.out.2 r (List.mem_of_mem_take hr))
      obtain ⟨s, hse⟩ : ∃ s, s = addL (rows.take k) := ⟨_, rfl⟩
      rw [← hse] at hS5
      have hsl : s.length = 10 := by rw [hse]; exact hs
      have HSE : Hid (addL (rows.take (k + 1)) = List.zipWith addf s c) := Lib.hid (by rw [addL_succ rows k hkr, hse, hc])
      have H5 := Lib.hid (And.intro hR5 (And.intro hS5 (And.intro hP5 (And.intro hC5 q5))))
      have HD := Lib.hid (And.intro hd (And.intro hd1 hw5))
      have HCL := Lib.hid (And.intro hsl hcl)
      have hia := fun W => ixA47 g k n cap hlt W
      clear ht hcl hR hS hP q hb5 hR5 hS5 hP5 hC5 q5 hd hd1 hw5 hs hse hsl hc H4 HR
      go_wp2_with (first | refine ld24m rfl (.tmp 14) rfl g (k * 10) rfl c HT.out.1 HT.out.2 ?_ | refine st24n rfl (.tmp 6) (.tmp 15) rfl c HT.out.2 rfl rfl _ rfl ?_)
      rw [← HD.out.2.2, ← HD.out.1]
      clear hia
      refine (fields_at d _).mono ?_
      rintro e w6 ⟨rfl, hb6⟩
      obtain ⟨hR5, hS5, hP5, hC5, q5⟩ := H5.out
      have hR6 := hR5.kept hb6 hR5.lt
      have hS6 := hS5.kept hb6 hS5.lt
      have hP6 := hP5.kept hb6 hP5.lt
      have hC6 := hC5.kept hb6 hC5.lt
      have q6 := q5.trans (hb6.mono q5.size)
      have H6 := Lib.hid (And.intro hR6 (And.intro hS6 (And.intro hP6 (And.intro hC6 q6))))
      clear hb6 hR5 hS5 hP5 hC5 q5 hR6 hS6 hP6 hC6 q6 H5
      go_wp2_with fail
      go_loopw [17] (fun i wv => ∃ m : Nat, m ≤ 10 ∧ i = .int .i64 (m : Int) ∧ Hid (RowAt wv w.heap.size zs ∧ RowAt wv (w.heap.size + 1) (mx addf s c m) ∧ PRow wv p (w.heap.size + 1) ∧ RowAt wv d c ∧ Below w.heap.size w wv)) (fun i _ => 10 - (intOf i).toNat)
      case atStart => exact ⟨0, by omega, by go_num, by rw [mx_zero]; exact H6⟩
      case round =>
        obtain ⟨m, hm, rfl, HV⟩ := hrel
        by_cases hmt : m < 10
        · have hix := fun W => ix48 d m hmt W
          go_wp2_with fail
          refine region_tail 10 (by kernel_rfl) (by kernel_rfl) ?_
          intro w7 hw7
          obtain ⟨hR, hS, hP, hC, q⟩ := HV.out
          have hb7 : Below wr.heap.size wr w7 := by rw [hw7]; exact below_drew (Below.refl _ _) 1
          have hR7 := hR.kept hb7 hR.lt
          have hS7 := hS.kept hb7 hS.lt
          have hP7 := hP.kept hb7 hP.lt
          have hC7 := hC.kept hb7 hC.lt
          have q7 := q.trans (hb7.mono q.size)
          obtain ⟨ha, hb⟩ := HCL.out
          have hml := mx_len addf s c (by omega) m (by omega)
          have c1 := hP7.cell m hmt
          have c2 := hS7.cell m (by omega)
          rw [mx_get addf s c (by omega) m (by omega)] at c2
          have f2 := hS7.free m
          have c3 := hC7.cell m (by omega)
          have hS8 := hS7.set m (addf (s[m]'(by omega)) (c[m]'(by omega)))
          rw [← mx_succ addf s c (by omega) m (by omega)] at hS8
          have hR8 := hR7.cellOther (p := ⟨w.heap.size + 1, m, none⟩) (v := .int .u64 (addf (s[m]'(by omega)) (c[m]'(by omega)))) (by simp)
          have hP8 := hP7.cellOther (p := ⟨w.heap.size + 1, m, none⟩) (v := .int .u64 (addf (s[m]'(by omega)) (c[m]'(by omega)))) (by have := HP.out; simp; omega)
          have hC8 := hC7.cellOther (p := ⟨w.heap.size + 1, m, none⟩) (v := .int .u64 (addf (s[m]'(by omega)) (c[m]'(by omega)))) (by have := HP.out; have := HD.out.2.1; simp; omega)
          have q8 := q7.setCell (p := ⟨w.heap.size + 1, m, none⟩) (by simp) (.int .u64 (addf (s[m]'(by omega)) (c[m]'(by omega))))
          obtain ⟨x, hx⟩ : ∃ x, x = s[m]'(by omega) := ⟨_, rfl⟩
          obtain ⟨y, hy⟩ : ∃ y, y = c[m]'(by omega) := ⟨_, rfl⟩
          rw [← hx, ← hy] at hS8 hR8 hP8 hC8 q8
          rw [← hx] at c2
          rw [← hy] at c3
          have H8 := Lib.hid (And.intro hR8 (And.intro hS8 (And.intro hP8 (And.intro hC8 q8))))
          clear hR hS hP hC q hb7 hR7 hS7 hP7 hC7 q7 ha hb hml hS8 hR8 hP8 hC8 q8 hx hy hw7 H6 HV hix
          simp only [List.take_succ_cons, List.take_zero, List.drop_succ_cons, List.drop_zero]
          repeat still_step
          refine wpStill_nil ?_
          go_wp2
          go_round
          case rel => exact ⟨m + 1, by omega, by go_num, H8⟩
          case measure => simp only [intOf]; omega
        · obtain rfl : m = 10 := by omega
          obtain ⟨hR, hS, hP, hC, q⟩ := HV.out
          obtain ⟨ha, hb⟩ := HCL.out
          have e10 : mx addf s c 10 = List.zipWith addf s c := by rw [← ha]; exact mx_all addf s c (by omega)
          rw [e10, ← HSE.out] at hS
          have H9 := Lib.hid (And.intro hR (And.intro hS (And.intro hP q)))
          clear hR hS hP hC q ha hb e10 HV H6
          go_wp2
          go_round
          case rel => exact ⟨k + 1, by omega, by go_num, H9⟩
          case measure => simp only [intOf]; omega
    · obtain rfl : k = n := by omega
      obtain ⟨hR, hS, hP, q⟩ := HR.out
      have e : rows.take k = rows := by rw [HL.out.1, List.take_length]
      rw [e] at hS
      have HC : Hid ((addL rows).length = 10) := Lib.hid (addL_len rows zs rfl HL.out.2)
      have H9 := Lib.hid (And.intro hR (And.intro hS q))
      clear hR hS hP q e HR H4
      go_wp2_with (first | refine ld24 rfl (.tmp 3) rfl _ rfl _ H9.out.2.1 HC.out ?_ | refine st24 rfl (.tmp 2) (.tmp 33) rfl _ _ rfl rfl _ H9.out.1 rfl HC.out ?_)
      refine bodyPost_ret (results_cnt rfl _ _ _ _ rfl H9.out.1.rowSet HC.out) rfl ?_
      exact ⟨rfl, below_setRow H9.out.2.2 (Nat.le_refl _)⟩
end Go.Proofs.YthgecgehelnadaaDoor
