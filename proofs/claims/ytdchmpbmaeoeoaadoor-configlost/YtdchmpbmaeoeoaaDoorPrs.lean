/-
  A config read out of a text: the program's Parse.
-/
import Derived.Test.YtdchmpbmaeoeoaaDoorRd
namespace Go.Proofs.YtdchmpbmaeoeoaaDoor
open Go.Shelf Go.RowKit Go.Sort
open Go.Lib hiding intOf
set_option linter.unusedVariables false
def MbL : List Int → Prop
  | [p, c, q, g] => Mb p c q g
  | _ => False
instance : ∀ l, Decidable (MbL l)
  | [] => .isFalse (fun h => h)
  | [_] => .isFalse (fun h => h)
  | [_, _] => .isFalse (fun h => h)
  | [_, _, _] => .isFalse (fun h => h)
  | [p, c, q, g] => inferInstanceAs (Decidable (Mb p c q g))
  | _ :: _ :: _ :: _ :: _ :: _ => .isFalse (fun h => h)
/-- what Parse tells of these words: the config, and the error's number -/
def pd (ws : List (List UInt8)) : List Int := if okw ws = true then (if MbL (dr ws) then dr ws else zs) else zs
def pe (ws : List (List UInt8)) : Int := if okw ws = true then (if MbL (dr ws) then 0 else 2) else 7
theorem pd_len (ws : List (List UInt8)) : (pd ws).length = 4 := by
  unfold pd; repeat' split
  · exact dr_len ws
  · rfl
  · rfl
theorem four_ints {l : List Int} (h : l.length = 4) : ∃ p c q g, l = [p, c, q, g] := by
  match l, h with
  | [p, c, q, g], _ => exact ⟨p, c, q, g, rfl⟩
theorem words_small (s : ByteArray) : ∀ x ∈ wds s.data.toList, x.length ≤ s.size := by
  have hj := wds_join s.data.toList
  have key : ∀ (l : List (List UInt8)) (x : List UInt8), x ∈ l → x.length ≤ (join l [32]).length := by
    intro l x hx
    have h1 : x.length ≤ lens l := by
      induction l with
      | nil => cases hx
      | cons a r ih =>
        have e : lens (a :: r) = a.length + lens r := by simp [lens]
        rcases List.mem_cons.1 hx with rfl | hx
        · omega
        · have := ih hx; omega
    cases l with
    | nil => cases hx
    | cons a r =>
      rw [join_length]
      omega
  intro x hx
  have := key _ _ hx
  rw [hj, size_list] at this
  exact this
theorem checkL_at (d : List Int) (p c q g : Int) (hd : d = [p, c, q, g]) (w : World) : Calls Tryd.prog 7 #[cv d] w fun e w' => e = .returned (.int .i64 (ck p c q g)) ∧ Below w.heap.size w w' := by
  subst hd
  exact check_at p c q g w
set_option maxHeartbeats 1000000 in
set_option maxRecDepth 100000 in
theorem parse_at (s : ByteArray) (hs : s.size ≤ 100000) (w : World) (he : Env w) :
    Calls Tryd.prog 14 #[.string s] w fun e w' => e = .returned (.tuple #[cv (pd (wds s.data.toList)), .int .i64 (pe (wds s.data.toList))]) ∧ Below w.heap.size w w' := by
  obtain ⟨ws, hws⟩ : ∃ ws, ws = wds s.data.toList := ⟨_, rfl⟩
  obtain ⟨n, hn⟩ : ∃ n, n = ws.length := ⟨_, rfl⟩
  have hsm : ∀ i, (mkS (ws.getD i [])).size ≤ 1000000 := fun i => by
    rw [mkS_size, List.getD_eq_getElem?_getD]
    cases e : ws[i]? with
    | none => simp
    | some x =>
      have := words_small s x (by rw [← hws]; exact List.mem_of_getElem? e)
      simp only [Option.getD_some]
      omega
  have c21 : ∀ V : World, Env V → Calls Tryd.prog 21 #[.string s] V fun e w' => ∃ A cap, e = .returned (.slice A n cap) ∧ SRow w' A ws ∧ Below V.heap.size V w' := fun V hV => by
    rw [hws]
    exact words_row s (by omega) n (by rw [hn, hws]) V hV
  rw [← hws]
  obtain ⟨p, c, q, g, hd⟩ := four_ints (dr_len ws)
  obtain ⟨d, hdd⟩ : ∃ d, d = dr ws := ⟨_, rfl⟩
  obtain ⟨b, hb⟩ : ∃ b, b = okw ws := ⟨_, rfl⟩
  have c20 : Hid (∀ A cap (V : World), SRow V A ws → Env V → Calls Tryd.prog 20 #[.slice A n cap] V fun e w' => e = .returned (.tuple #[cv d, .bool b]) ∧ Below V.heap.size V w') := Lib.hid (fun A cap V h1 h2 => by
    rw [hdd, hb]
    exact read4_at ws A n cap hn hsm V h1 h2)
  have hpd : pd ws = if b = true then (if MbL d then d else zs) else zs := by rw [hdd, hb]; rfl
  have hpe : pe ws = if b = true then (if MbL d then 0 else 2) else 7 := by rw [hdd, hb]; rfl
  obtain ⟨P, hP⟩ : ∃ P, P = pd ws := ⟨_, rfl⟩
  obtain ⟨E, hE⟩ : ∃ E, E = pe ws := ⟨_, rfl⟩
  rw [← hP, ← hE]
  rw [← hP] at hpd
  rw [← hE] at hpe
  have HPE := Lib.hid (And.intro hpd hpe)
  rw [← hdd] at hd
  have hdl : d.length = 4 := by rw [hd]; rfl
  have hmb : MbL d ↔ Mb p c q g := by rw [hd]; exact Iff.rfl
  have C7 := Lib.hid (fun V => checkL_at d p c q g hd V)
  have hR := row_alloc w zs
  have q1 := alloc_below w (.cells (ca zs) 24)
  have hE1 := he.kept q1
  obtain ⟨w1, hw1⟩ : ∃ w1, w1 = w.alloc (.cells (ca zs) 24) := ⟨_, rfl⟩
  rw [← hw1] at hR q1 hE1
  have hA : w.alloc (.cells #[.int .i64 0, .int .i64 0, .int .i64 0, .int .i64 0] 24) = w1 := hw1.symm
  have HA := Lib.hid hA
  have H1 := Lib.hid (And.intro hR (And.intro q1 hE1))
  have C21 := Lib.hid (c21 w1 hE1)
  have HD := Lib.hid hdl
  have HM := Lib.hid hmb
  clear hws hn hsm c21 hd hdd hb hpd hpe hdl hmb hP hE hR q1 hE1 hw1 hA hs he
  go_enter Tryd.func14, Tryd.ntmps14
  go_wp2_with fail
  rw [HA.out]
  refine C21.out.mono ?_
  rintro e w2 ⟨A, cap, rfl, hS2, hb2⟩
  have hR2 := H1.out.1.kept hb2 H1.out.1.lt
  have q2 := H1.out.2.1.trans (hb2.mono H1.out.2.1.size)
  have hE2 := H1.out.2.2.kept hb2
  have H2 := Lib.hid (And.intro hR2 (And.intro q2 (And.intro hE2 hS2)))
  clear hS2 hb2 hR2 q2 hE2 H1 C21 HA
  go_wp2_with fail
  refine (c20.out _ _ _ H2.out.2.2.2 H2.out.2.2.1).mono ?_
  rintro e w3 ⟨rfl, hb3⟩
  have hR3 := H2.out.1.kept hb3 H2.out.1.lt
  have q3 := H2.out.2.1.trans (hb3.mono H2.out.2.1.size)
  have hb4 := alloc_below w3 (.cells (ca d) 24)
  have hR4 := hR3.kept hb4 hR3.lt
  have hC4 := row_alloc w3 d
  have q4 := q3.trans (hb4.mono q3.size)
  obtain ⟨w4, hw4⟩ : ∃ w4, w4 = w3.alloc (.cells (ca d) 24) := ⟨_, rfl⟩
  obtain ⟨k, hk⟩ : ∃ k, k = w3.heap.size := ⟨_, rfl⟩
  rw [← hw4] at hR4 hC4 q4
  rw [← hk] at hC4
  have H4 := Lib.hid (And.intro hR4 (And.intro hC4 q4))
  have HW4 := Lib.hid (And.intro hw4 hk)
  clear hb3 hR3 q3 hb4 hR4 hC4 q4 hw4 hk H2 c20
  cases b with
  | false =>
    have HE : Hid (P = zs ∧ E = 7) := Lib.hid ⟨HPE.out.1, HPE.out.2⟩
    clear HPE
    go_wp2_with (first | fail | (refine st24n rfl (.tmp 4) (.tmp 11) rfl d HD.out rfl rfl _ rfl ?_; rw [← HW4.out.1, ← HW4.out.2]) | refine st24 rfl (.tmp 2) (.tmp 15) rfl _ zs rfl rfl _ H4.out.1 rfl rfl ?_)
    refine bodyPost_ret (results_cnt2 rfl _ _ _ _ rfl H4.out.1.rowSet rfl) rfl ?_
    exact ⟨by rw [HE.out.1, HE.out.2]; rfl, below_setRow H4.out.2.2 (Nat.le_refl _)⟩
  | true =>
    go_wp2_with (first | fail | (refine st24n rfl (.tmp 4) (.tmp 11) rfl d HD.out rfl rfl _ rfl ?_; rw [← HW4.out.1, ← HW4.out.2]) | refine ld24 rfl (.tmp 4) rfl _ rfl _ H4.out.2.1 HD.out ?_)
    refine (C7.out _).mono ?_
    rintro e w5 ⟨rfl, hb5⟩
    have hR5 := H4.out.1.kept hb5 H4.out.1.lt
    have hC5 := H4.out.2.1.kept hb5 H4.out.2.1.lt
    have q5 := H4.out.2.2.trans (hb5.mono H4.out.2.2.size)
    have H5 := Lib.hid (And.intro hR5 (And.intro hC5 q5))
    clear hb5 hR5 hC5 q5 H4 HW4 C7
    by_cases hm : Mb p c q g
    · rw [ck_ok hm]
      have HE : Hid (P = d ∧ E = 0) := Lib.hid ⟨by rw [HPE.out.1]; simp [HM.out.2 hm], by rw [HPE.out.2]; simp [HM.out.2 hm]⟩
      clear hm HPE
      go_wp2_with (first | fail | refine ld24 rfl (.tmp 4) rfl _ rfl _ H5.out.2.1 HD.out ?_ | refine st24 rfl (.tmp 2) (.tmp 22) rfl _ d rfl rfl _ H5.out.1 rfl HD.out ?_)
      refine bodyPost_ret (results_cnt2 rfl _ _ _ _ rfl H5.out.1.rowSet HD.out) rfl ?_
      exact ⟨by rw [HE.out.1, HE.out.2]; rfl, below_setRow H5.out.2.2 (Nat.le_refl _)⟩
    · rw [ck_no hm]
      have HE : Hid (P = zs ∧ E = 2) := Lib.hid ⟨by rw [HPE.out.1]; simp [show ¬ MbL d from fun e => hm (HM.out.1 e)], by rw [HPE.out.2]; simp [show ¬ MbL d from fun e => hm (HM.out.1 e)]⟩
      clear hm HPE
      go_wp2_with (first | fail | refine st24 rfl (.tmp 2) (.tmp 20) rfl _ zs rfl rfl _ H5.out.1 rfl rfl ?_)
      refine bodyPost_ret (results_cnt2 rfl _ _ _ _ rfl H5.out.1.rowSet rfl) rfl ?_
      exact ⟨by rw [HE.out.1, HE.out.2]; rfl, below_setRow H5.out.2.2 (Nat.le_refl _)⟩
end Go.Proofs.YtdchmpbmaeoeoaaDoor
