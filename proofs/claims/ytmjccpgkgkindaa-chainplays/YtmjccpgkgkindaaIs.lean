/-
  The contracts of chains' functions, by the lists that they have.
-/
import Derived.Test.YtmjccpgkgkindaaRep
namespace Go.Proofs.Ytmjccpgkgkindaa
open Go.ChangeShapes Go.WideShapes Go.ChangeAt Go.RowKit
set_option linter.unusedVariables false

theorem nodup_le : ∀ (n : Nat) (l : List Nat), l.Nodup → (∀ x ∈ l, x < n) → l.length ≤ n
  | 0, l, _, h => by
    cases l with
    | nil => exact Nat.le_refl _
    | cons y l => have := h y (by simp); omega
  | n + 1, l, hn, h => by
    by_cases hm : n ∈ l
    · have h1 := List.length_erase_of_mem hm
      have h2 := nodup_le n (l.erase n) (hn.erase n) (fun x hx => by
        have := (List.Nodup.mem_erase_iff hn).1 hx
        have := h x this.2
        omega)
      omega
    · have := nodup_le n l hn (fun x hx => by
        have := h x hx
        have : x ≠ n := fun e => hm (e ▸ hx)
        omega)
      omega
def IsCh (w : World) (lo b gL gN : Nat) (C : Ch) : Prop := ∃ lk, Mem w lo b C.N C.ls.length gL gN lk (fun i => (C.of i).length) ∧ C.Ok ∧ Rep C lk
def Ch.has (C : Ch) (n : Int) : Bool := decide (0 ≤ n) && C.ls.any (fun l => l.contains n.toNat)
theorem Ch.has_iff {C : Ch} {n : Int} : C.has n = true ↔ 0 ≤ n ∧ ∃ i, n.toNat ∈ C.of i := by
  unfold Ch.has
  simp only [Bool.and_eq_true, decide_eq_true_eq, List.any_eq_true, List.contains_iff_mem]
  refine and_congr_right fun _ => ⟨fun ⟨l, hl, hm⟩ => ?_, fun ⟨i, hm⟩ => ?_⟩
  · obtain ⟨i, hi, he⟩ := List.getElem_of_mem hl
    refine ⟨i, ?_⟩
    unfold Ch.of
    rw [List.getD_eq_getElem?_getD, List.getElem?_eq_getElem hi, he]; exact hm
  · have hi := Ch.lt_of_mem hm
    unfold Ch.of at hm
    rw [List.getD_eq_getElem?_getD, List.getElem?_eq_getElem hi] at hm
    exact ⟨_, List.getElem_mem hi, hm⟩
theorem standsB_eq {C : Ch} {lk : Nat → Lk} (ho : C.Ok) (hr : Rep C lk) (n : Int) : standsB C.N lk n = C.has n := by
  rw [Bool.eq_iff_iff, Ch.has_iff]
  unfold standsB inN
  simp only [Bool.and_eq_true, decide_eq_true_eq]
  constructor
  · rintro ⟨⟨h0, h1⟩, hs⟩
    exact ⟨h0, hr.out _ (by omega) hs⟩
  · rintro ⟨h0, i, hi⟩
    have := ho.lt _ _ hi
    exact ⟨⟨h0, by omega⟩, (hr.inl _ _ hi).1⟩
theorem Ch.has_free {C : Ch} {x : Nat} : C.has (x : Int) = false ↔ C.free x := by
  have h := Ch.has_iff (C := C) (n := (x : Int))
  rw [Int.toNat_natCast] at h
  constructor
  · intro hf i hi
    rw [h.2 ⟨by omega, i, hi⟩] at hf; cases hf
  · intro hf
    cases hh : C.has (x : Int) with
    | false => rfl
    | true => obtain ⟨_, i, hi⟩ := h.1 hh; exact absurd hi (hf i)

/-- a node, or nothing -/
def tupO : Option Nat → Value
  | some x => .tuple #[.int .i32 (x : Int), .bool true]
  | none => .tuple #[.int .i32 0, .bool false]
theorem tup_some {N x : Nat} (h : x < N) : tup N x = tupO (some x) := by unfold tup; rw [if_pos h]; rfl
theorem tup_none {N x : Nat} (h : ¬ x < N) : tup N x = tupO none := by unfold tup; rw [if_neg h]; rfl

section
variable {w w' : World} {lo b gL gN : Nat} {C : Ch}
theorem IsCh.kept (h : IsCh w lo b gL gN C) (hg : w.grownBy w' none) : IsCh w' lo b gL gN C := by
  obtain ⟨lk, hm, ho, hr⟩ := h
  exact ⟨lk, hm.kept hg, ho, hr⟩
theorem IsCh.stay (h : IsCh w lo b gL gN C) (hb : ∀ k, k < w.heap.size → (k = b ∨ k = gL ∨ k = gN) → w'.heap[k]? = w.heap[k]?) : IsCh w' lo b gL gN C := by
  obtain ⟨lk, hm, ho, hr⟩ := h
  exact ⟨lk, hm.stay hb, ho, hr⟩
theorem IsCh.lts (h : IsCh w lo b gL gN C) : b < w.heap.size ∧ gL < w.heap.size ∧ gN < w.heap.size := by
  obtain ⟨lk, hm, ho, hr⟩ := h
  exact ⟨hm.blt, hm.links.lt, hm.lens.lt⟩
theorem IsCh.los (h : IsCh w lo b gL gN C) : lo ≤ b ∧ lo ≤ gL ∧ lo ≤ gN := by
  obtain ⟨lk, hm, ho, hr⟩ := h
  exact ⟨hm.blo, hm.llo, hm.nlo⟩
theorem IsCh.types (h : IsCh w lo b gL gN C) : (∃ cur, w.heap[b]? = some (.cells cur 66 (0, 0))) ∧ (∃ cur, w.heap[gL]? = some (.cells cur 69 (0, 0))) ∧ ∃ cur, w.heap[gN]? = some (.cells cur 3 (0, 0)) := by
  obtain ⟨lk, hm, ho, hr⟩ := h
  obtain ⟨c1, h1, _⟩ := hm.links
  obtain ⟨c2, h2, _⟩ := hm.lens
  exact ⟨⟨_, hm.head⟩, ⟨_, h1⟩, ⟨_, h2⟩⟩
theorem IsCh.ok (h : IsCh w lo b gL gN C) : C.Ok := by
  obtain ⟨lk, hm, ho, hr⟩ := h
  exact ho
theorem IsCh.n6 (h : IsCh w lo b gL gN C) : C.N ≤ 65536 := by
  obtain ⟨lk, hm, ho, hr⟩ := h
  exact hm.n6
theorem IsCh.m8 (h : IsCh w lo b gL gN C) : C.ls.length ≤ 8 := by
  obtain ⟨lk, hm, ho, hr⟩ := h
  exact hm.m8
theorem IsCh.few (h : IsCh w lo b gL gN C) (i : Nat) : (C.of i).length ≤ 65536 :=
  Nat.le_trans (nodup_le C.N _ (h.ok.nd i) (fun x hx => h.ok.lt i x hx)) h.n6

/-! ### reading -/
theorem first_is (h : IsCh w lo b gL gN C) (i : Nat) (hi : i < C.ls.length) : Calls Try.prog 25 #[.pointer (some ⟨b, 0, none⟩), .int .i64 (i : Int)] w fun e w' => e = .returned (tupO (C.of i).head?) ∧ ∃ q, w' = w.drewN q := by
  obtain ⟨lk, hm, ho, hr⟩ := h
  have h1 : (lk (C.N + i)).n = _ := path_first (hr.path i hi)
  have hn6 := hm.n6
  have hm8 := hm.m8
  have e : tup C.N (lk (C.N + i)).n = tupO (C.of i).head? ∧ (lk (C.N + i)).n < 2147483648 := by
    rw [h1]
    cases hc : C.of i with
    | nil => exact ⟨tup_none (by simp), by simp; omega⟩
    | cons y l => have := ho.lt i y (by rw [hc]; simp); exact ⟨tup_some this, by simp; omega⟩
  rw [← e.1]
  exact first_at hm i hi e.2
theorem last_is (h : IsCh w lo b gL gN C) (i : Nat) (hi : i < C.ls.length) : Calls Try.prog 26 #[.pointer (some ⟨b, 0, none⟩), .int .i64 (i : Int)] w fun e w' => e = .returned (tupO (C.of i).getLast?) ∧ ∃ q, w' = w.drewN q := by
  obtain ⟨lk, hm, ho, hr⟩ := h
  have h1 : (lk (C.N + i)).p = _ := path_last (hr.path i hi)
  have hn6 := hm.n6
  have hm8 := hm.m8
  have e : tup C.N (lk (C.N + i)).p = tupO (C.of i).getLast? ∧ (lk (C.N + i)).p < 2147483648 := by
    rw [h1]
    rcases snoc_cases (l := C.of i) with hc | ⟨l, q, hc⟩
    · rw [hc]; exact ⟨tup_none (by simp), by simp; omega⟩
    · have := ho.lt i q (by rw [hc]; simp)
      rw [hc, getLastD_snoc, List.getLast?_concat]
      exact ⟨tup_some this, by omega⟩
  rw [← e.1]
  exact last_at hm i hi e.2
theorem next_is (h : IsCh w lo b gL gN C) {i k x : Nat} (hk : (C.of i)[k]? = some x) : Calls Try.prog 27 #[.pointer (some ⟨b, 0, none⟩), .int .i32 (x : Int)] w fun e w' => e = .returned (tupO (C.of i)[k + 1]?) ∧ w = w' := by
  obtain ⟨lk, hm, ho, hr⟩ := h
  have hx := List.mem_of_getElem? hk
  have hi := Ch.lt_of_mem hx
  have h1 : (lk x).n = _ := path_next (hr.path i hi) hk
  have hn6 := hm.n6
  have hm8 := hm.m8
  have e : tup C.N (lk x).n = tupO (C.of i)[k + 1]? ∧ (lk x).n < 2147483648 := by
    rw [h1]
    cases hc : (C.of i)[k + 1]? with
    | none => exact ⟨tup_none (by simp), by simp; omega⟩
    | some y => have := ho.lt i y (List.mem_of_getElem? hc); exact ⟨tup_some this, by simp; omega⟩
  rw [← e.1]
  exact next_at hm x (ho.lt i x hx) (hr.inl i x hx).1 e.2
theorem prev_is (h : IsCh w lo b gL gN C) {i k x : Nat} (hk : (C.of i)[k]? = some x) : Calls Try.prog 28 #[.pointer (some ⟨b, 0, none⟩), .int .i32 (x : Int)] w fun e w' => e = .returned (tupO (if k = 0 then none else (C.of i)[k - 1]?)) ∧ w = w' := by
  obtain ⟨lk, hm, ho, hr⟩ := h
  have hx := List.mem_of_getElem? hk
  have hi := Ch.lt_of_mem hx
  have h1 : (lk x).p = _ := path_prev (hr.path i hi) hk
  have hn6 := hm.n6
  have hm8 := hm.m8
  have e : tup C.N (lk x).p = tupO (if k = 0 then none else (C.of i)[k - 1]?) ∧ (lk x).p < 2147483648 := by
    rw [h1]
    by_cases h0 : k = 0
    · rw [if_pos h0, if_pos h0]; exact ⟨tup_none (by omega), by omega⟩
    · rw [if_neg h0, if_neg h0]
      cases hc : (C.of i)[k - 1]? with
      | none => exact ⟨tup_none (by simp), by simp; omega⟩
      | some y => have := ho.lt i y (List.mem_of_getElem? hc); exact ⟨tup_some this, by simp; omega⟩
  rw [← e.1]
  exact prev_at hm x (ho.lt i x hx) (hr.inl i x hx).1 e.2
theorem list_is (h : IsCh w lo b gL gN C) {i x : Nat} (hx : x ∈ C.of i) : Calls Try.prog 29 #[.pointer (some ⟨b, 0, none⟩), .int .i32 (x : Int)] w fun e w' => e = .returned (.tuple #[.int .i64 (i : Int), .bool true]) ∧ w = w' := by
  obtain ⟨lk, hm, ho, hr⟩ := h
  have h1 := hr.inl i x hx
  have := list_at hm x (ho.lt i x hx) h1.1
  rw [h1.2] at this
  exact this
theorem len_is (h : IsCh w lo b gL gN C) (i : Nat) (hi : i < C.ls.length) : Calls Try.prog 22 #[.pointer (some ⟨b, 0, none⟩), .int .i64 (i : Int)] w fun e w' => e = .returned (.int .i64 ((C.of i).length : Int)) ∧ w = w' := by
  obtain ⟨lk, hm, ho, hr⟩ := h
  exact len_at hm i hi

/-! ### turning -/
theorem lens_put {i : Nat} {l : List Nat} (hi : i < C.ls.length) {n : Nat} (hn : l.length = n) : put (fun i => (C.of i).length) i n = fun j => ((C.put i l).of j).length := by
  funext j
  rw [Ch.of_put hi]
  unfold put
  by_cases h : j = i
  · rw [if_pos h, if_pos h, hn]
  · rw [if_neg h, if_neg h]
def ChPost (w : World) (lo b gL gN : Nat) (C : Ch) (v : Value) (e : Ending) (w' : World) : Prop := e = .returned v ∧ IsCh w' lo b gL gN C ∧ Kp gL gN w w'
theorem nx_lt {lk : Nat → Lk} (ho : C.Ok) (hr : Rep C lk) {i a : Nat} (hi : i < C.ls.length) (ha : a = C.N + i ∨ a ∈ C.of i) : (lk a).n < C.N + C.ls.length ∧ (lk a).l = i := by
  rcases ha with rfl | ha
  · refine ⟨?_, hr.hd i hi⟩
    have h1 : (lk (C.N + i)).n = _ := path_first (hr.path i hi)
    rw [h1]
    rcases headD_mem (l := C.of i) (d := C.N + i) with e | e
    · rw [e]; omega
    · have := ho.lt _ _ e; omega
  · refine ⟨?_, (hr.inl i a ha).2⟩
    obtain ⟨k, hk⟩ := List.getElem?_of_mem ha
    have h1 : (lk a).n = _ := path_next (hr.path i hi) hk
    rw [h1]
    cases hc : (C.of i)[k + 1]? with
    | none => simp; omega
    | some y => have := ho.lt i y (List.mem_of_getElem? hc); simp; omega
theorem ahead_is (h : IsCh w lo b gL gN C) {i x : Nat} (hi : i < C.ls.length) (hx : x < C.N) (hf : C.free x) :
    Calls Try.prog 19 #[.pointer (some ⟨b, 0, none⟩), .int .i64 (i : Int), .int .i32 (x : Int)] w (ChPost w lo b gL gN (C.put i (x :: C.of i)) (.int .i64 0)) := by
  have hfew := h.few i
  obtain ⟨lk, hm, ho, hr⟩ := h
  have hc : enterC C.N C.ls.length lk (i : Int) (x : Int) = 0 := by
    unfold enterC
    rw [inN_nat hi, inN_nat hx, standsB_eq ho hr, Ch.has_free.2 hf]; rfl
  have hnl := nx_lt ho hr hi (.inl rfl)
  refine (ahead_yes hm i x _ hi hx hc rfl hnl.1 (hr.hd i hi) (by omega)).mono ?_
  rintro e w' ⟨rfl, hm', hk⟩
  rw [lens_put (l := x :: C.of i) hi (by simp)] at hm'
  refine ⟨rfl, ⟨_, ?_, Ok.lay (l1 := []) (l2 := C.of i) ho hi rfl hx hf, Rep.lay (l1 := []) (l2 := C.of i) hr ho hi rfl rfl hx hf⟩, hk⟩
  rw [Ch.len_put]; exact hm'
theorem behind_is (h : IsCh w lo b gL gN C) {i x : Nat} (hi : i < C.ls.length) (hx : x < C.N) (hf : C.free x) :
    Calls Try.prog 14 #[.pointer (some ⟨b, 0, none⟩), .int .i64 (i : Int), .int .i32 (x : Int)] w (ChPost w lo b gL gN (C.put i (C.of i ++ [x])) (.int .i64 0)) := by
  have hfew := h.few i
  obtain ⟨lk, hm, ho, hr⟩ := h
  have hc : enterC C.N C.ls.length lk (i : Int) (x : Int) = 0 := by
    unfold enterC
    rw [inN_nat hi, inN_nat hx, standsB_eq ho hr, Ch.has_free.2 hf]; rfl
  have hp : (lk (C.N + i)).p = (C.of i).getLastD (C.N + i) := path_last (hr.path i hi)
  have hpa : (C.of i).getLastD (C.N + i) = C.N + i ∨ (C.of i).getLastD (C.N + i) ∈ C.of i := getLastD_mem
  have hnl := nx_lt ho hr hi hpa
  refine (behind_yes hm i x _ hi hx hc hp ?_ hnl.1 hnl.2 (by omega)).mono ?_
  · rcases hpa with e | e
    · rw [e]; omega
    · have := ho.lt _ _ e; omega
  rintro e w' ⟨rfl, hm', hk⟩
  rw [lens_put (l := C.of i ++ [x]) hi (by simp)] at hm'
  refine ⟨rfl, ⟨_, ?_, Ok.lay (l1 := C.of i) (l2 := []) ho hi (by simp) hx hf, Rep.lay (l1 := C.of i) (l2 := []) hr ho hi (by simp) rfl hx hf⟩, hk⟩
  rw [Ch.len_put]; exact hm'
theorem insert_is (h : IsCh w lo b gL gN C) {i x a : Nat} {l1 l2 : List Nat} (hl : C.of i = l1 ++ a :: l2) (hx : x < C.N) (hf : C.free x) :
    Calls Try.prog 20 #[.pointer (some ⟨b, 0, none⟩), .int .i32 (x : Int), .int .i32 (a : Int)] w (ChPost w lo b gL gN (C.put i (l1 ++ a :: x :: l2)) (.int .i64 0)) := by
  have hfew := h.few i
  obtain ⟨lk, hm, ho, hr⟩ := h
  have ha : a ∈ C.of i := by rw [hl]; simp
  have hi := Ch.lt_of_mem ha
  have hnl := nx_lt ho hr hi (.inr ha)
  have hsx : (lk x).s = false := by
    have := standsB_eq ho hr (x : Int)
    rw [Ch.has_free.2 hf] at this
    unfold standsB at this
    rw [inN_nat hx] at this
    simpa using this
  refine (insert_yes hm x a i hx (ho.lt i a ha) hsx (hr.inl i a ha).1 hnl.1 hnl.2 hi (by omega)).mono ?_
  rintro e w' ⟨rfl, hm', hk⟩
  have hl' : C.of i = (l1 ++ [a]) ++ l2 := by rw [hl]; simp
  have e2 : l1 ++ a :: x :: l2 = (l1 ++ [a]) ++ x :: l2 := by simp
  rw [lens_put (l := l1 ++ a :: x :: l2) hi (by rw [hl]; simp; omega)] at hm'
  refine ⟨rfl, ⟨_, by rw [Ch.len_put]; exact hm', ?_, ?_⟩, hk⟩
  · rw [e2]; exact Ok.lay ho hi hl' hx hf
  · rw [e2]; exact Rep.lay hr ho hi hl' (getLastD_snoc _ _ _) hx hf
theorem remove_is (h : IsCh w lo b gL gN C) {i x : Nat} {l1 l2 : List Nat} (hl : C.of i = l1 ++ x :: l2) :
    Calls Try.prog 16 #[.pointer (some ⟨b, 0, none⟩), .int .i32 (x : Int)] w (ChPost w lo b gL gN (C.put i (l1 ++ l2)) (.bool true)) := by
  have hfew := h.few i
  obtain ⟨lk, hm, ho, hr⟩ := h
  have hx : x ∈ C.of i := by rw [hl]; simp
  have hi := Ch.lt_of_mem hx
  have hp := hr.path i hi
  rw [hl] at hp
  have hp := path_append.1 hp
  have hpv : (lk x).p = _ := path_last hp.1
  have hnl := nx_lt ho hr hi (.inr hx)
  have hlen : (C.of i).length = (l1 ++ l2).length + 1 := by rw [hl]; simp; omega
  refine (remove_raw hm x _ _ i (l1 ++ l2).length (ho.lt i x hx) (hr.inl i x hx).1 rfl rfl ?_ hnl.1 hnl.2 hi hlen (by omega)).mono ?_
  · rw [hpv]
    rcases getLastD_mem (l := l1) (d := C.N + i) with e | e
    · rw [e]; omega
    · have := ho.lt i _ (show l1.getLastD (C.N + i) ∈ C.of i by rw [hl]; exact List.mem_append.2 (.inl e)); omega
  rintro e w' ⟨rfl, hm', hk⟩
  rw [lens_put (l := l1 ++ l2) hi rfl] at hm'
  exact ⟨rfl, ⟨_, by rw [Ch.len_put]; exact hm', Ok.rem ho hi hl, Rep.rem hr ho hi hl⟩, hk⟩

/-! ### what is refused -/
def Ch.enter (C : Ch) (list n : Int) : Int := if (inN C.ls.length list && inN C.N n) = false then 1 else if C.has n = true then 8 else 0
def Ch.insC (C : Ch) (n a : Int) : Int := if (inN C.N n && inN C.N a) = false then 1 else if C.has n = true then 8 else if C.has a = false then 5 else 0
theorem ahead_er (h : IsCh w lo b gL gN C) {list n : Int} (hn : i32in n) (hc : ¬ C.enter list n = 0) : Calls Try.prog 19 #[.pointer (some ⟨b, 0, none⟩), .int .i64 list, .int .i32 n] w fun e w' => e = .returned (.int .i64 (C.enter list n)) ∧ w = w' := by
  obtain ⟨lk, hm, ho, hr⟩ := h
  refine ahead_no _ list n _ w hc ?_
  have := may_at hm list n hn
  unfold enterC at this
  rw [standsB_eq ho hr] at this
  exact this
theorem behind_er (h : IsCh w lo b gL gN C) {list n : Int} (hn : i32in n) (hc : ¬ C.enter list n = 0) : Calls Try.prog 14 #[.pointer (some ⟨b, 0, none⟩), .int .i64 list, .int .i32 n] w fun e w' => e = .returned (.int .i64 (C.enter list n)) ∧ w = w' := by
  obtain ⟨lk, hm, ho, hr⟩ := h
  refine behind_no _ list n _ w hc ?_
  have := may_at hm list n hn
  unfold enterC at this
  rw [standsB_eq ho hr] at this
  exact this
theorem insert_er (h : IsCh w lo b gL gN C) {n a : Int} (hn : i32in n) (ha : i32in a) (hc : ¬ C.insC n a = 0) : Calls Try.prog 20 #[.pointer (some ⟨b, 0, none⟩), .int .i32 n, .int .i32 a] w fun e w' => e = .returned (.int .i64 (C.insC n a)) ∧ w = w' := by
  obtain ⟨lk, hm, ho, hr⟩ := h
  have e : insC C.N lk n a = C.insC n a := by unfold insC Ch.insC; rw [standsB_eq ho hr, standsB_eq ho hr]
  have := insert_no hm n a hn ha (by rw [e]; exact hc)
  rw [e] at this
  exact this
theorem remove_er (h : IsCh w lo b gL gN C) {n : Int} (hn : i32in n) (hc : C.has n = false) : Calls Try.prog 16 #[.pointer (some ⟨b, 0, none⟩), .int .i32 n] w fun e w' => e = .returned (.bool false) ∧ w = w' := by
  obtain ⟨lk, hm, ho, hr⟩ := h
  have := stands_at hm n hn
  rw [standsB_eq ho hr, hc] at this
  exact remove_no _ n w this
theorem next_er (h : IsCh w lo b gL gN C) {n : Int} (hn : i32in n) (hc : C.has n = false) : Calls Try.prog 27 #[.pointer (some ⟨b, 0, none⟩), .int .i32 n] w fun e w' => e = .returned (tupO none) ∧ w = w' := by
  obtain ⟨lk, hm, ho, hr⟩ := h
  exact next_no hm n hn (by rw [standsB_eq ho hr, hc])
theorem prev_er (h : IsCh w lo b gL gN C) {n : Int} (hn : i32in n) (hc : C.has n = false) : Calls Try.prog 28 #[.pointer (some ⟨b, 0, none⟩), .int .i32 n] w fun e w' => e = .returned (tupO none) ∧ w = w' := by
  obtain ⟨lk, hm, ho, hr⟩ := h
  exact prev_no hm n hn (by rw [standsB_eq ho hr, hc])
theorem list_er (h : IsCh w lo b gL gN C) {n : Int} (hn : i32in n) (hc : C.has n = false) : Calls Try.prog 29 #[.pointer (some ⟨b, 0, none⟩), .int .i32 n] w fun e w' => e = .returned (.tuple #[.int .i64 0, .bool false]) ∧ w = w' := by
  obtain ⟨lk, hm, ho, hr⟩ := h
  exact list_no hm n hn (by rw [standsB_eq ho hr, hc])
theorem first_er (h : IsCh w lo b gL gN C) {n : Int} (hc : inN C.ls.length n = false) : Calls Try.prog 25 #[.pointer (some ⟨b, 0, none⟩), .int .i64 n] w fun e w' => e = .returned (tupO none) ∧ w = w' := by
  obtain ⟨lk, hm, ho, hr⟩ := h
  exact first_no hm n hc
theorem last_er (h : IsCh w lo b gL gN C) {n : Int} (hc : inN C.ls.length n = false) : Calls Try.prog 26 #[.pointer (some ⟨b, 0, none⟩), .int .i64 n] w fun e w' => e = .returned (tupO none) ∧ w = w' := by
  obtain ⟨lk, hm, ho, hr⟩ := h
  exact last_no hm n hc
theorem len_er (h : IsCh w lo b gL gN C) {n : Int} (hc : inN C.ls.length n = false) : Calls Try.prog 22 #[.pointer (some ⟨b, 0, none⟩), .int .i64 n] w fun e w' => e = .returned (.int .i64 0) ∧ w = w' := by
  obtain ⟨lk, hm, ho, hr⟩ := h
  exact len_no hm n hc
end
theorem new_is (N M : Nat) (w : World) (hN : N ≤ 65536) (hM1 : 1 ≤ M) (hM8 : M ≤ 8) :
    Calls Try.prog 7 #[.int .i64 (N : Int), .int .i64 (M : Int)] w fun e w' => ∃ gL gN, e = .returned (.tuple #[.pointer (some ⟨w.heap.size + 2, 0, none⟩), .int .i64 0]) ∧ IsCh w' w.heap.size (w.heap.size + 2) gL gN ⟨N, List.replicate M []⟩ ∧ w.grownBy w' none := by
  refine (new_raw N M w hN hM1 hM8).mono ?_
  rintro e w' ⟨gL, gN, rfl, hm, hg⟩
  have hof : ∀ i, (⟨N, List.replicate M []⟩ : Ch).of i = [] := by
    intro i
    unfold Ch.of
    rw [List.getD_eq_getElem?_getD, List.getElem?_replicate]
    split <;> rfl
  refine ⟨gL, gN, rfl, ⟨headLk N M, ?_, ⟨fun i x hx => ?_, fun i => ?_, fun i j x hx => ?_⟩, fun i hi => ?_, fun i x hx => ?_, fun i hi => ?_, fun x hx hs => ?_⟩, hg⟩
  · have e : (fun i => ((⟨N, List.replicate M []⟩ : Ch).of i).length) = fun _ => 0 := by funext i; rw [hof]; rfl
    rw [e, List.length_replicate]; exact hm
  · rw [hof] at hx; cases hx
  · rw [hof]; exact List.nodup_nil
  · rw [hof] at hx; cases hx
  · rw [List.length_replicate] at hi
    rw [hof]
    have e : headLk N M (N + i) = ⟨N + i, N + i, i, false⟩ := by unfold headLk; rw [if_pos (by omega), Nat.add_sub_cancel_left]
    exact ⟨by show (headLk N M (N + i)).n = N + i; rw [e], by show (headLk N M (N + i)).p = N + i; rw [e]⟩
  · rw [hof] at hx; cases hx
  · rw [List.length_replicate] at hi
    have e : headLk N M (N + i) = ⟨N + i, N + i, i, false⟩ := by unfold headLk; rw [if_pos (by omega), Nat.add_sub_cancel_left]
    show (headLk N M (N + i)).l = i
    rw [e]
  · have hx : x < N := hx
    have e : headLk N M x = zlk := by unfold headLk; rw [if_neg (by omega)]
    rw [e] at hs; cases hs
end Go.Proofs.Ytmjccpgkgkindaa
