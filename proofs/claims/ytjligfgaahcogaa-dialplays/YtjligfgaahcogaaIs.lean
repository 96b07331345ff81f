/-
  The contracts of a dial's functions, by the ring and the hands that it has.
-/
import Derived.Test.YtjligfgaahcogaaRep
namespace Go.Proofs.Ytjligfgaahcogaa
open Go.ChangeShapes Go.WideShapes Go.ChangeAt Go.RowKit
set_option linter.unusedVariables false

theorem nodup_le : ∀ (n : Nat) (l : List Nat), l.Nodup → (∀ x ∈ l, x < n) → l.length ≤ n
  | 0, l, _, h => by
    cases l with
    | nil => exact Nat.le_refl _
    | cons y l => have := h y (by simp); omega
  | n + 1, l, hn, h => by
    by_cases hm : n ∈ l
    · have h1 := List.length_erase_of_mem hm
      have h2 := nodup_le n (l.erase n) (hn.erase n) (fun x hx => by
        have := (List.Nodup.mem_erase_iff hn).1 hx
        have := h x this.2
        omega)
      omega
    · have := nodup_le n l hn (fun x hx => by
        have := h x hx
        have : x ≠ n := fun e => hm (e ▸ hx)
        omega)
      omega
def IsD (w : World) (lo b gL gH : Nat) (D : Dl) : Prop := ∃ lk hd, Mem w lo b D.N D.hs.length gL gH lk hd D.l.length ∧ D.Ok ∧ Rep D lk hd
def Dl.has (D : Dl) (n : Int) : Bool := decide (0 ≤ n) && D.l.contains n.toNat
theorem Dl.has_iff {D : Dl} {n : Int} : D.has n = true ↔ 0 ≤ n ∧ n.toNat ∈ D.l := by
  unfold Dl.has
  simp only [Bool.and_eq_true, decide_eq_true_eq, List.contains_iff_mem]
theorem Dl.has_get {D : Dl} {n : Int} (h : D.has n = true) : ∃ k x : Nat, n = (x : Int) ∧ D.l[k]? = some x := by
  obtain ⟨h0, hm⟩ := Dl.has_iff.1 h
  obtain ⟨x, rfl⟩ := Int.eq_ofNat_of_zero_le h0
  obtain ⟨k, hk⟩ := List.getElem?_of_mem hm
  exact ⟨k, x, rfl, by simpa using hk⟩
theorem Dl.has_free {D : Dl} {x : Nat} : D.has (x : Int) = false ↔ x ∉ D.l := by
  rw [← Bool.not_eq_true, Dl.has_iff]
  simp
theorem hasB_eq {D : Dl} {lk : Nat → Lk} {hd : Nat → Nat} (ho : D.Ok) (hr : Rep D lk hd) (n : Int) : hasB D.N lk n = D.has n := by
  rw [Bool.eq_iff_iff, Dl.has_iff]
  unfold hasB inN
  simp only [Bool.and_eq_true, decide_eq_true_eq]
  constructor
  · rintro ⟨⟨h0, h1⟩, hs⟩
    exact ⟨h0, hr.out _ (by omega) hs⟩
  · rintro ⟨h0, hi⟩
    have := ho.lt _ hi
    exact ⟨⟨h0, by omega⟩, hr.inl _ hi⟩

/-- a node, or nothing -/
def tupO : Option Nat → Value
  | some x => .tuple #[.int .i32 (x : Int), .bool true]
  | none => .tuple #[.int .i32 0, .bool false]
theorem tupO_eq (o : Option Nat) : tupO o = .tuple #[.int .i32 ((o.getD 0 : Nat) : Int), .bool o.isSome] := by cases o <;> rfl
/-- around from a hand; none, if there is no such hand -/
def Dl.around (D : Dl) (h : Int) : List Nat := if inN D.hs.length h = true then rot D.l (D.hs.getD h.toNat 0) else []
theorem Dl.around_nat {D : Dl} {i : Nat} (h : i < D.hs.length) : D.around (i : Int) = rot D.l (D.hs.getD i 0) := by unfold Dl.around; rw [inN_nat h]; simp
theorem Dl.around_at {D : Dl} {i k : Nat} (h : D.hs[i]? = some k) : D.around (i : Int) = rot D.l k := by
  rw [Dl.around_nat (List.getElem?_eq_some_iff.1 h).1, List.getD_eq_getElem?_getD, h]; rfl

section
variable {w w' : World} {lo b gL gH : Nat} {D : Dl}
theorem IsD.kept (h : IsD w lo b gL gH D) (hg : w.grownBy w' none) : IsD w' lo b gL gH D := by
  obtain ⟨lk, hd, hm, ho, hr⟩ := h
  exact ⟨lk, hd, hm.kept hg, ho, hr⟩
theorem IsD.stay (h : IsD w lo b gL gH D) (hb : ∀ k, k < w.heap.size → (k = b ∨ k = gL ∨ k = gH) → w'.heap[k]? = w.heap[k]?) : IsD w' lo b gL gH D := by
  obtain ⟨lk, hd, hm, ho, hr⟩ := h
  exact ⟨lk, hd, hm.stay hb, ho, hr⟩
theorem IsD.lts (h : IsD w lo b gL gH D) : b < w.heap.size ∧ gL < w.heap.size ∧ gH < w.heap.size := by
  obtain ⟨lk, hd, hm, ho, hr⟩ := h
  exact ⟨hm.blt, hm.links.lt, hm.hands.lt⟩
theorem IsD.los (h : IsD w lo b gL gH D) : lo ≤ b ∧ lo ≤ gL ∧ lo ≤ gH := by
  obtain ⟨lk, hd, hm, ho, hr⟩ := h
  exact ⟨hm.blo, hm.llo, hm.hlo⟩
theorem IsD.types (h : IsD w lo b gL gH D) : (∃ cur, w.heap[b]? = some (.cells cur 60 (0, 0))) ∧ (∃ cur, w.heap[gL]? = some (.cells cur 72 (0, 0))) ∧ ∃ cur, w.heap[gH]? = some (.cells cur 21 (0, 0)) := by
  obtain ⟨lk, hd, hm, ho, hr⟩ := h
  obtain ⟨c1, h1, _⟩ := hm.links
  obtain ⟨c2, h2, _⟩ := hm.hands
  exact ⟨⟨_, hm.head⟩, ⟨_, h1⟩, ⟨_, h2⟩⟩
theorem IsD.ok (h : IsD w lo b gL gH D) : D.Ok := by
  obtain ⟨lk, hd, hm, ho, hr⟩ := h
  exact ho
theorem IsD.n6 (h : IsD w lo b gL gH D) : D.N ≤ 65536 := by
  obtain ⟨lk, hd, hm, ho, hr⟩ := h
  exact hm.n6
theorem IsD.m8 (h : IsD w lo b gL gH D) : 1 ≤ D.hs.length ∧ D.hs.length ≤ 8 := by
  obtain ⟨lk, hd, hm, ho, hr⟩ := h
  exact ⟨hm.m1, hm.m8⟩
theorem IsD.few (h : IsD w lo b gL gH D) : D.l.length ≤ 65536 :=
  Nat.le_trans (nodup_le D.N _ h.ok.nd (fun x hx => h.ok.lt x hx)) h.n6
theorem Dl.around_len (D : Dl) (h : Int) : (D.around h).length ≤ D.l.length := by
  unfold Dl.around
  split
  · rw [rot_length]; exact Nat.le_refl _
  · simp
theorem Dl.around_none {D : Dl} {h : Int} (hn : inN D.hs.length h = false) : D.around h = [] := by unfold Dl.around; rw [hn]; rfl

/-! ### reading -/
theorem at_is (h : IsD w lo b gL gH D) (n : Int) : Calls Try.prog 20 #[.pointer (some ⟨b, 0, none⟩), .int .i64 n] w fun e w' => e = .returned (tupO (D.around n)[0]?) ∧ w = w' := by
  obtain ⟨lk, hd, hm, ho, hr⟩ := h
  cases hin : inN D.hs.length n with
  | false =>
    rw [Dl.around_none hin]
    exact at_no hm n (.inl hin)
  | true =>
    obtain ⟨i, rfl, hi⟩ := inN_get hin
    obtain ⟨k, hk⟩ : ∃ k, D.hs[i]? = some k := ⟨_, List.getElem?_eq_getElem hi⟩
    rw [Dl.around_at hk]
    by_cases h0 : D.l = []
    · have e : (rot D.l k)[0]? = none := by rw [h0]; simp [rot]
      rw [e]
      exact at_no hm _ (.inr (by rw [h0]; rfl))
    · have ha := hr.hands h0 i k hk
      rw [rot_head ha]
      have hc : 0 < D.l.length := by have := (List.getElem?_eq_some_iff.1 ha).1; omega
      exact at_at hm i hi hc
theorem has_is (h : IsD w lo b gL gH D) (n : Int) (hn : i32in n) : Calls Try.prog 24 #[.pointer (some ⟨b, 0, none⟩), .int .i32 n] w fun e w' => e = .returned (.bool (D.has n)) ∧ w = w' := by
  obtain ⟨lk, hd, hm, ho, hr⟩ := h
  rw [← hasB_eq ho hr]
  exact has_at hm n hn
theorem next_er (h : IsD w lo b gL gH D) (n : Int) (hn : i32in n) (hh : D.has n = false) : Calls Try.prog 22 #[.pointer (some ⟨b, 0, none⟩), .int .i32 n] w fun e w' => e = .returned (tupO none) ∧ w = w' := by
  obtain ⟨lk, hd, hm, ho, hr⟩ := h
  exact next_no hm n hn (by rw [hasB_eq ho hr]; exact hh)
/-- the node behind the place k -/
def nxt (l : List Nat) (k : Nat) : Nat := (l[k + 1]?).getD (l.headD 0)
theorem nxt_mod {l : List Nat} {k : Nat} (hk : k < l.length) : l[(k + 1) % l.length]? = some (nxt l k) := by
  unfold nxt
  by_cases h : k + 1 < l.length
  · rw [Nat.mod_eq_of_lt h, List.getElem?_eq_getElem h]; rfl
  · have e : k + 1 = l.length := by omega
    rw [e, Nat.mod_self, List.getElem?_eq_none (Nat.le_refl _)]
    cases l with
    | nil => simp at hk
    | cons a t => rfl
theorem nxt_mem {l : List Nat} {k : Nat} (hk : k < l.length) : nxt l k ∈ l := List.mem_of_getElem? (nxt_mod hk)
theorem next_is (h : IsD w lo b gL gH D) {k x : Nat} (hk : D.l[k]? = some x) : Calls Try.prog 22 #[.pointer (some ⟨b, 0, none⟩), .int .i32 (x : Int)] w fun e w' => e = .returned (tupO (some (nxt D.l k))) ∧ w = w' := by
  obtain ⟨lk, hd, hm, ho, hr⟩ := h
  have hx := List.mem_of_getElem? hk
  have e : (lk x).n = nxt D.l k := ring_next hr.ring hk
  rw [← e]
  exact next_at hm x (ho.lt x hx) (hr.inl x hx)
theorem len_is (h : IsD w lo b gL gH D) : Calls Try.prog 16 #[.pointer (some ⟨b, 0, none⟩)] w fun e w' => e = .returned (.int .i64 (D.l.length : Int)) ∧ w = w' := by
  obtain ⟨lk, hd, hm, ho, hr⟩ := h
  exact len_at hm

/-! ### turning -/
def DPost (w : World) (lo b gL gH : Nat) (D : Dl) (v : Value) (e : Ending) (w' : World) : Prop := e = .returned v ∧ IsD w' lo b gL gH D ∧ Kp b gL gH w w'
theorem step_er (h : IsD w lo b gL gH D) (n : Int) (hh : inN D.hs.length n = false ∨ D.l = []) : Calls Try.prog 14 #[.pointer (some ⟨b, 0, none⟩), .int .i64 n] w fun e w' => e = .returned (.bool false) ∧ w = w' := by
  obtain ⟨lk, hd, hm, ho, hr⟩ := h
  exact step_no hm n (hh.imp_right fun e => by rw [e]; rfl)
theorem Dl.at_len (D : Dl) (i k : Nat) : (D.at_ i k).hs.length = D.hs.length := by simp [Dl.at_]
theorem step_is (h : IsD w lo b gL gH D) {i k : Nat} (hk : D.hs[i]? = some k) (h0 : D.l ≠ []) :
    Calls Try.prog 14 #[.pointer (some ⟨b, 0, none⟩), .int .i64 (i : Int)] w (DPost w lo b gL gH (D.at_ i ((k + 1) % D.l.length)) (.bool true)) := by
  obtain ⟨lk, hd, hm, ho, hr⟩ := h
  have ha := hr.hands h0 i k hk
  have hkl := (List.getElem?_eq_some_iff.1 ha).1
  have hx := List.mem_of_getElem? ha
  have e : (lk (hd i)).n = nxt D.l k := ring_next hr.ring ha
  refine (step_raw hm i (hd i) _ (List.getElem?_eq_some_iff.1 hk).1 (by omega) rfl (ho.lt _ hx) e).mono ?_
  rintro e w' ⟨rfl, hm', hk'⟩
  exact ⟨rfl, ⟨lk, _, by rw [Dl.at_len]; exact hm', Ok.at_ ho (Nat.mod_lt _ (by omega)), Rep.at_ hr (nxt_mod hkl)⟩, hk'⟩
def Dl.setC (D : Dl) (h n : Int) : Int := if (inN D.hs.length h && inN D.N n) = false then 1 else if D.has n = false then 5 else 0
def Dl.insC (D : Dl) (n h : Int) : Int := if (inN D.N n && inN D.hs.length h) = false then 1 else if D.has n = true then 8 else 0
theorem set_er (h : IsD w lo b gL gH D) {k n : Int} (hn : i32in n) (hc : ¬ D.setC k n = 0) : Calls Try.prog 23 #[.pointer (some ⟨b, 0, none⟩), .int .i64 k, .int .i32 n] w fun e w' => e = .returned (.int .i64 (D.setC k n)) ∧ w = w' := by
  obtain ⟨lk, hd, hm, ho, hr⟩ := h
  have e : setC D.N D.hs.length lk k n = D.setC k n := by unfold setC Dl.setC; rw [hasB_eq ho hr]
  rw [← e] at hc ⊢
  exact set_no hm k n hn hc
theorem set_is (h : IsD w lo b gL gH D) {i k x : Nat} (hi : i < D.hs.length) (hk : D.l[k]? = some x) :
    Calls Try.prog 23 #[.pointer (some ⟨b, 0, none⟩), .int .i64 (i : Int), .int .i32 (x : Int)] w (DPost w lo b gL gH (D.at_ i k) (.int .i64 0)) := by
  obtain ⟨lk, hd, hm, ho, hr⟩ := h
  have hx := List.mem_of_getElem? hk
  refine (set_raw hm i x hi (ho.lt x hx) (hr.inl x hx)).mono ?_
  rintro e w' ⟨rfl, hm', hk'⟩
  exact ⟨rfl, ⟨lk, _, by rw [Dl.at_len]; exact hm', Ok.at_ ho (List.getElem?_eq_some_iff.1 hk).1, Rep.at_ hr hk⟩, hk'⟩
theorem insert_er (h : IsD w lo b gL gH D) {n k : Int} (hn : i32in n) (hc : ¬ D.insC n k = 0) : Calls Try.prog 13 #[.pointer (some ⟨b, 0, none⟩), .int .i32 n, .int .i64 k] w fun e w' => e = .returned (.int .i64 (D.insC n k)) ∧ w = w' := by
  obtain ⟨lk, hd, hm, ho, hr⟩ := h
  have e : insC D.N D.hs.length lk n k = D.insC n k := by unfold insC Dl.insC; rw [hasB_eq ho hr]
  rw [← e] at hc ⊢
  exact insert_no hm n k hn hc
theorem Dl.ins_len (D : Dl) (i x : Nat) : (D.ins i x).hs.length = D.hs.length := by unfold Dl.ins; split <;> simp
theorem Dl.ins_N (D : Dl) (i x : Nat) : (D.ins i x).N = D.N := by unfold Dl.ins; split <;> rfl
theorem Dl.ins_l (D : Dl) (i x : Nat) : (D.ins i x).l.length = D.l.length + 1 := by
  unfold Dl.ins
  by_cases h : D.l = []
  · rw [if_pos h, h]; rfl
  · rw [if_neg h]; simp [rot_length]
theorem insert_is (h : IsD w lo b gL gH D) {i x : Nat} (hi : i < D.hs.length) (hx : x < D.N) (hf : x ∉ D.l) :
    Calls Try.prog 13 #[.pointer (some ⟨b, 0, none⟩), .int .i32 (x : Int), .int .i64 (i : Int)] w (DPost w lo b gL gH (D.ins i x) (.int .i64 0)) := by
  have hfew := h.few
  obtain ⟨lk, hd, hm, ho, hr⟩ := h
  obtain ⟨k, hk⟩ : ∃ k, D.hs[i]? = some k := ⟨_, List.getElem?_eq_getElem hi⟩
  have hs : (lk x).s = false := by
    cases hs : (lk x).s with
    | false => rfl
    | true => exact absurd (hr.out x hx hs) hf
  by_cases h0 : D.l = []
  · have hm0 : Mem w lo b D.N D.hs.length gL gH lk hd 0 := by rw [h0] at hm; exact hm
    refine (insert_alone hm0 x i hx hi hs).mono ?_
    rintro e w' ⟨rfl, hm', hk'⟩
    refine ⟨rfl, ⟨_, _, ?_, Ok.ins ho hk hx hf, Rep.insAlone hr ho h0 rfl⟩, hk'⟩
    rw [Dl.ins_len, Dl.ins_N, Dl.ins_l, h0]; exact hm'
  · have ha := hr.hands h0 i k hk
    have hkl := (List.getElem?_eq_some_iff.1 ha).1
    have hpv : (lk (hd i)).p ∈ D.l := by
      have hrr : RingP (fun u => (lk u).n) (fun u => (lk u).p) (rot D.l k) := by
        unfold rot
        exact ring_rot (by rw [List.take_append_drop]; exact hr.ring)
      have e := rot_head ha
      rw [e] at hrr
      have : (lk (hd i)).p = _ := ring_last hrr
      rw [this]
      refine (rot_mem (k := k)).1 ?_
      rw [e]
      rcases snoc_cases (l := D.l.drop (k + 1) ++ D.l.take k) with e2 | ⟨t, q, e2⟩
      · rw [e2]; simp
      · rw [e2, getLastD_snoc]; simp
    refine (insert_raw hm x i (hd i) _ hx hi hs (by omega) hfew rfl (ho.lt _ (List.mem_of_getElem? ha)) rfl (ho.lt _ hpv)).mono ?_
    rintro e w' ⟨rfl, hm', hk'⟩
    refine ⟨rfl, ⟨_, _, ?_, Ok.ins ho hk hx hf, Rep.insRing hr ho h0 hk ha hx hf⟩, hk'⟩
    rw [Dl.ins_len, Dl.ins_N, Dl.ins_l]; exact hm'
theorem remove_er (h : IsD w lo b gL gH D) (n : Int) (hn : i32in n) (hh : D.has n = false) : Calls Try.prog 18 #[.pointer (some ⟨b, 0, none⟩), .int .i32 n] w fun e w' => e = .returned (.bool false) ∧ w = w' := by
  have := has_is h n hn
  rw [hh] at this
  exact remove_no _ n w this
theorem prev_mem {lk : Nat → Lk} {hd : Nat → Nat} (hr : Rep D lk hd) {k x : Nat} (hk : D.l[k]? = some x) : (lk x).p ∈ D.l := by
  have hrr : RingP (fun u => (lk u).n) (fun u => (lk u).p) (rot D.l k) := by
    unfold rot
    exact ring_rot (by rw [List.take_append_drop]; exact hr.ring)
  have e := rot_head hk
  rw [e] at hrr
  have : (lk x).p = _ := ring_last hrr
  rw [this]
  refine (rot_mem (k := k)).1 ?_
  rw [e]
  rcases snoc_cases (l := D.l.drop (k + 1) ++ D.l.take k) with e2 | ⟨t, q, e2⟩
  · rw [e2]; simp
  · rw [e2, getLastD_snoc]; simp
theorem Dl.rem_hs (D : Dl) (k : Nat) : (D.rem k).hs.length = D.hs.length := by simp [Dl.rem]
theorem remove_is (h : IsD w lo b gL gH D) {k x : Nat} (hk : D.l[k]? = some x) :
    Calls Try.prog 18 #[.pointer (some ⟨b, 0, none⟩), .int .i32 (x : Int)] w (DPost w lo b gL gH (D.rem k) (.bool true)) := by
  have hfew := h.few
  obtain ⟨lk, hd, hm, ho, hr⟩ := h
  have hx := List.mem_of_getElem? hk
  have hkl := (List.getElem?_eq_some_iff.1 hk).1
  have e : (lk x).n = nxt D.l k := ring_next hr.ring hk
  have hm0 : Mem w lo b D.N D.hs.length gL gH lk hd (D.l.length - 1 + 1) := by rw [show D.l.length - 1 + 1 = D.l.length by omega]; exact hm
  refine (remove_raw hm0 x _ _ (ho.lt x hx) (hr.inl x hx) rfl rfl (ho.lt _ (prev_mem hr hk)) (by rw [e]; exact ho.lt _ (nxt_mem hkl)) (by omega)).mono ?_
  rintro e w' ⟨rfl, hm', hk'⟩
  refine ⟨rfl, ⟨_, _, ?_, Ok.rem ho hk, Rep.rem hr ho hk rfl⟩, hk'⟩
  rw [Dl.rem_hs]
  show Mem w' lo b D.N _ gL gH _ _ (D.l.take k ++ D.l.drop (k + 1)).length
  rw [rem_len hkl]; exact hm'
end
def Dl.new (N M : Nat) : Dl := ⟨N, [], List.replicate M 0⟩
theorem new_is (N M : Nat) (w : World) (hN : N ≤ 65536) (hM1 : 1 ≤ M) (hM8 : M ≤ 8) :
    Calls Try.prog 7 #[.int .i64 (N : Int), .int .i64 (M : Int)] w fun e w' => ∃ gL gH, e = .returned (.tuple #[.pointer (some ⟨w.heap.size + 2, 0, none⟩), .int .i64 0]) ∧ IsD w' w.heap.size (w.heap.size + 2) gL gH (Dl.new N M) ∧ w.grownBy w' none ∧ w'.heap.size = w.heap.size + 3 := by
  refine (new_raw N M w hN hM1 hM8).mono ?_
  rintro e w' ⟨gL, gH, rfl, hm, hg, hz⟩
  refine ⟨gL, gH, rfl, ⟨fun _ => zlk, fun _ => 0, ?_, ⟨fun x hx => ?_, List.nodup_nil, fun h hh => .inr ⟨rfl, List.eq_of_mem_replicate hh⟩⟩, ⟨trivial, fun x hx => ?_, fun x _ hs => ?_, fun h => absurd rfl h⟩⟩, hg, hz⟩
  · show Mem w' _ _ N (List.replicate M 0).length gL gH _ _ _
    rw [List.length_replicate]; exact hm
  · cases hx
  · cases hx
  · cases hs
end Go.Proofs.Ytjligfgaahcogaa
