/-
  All keys of slots, in no order: appendKeys.
-/
import Derived.Test.YtnhjnciadmgkeaaDoorSSort
import Derived.Test.YtnhjnciadmgkeaaDoorAlive
namespace Go.Proofs.YtnhjnciadmgkeaaDoor
open Go.ChangeShapes Go.WideShapes Go.ChangeAt Go.RowKit
set_option linter.unusedVariables false

def uvals (zs : List Int) : List Value := zs.map (Value.int .u64)
theorem uvals_len (zs : List Int) : (uvals zs).length = zs.length := by simp [uvals]
theorem uvals_snoc (zs : List Int) (x : Int) : uvals (zs ++ [x]) = uvals zs ++ [.int .u64 x] := by simp [uvals]
/-- nothing of old turns but rows of numbers from base on -/
structure KR (base : Nat) (w w' : World) : Prop where
  os : w'.os = w.os
  tape : w'.tape = w.tape
  output : w'.output = w.output
  size : w.heap.size ≤ w'.heap.size
  block : ∀ k, k < w.heap.size → (k < base ∨ ∀ cur f, w.heap[k]? ≠ some (.cells cur 23 f)) → w'.heap[k]? = w.heap[k]?
theorem KR.refl (base : Nat) (w : World) : KR base w w := ⟨rfl, rfl, rfl, Nat.le_refl _, fun _ _ _ => rfl⟩
theorem KR.trans {base : Nat} {a b c : World} (h : KR base a b) (g : KR base b c) : KR base a c :=
  ⟨g.os.trans h.os, g.tape.trans h.tape, g.output.trans h.output, Nat.le_trans h.size g.size, fun k hk hc => by
    have e := h.block k hk hc
    refine (g.block k (Nat.lt_of_lt_of_le hk h.size) ?_).trans e
    rcases hc with hc | hc
    · exact .inl hc
    · exact .inr (by rw [e]; exact hc)⟩
theorem info23 : (Tryd.prog.info? 23).map (fun i => (i.zero, i.size, i.bytes)) = some (some (.int .u64 0), 1, 8) := by kernel_rfl
theorem info_parts {P : Program} {e : TypeId} {z : Value} {s b : Nat} (h : (P.info? e).map (fun i => (i.zero, i.size, i.bytes)) = some (some z, s, b)) : ∃ i, P.info? e = some i ∧ i.zero = some z ∧ i.size = s ∧ i.bytes = b := by
  cases hi : P.info? e with
  | none => rw [hi] at h; cases h
  | some i =>
    rw [hi] at h
    simp only [Option.map_some, Option.some.injEq, Prod.mk.injEq] at h
    exact ⟨i, rfl, h.1, h.2.1, h.2.2⟩
theorem app64 {w : World} {base k cap : Nat} {A : Option Addr} {zs : List Int} (ho : w.ownsRow base 23 1 (.slice A k cap) k (uvals zs)) (hk : k ≤ 1000000) (hb : base ≤ w.heap.size) (x : Int) :
    ∃ g' cap' w1, (Builtin.append_ #[34, 34] 34 #[.slice A k cap, .slice (some ⟨w.heap.size, 0, none⟩) 1 1]).run Tryd.prog (w.alloc (.cells #[.int .u64 x] 23)) = .ok (.slice (some ⟨g', 0, none⟩) (k + 1) cap') w1 ∧
      w1.ownsRow base 23 1 (.slice (some ⟨g', 0, none⟩) (k + 1) cap') (k + 1) (uvals (zs ++ [x])) ∧ KR base w w1 := by
  obtain ⟨i0, hi, hz0, hz1, hz2⟩ := info_parts info23
  obtain ⟨g', cap', w1, hrun, ho1, hgr, hft⟩ := run_append_foot (P := Tryd.prog) (w.alloc (.cells #[.int .u64 x] 23)) base 34 34 23 i0 (.int .u64 0) 1 8 Tryd.underlying34 hi hz0 hz1 hz2 rfl (by decide) (.slice A k cap) k (uvals zs) (ho.alloc _) ⟨w.heap.size, 0, none⟩ 1 [.int .u64 x] rfl
    (fun j u hu => by
      have hj : j = 0 := by
        have := (List.getElem?_eq_some_iff.1 hu).1
        simp at this; exact this
      subst hj
      simp at hu
      subst hu
      have := cell_of_head (heap_alloc_new w (.cells #[.int .u64 x] 23)) 0
      exact this) (fun u hu => by simp at hu; subst hu; rfl) (by unfold maxLen; omega) (by omega) (by simp; omega)
  have hgg := grown_trans (grown_any (World.grownBy_alloc w (.cells #[.int .u64 x] 23) none) (Value.slice A k cap).ownBlock) hgr
  refine ⟨g', cap', w1, hrun, by rw [uvals_snoc]; exact ho1, hgg.os, hgg.tape, hgg.output, hgg.size, fun r hr hc => hgg.block r hr fun e => ?_⟩
  obtain ⟨h1, cur, h2⟩ := owns_type ho e.symm
  rcases hc with hc | hc
  · omega
  · exact hc _ _ h2
/-- the keys of n slots -/
def kcat (bk : Nat → List Ent) : Nat → List Int
  | 0 => []
  | n + 1 => kcat bk n ++ (bk n).map (·.key)
theorem kcat_len (bk : Nat → List Ent) : ∀ n, (kcat bk n).length = tot bk n
  | 0 => rfl
  | n + 1 => by simp [kcat, tot, kcat_len bk n]
theorem tot_at {bk : Nat → List Ent} {i : Nat} : ∀ {n : Nat}, i < n → tot bk i + (bk i).length ≤ tot bk n
  | 0, h => absurd h (Nat.not_lt_zero _)
  | n + 1, h => by
    show _ ≤ tot bk n + (bk n).length
    by_cases e : i = n
    · subst e; exact Nat.le_refl _
    · have := tot_at (bk := bk) (i := i) (n := n) (by omega); omega
section
variable {w w' : World} {lo g k base : Nat} {bk : Nat → List Ent}
theorem Arr.kr (h : Arr w lo g k bk) (hk : KR base w w') : Arr w' lo g k bk := by
  obtain ⟨cur, hc⟩ := h.row.head
  refine h.stay (hk.block g h.row.lt (.inr fun c f e => by rw [hc] at e; cases e)) fun e he => ?_
  obtain ⟨a, ha⟩ := h.ent he
  exact hk.block _ ha.lt (.inr fun c f e2 => by unfold EntAt at ha; rw [ha] at e2; cases e2)
set_option maxHeartbeats 2000000 in
theorem apk_at (h : Arr w lo g k bk) (h30 : k ≤ 30) (q0 k0 c0 : Nat) (zs : List Int) (hlen : k0 = zs.length) (ho : w.ownsRow base 23 1 (.slice (some ⟨q0, 0, none⟩) k0 c0) k0 (uvals zs)) (hb : base ≤ w.heap.size) (hn : zs.length + tot bk (2 ^ k) ≤ 900000) :
    Calls Tryd.prog 22 #[.slice (some ⟨g, 0, none⟩) (2 ^ k) (2 ^ k), .slice (some ⟨q0, 0, none⟩) k0 c0] w fun r w' => ∃ q' c' kk, r = .returned (.slice (some ⟨q', 0, none⟩) kk c') ∧ kk = (zs ++ kcat bk (2 ^ k)).length ∧ w'.ownsRow base 23 1 (.slice (some ⟨q', 0, none⟩) kk c') kk (uvals (zs ++ kcat bk (2 ^ k))) ∧ KR base w w' := by
  obtain ⟨n, hnn⟩ : ∃ n, n = 2 ^ k := ⟨_, rfl⟩
  have hnb : n ≤ 1073741824 := by rw [hnn]; exact Nat.pow_le_pow_right (n := 2) (j := 30) (by decide) h30
  have HA := Lib.hid h
  have HN := Lib.hid (⟨hnn, hn⟩ : n = 2 ^ k ∧ _)
  have HS0 : Hid (w.ownsRow base 23 1 (.slice (some ⟨q0, 0, none⟩) k0 c0) k0 (uvals (zs ++ kcat bk 0)) ∧ k0 = (zs ++ kcat bk 0).length ∧ KR base w w) := Lib.hid ⟨by simpa [kcat] using ho, by simpa [kcat] using hlen, KR.refl _ _⟩
  rw [← hnn]
  clear h hnn hlen ho hn
  go_enter Tryd.func22, Tryd.ntmps22
  go_wp2_with fail
  go_loopg [1, 9] n (fun m v u wr => ∃ (i q1 k1 c1 : Nat), v = .slice (some ⟨q1, 0, none⟩) k1 c1 ∧ u = .int .i64 (i : Int) ∧ m + i = n ∧ Hid (wr.ownsRow base 23 1 (.slice (some ⟨q1, 0, none⟩) k1 c1) k1 (uvals (zs ++ kcat bk i)) ∧ k1 = (zs ++ kcat bk i).length ∧ KR base w wr))
  case atStart => exact ⟨0, q0, k0, c0, rfl, by go_num, by omega, HS0⟩
  case round =>
    obtain ⟨i, q1, k1, c1, rfl, rfl, hmi, HS⟩ := hrel
    clear HS0
    by_cases hlt : i < n
    · have hi2 : i < 2 ^ k := by have := HN.out.1; omega
      have hArr := HA.out.kr HS.out.2.2
      have hix := ix47 g i n n hlt
      have cI := hArr.row.cell hi2
      have HCH : Hid (ChainAt wr (bk i)) := Lib.hid (hArr.ch i hi2)
      obtain ⟨u0, hu0⟩ : ∃ u, hd (bk i) = u := ⟨_, rfl⟩
      rw [hu0] at cI
      have HU := Lib.hid hu0
      have hltb : decide ((i : Int) < (n : Int)) = true := by simp; omega
      have HI2 := Lib.hid hi2
      clear hu0 hArr hi2
      obtain ⟨wo, hwo⟩ : ∃ wo : World, wo = wr := ⟨_, rfl⟩
      rw [← hwo] at HS HCH cI ⊢
      clear hwo wr
      go_wp2_with fail
      go_loopg [1, 6] (bk i).length (fun m v p wr => ∃ (pre l : List Ent) (u : Option Addr) (q2 k2 c2 : Nat), v = .slice (some ⟨q2, 0, none⟩) k2 c2 ∧ p = .pointer u ∧ m = l.length ∧ Hid (hd l = u ∧ bk i = pre ++ l) ∧ Hid (wr.ownsRow base 23 1 (.slice (some ⟨q2, 0, none⟩) k2 c2) k2 (uvals (zs ++ kcat bk i ++ pre.map (·.key))) ∧ k2 = (zs ++ kcat bk i ++ pre.map (·.key)).length ∧ KR base w wr))
      case atStart => exact ⟨[], bk i, u0, q1, k1, c1, rfl, rfl, rfl, Lib.hid ⟨HU.out, rfl⟩, Lib.hid (by simpa using HS.out)⟩
      case round =>
        obtain ⟨pre, l, u, q2, k2, c2, rfl, rfl, hml, HL, HR⟩ := hrel
        have HML := Lib.hid hml
        clear hml HS cI HCH hix
        cases l with
        | nil =>
          obtain rfl : none = u := HL.out.1
          go_wp2_with fail
          go_roundg (n - (i + 1))
          case measure => omega
          case rel =>
            have e : kcat bk (i + 1) = kcat bk i ++ pre.map (·.key) := by simp only [kcat]; rw [HL.out.2]; simp
            refine ⟨i + 1, q2, k2, c2, rfl, by go_num, by omega, Lib.hid ?_⟩
            rw [e, ← List.append_assoc]; exact HR.out
        | cons x t =>
          obtain rfl : some ⟨x.blk, 0, none⟩ = u := HL.out.1
          have hch := (HA.out.kr HR.out.2.2).ch i HI2.out
          rw [HL.out.2] at hch
          have hx := chain_mid hch
          have d0 := hx.cell0
          have d2 := hx.cell2
          have HX := Lib.hid hx
          obtain ⟨u1, hu1⟩ : ∃ u, hd t = u := ⟨_, rfl⟩
          rw [hu1] at d2
          have HU1 := Lib.hid hu1
          have hk2 : k2 ≤ 1000000 := by
            have h1 := HR.out.2.1
            have h2 := HN.out.2
            have h3 := kcat_len bk i
            have h4 := tot_at (bk := bk) HI2.out
            have h5 : pre.length ≤ (bk i).length := by rw [HL.out.2]; simp
            simp only [List.length_append, List.length_map] at h1
            omega
          obtain ⟨g', cap', w1, hrun, ho1, hkr⟩ := app64 HR.out.1 hk2 (Nat.le_trans hb HR.out.2.2.size) x.key
          have d2' : w1.cell? ⟨x.blk, 2, none⟩ = some (.pointer u1) := by
            have e := hkr.block x.blk hx.lt (.inr fun c f e2 => by unfold EntAt at hx; rw [hx] at e2; cases e2)
            rw [← hu1]
            exact EntAt.cell2 (w := w1) (e := x) (e.trans hx)
          have HRun := Lib.hid hrun
          have HR2 : Hid (w1.ownsRow base 23 1 (.slice (some ⟨g', 0, none⟩) (k2 + 1) cap') (k2 + 1) (uvals (zs ++ kcat bk i ++ (pre ++ [x]).map (·.key))) ∧ k2 + 1 = (zs ++ kcat bk i ++ (pre ++ [x]).map (·.key)).length ∧ KR base w w1) := by
            refine Lib.hid ⟨?_, ?_, HR.out.2.2.trans hkr⟩
            · rw [List.map_append, ← List.append_assoc]; exact ho1
            · have := HR.out.2.1
              simp only [List.length_append, List.length_map, List.length_cons, List.length_nil] at this ⊢
              omega
          have hxl := hx.lt
          clear hrun ho1 hkr hx hch hu1 HR HX d2
          obtain ⟨xb, xk, xn⟩ := x
          dsimp only at *
          go_wp2_with (at_builtin; refine append_run rfl (.tmp 19) (.tmp 24) 34 rfl rfl rfl HRun.out ?_)
          go_roundg t.length
          case measure => rw [HML.out]; simp
          case rel => exact ⟨pre ++ [⟨xb, xk, xn⟩], t, u1, g', k2 + 1, cap', rfl, rfl, rfl, Lib.hid ⟨HU1.out, by rw [HL.out.2]; simp⟩, HR2⟩
    · obtain rfl : i = n := by omega
      go_wp2
      go_ret
      refine ⟨q1, c1, k1, rfl, ?_, ?_, HS.out.2.2⟩
      · exact HS.out.2.1
      · exact HS.out.1
end
end Go.Proofs.YtnhjnciadmgkeaaDoor
