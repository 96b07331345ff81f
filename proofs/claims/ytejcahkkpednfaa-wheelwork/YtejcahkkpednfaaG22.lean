/-
  The ring: Admit.
  The ring: Admit of a key whose page is gone.
-/
import Derived.Test.YtejcahkkpednfaaG11
import Derived.Test.YtejcahkkpednfaaG19
import Derived.Test.YtejcahkkpednfaaG18
namespace Go.Proofs.Ytejcahkkpednfaa
open Go.RowKit
open Go.Proofs.StackM (Pg Cf Ct St up many fnd fnd_at fnd_no)
open Go.Proofs.WheelM
set_option linter.unusedVariables false
theorem b76_alloc (w : World) (cs : Array Value) (h : cs.size = 21) : B76 (w.alloc (.cells cs 93)) w.heap.size cs := by
  refine ⟨?_, h⟩
  show (w.heap.push _)[w.heap.size]? = _
  simp
theorem ld76 {ops : Array Oper} {rest : List Oper} {o : Oper} {a : Act} {w : World} {Q : Exit → Act → World → Prop} (hgd : o.guard = none) (x : Operand) (ho : o.op = .load 31 x) (b : Nat) (hx : a.eval x = .pointer (some ⟨b, 0, none⟩)) (s : St) (r : R3) (A : Option Addr) (n c : Nat) (h : B76 w b (spA s r A n c))
    (hK : wpList Try.prog ops Q rest (a.put o.dst (sV s r)) w) : wpList Try.prog ops Q (o :: rest) a w :=
  wpList_load_mid hgd 31 x ho b 0 hx (sA s r).toList _ (fun j v hv => by
    rw [cell_of_row (w := w) b (0 + j) _ 93 (0, 0) h.1, Nat.zero_add, spA]
    have hj : j < (sA s r).size := by
      have := (List.getElem?_eq_some_iff.1 hv).1
      simpa using this
    rw [Array.getElem?_push_lt hj]
    have hv' : (sA s r)[j]? = some v := by simpa using hv
    rw [← hv', Array.getElem?_eq_getElem hj]) Try.underlying31 rfl (by rw [info31]; rfl) hK
theorem row76 {w : World} {b : Nat} {s : St} {r : R3} {A : Option Addr} {n c : Nat} (h : B76 w b (spA s r A n c)) : w.cell? ⟨b, 20, none⟩ = some (.slice A n c) := by
  rw [cell_of_row (w := w) b 20 _ 93 (0, 0) h.1]; rfl
theorem B76.other {w : World} {b g : Nat} {cs : Array Value} (h : B76 w b cs) (hne : g ≠ b) (ds : Array Value) : B76 (w.setRow g ds) b cs := by
  refine ⟨?_, h.2⟩
  simp only [World.setRow, Array.getElem?_modify]
  rw [if_neg hne]
  exact h.1
theorem results_s3 {fn : Func} {p u v : Tmp} (h : fn.results = #[.cell p 31, .tmp u, .tmp v]) (tmps : Array Value) (w : World) (g : Nat) (cs : Array Value)
    (hp : tmps.getD p undef = .pointer (some ⟨g, 0, none⟩)) (hg : Box w g cs) : (results fn tmps).run Try.prog w = .ok (.tuple #[.agg cs, tmps.getD u undef, tmps.getD v undef]) w := by
  have hp' : tmps[p]?.getD undef = .pointer (some ⟨g, 0, none⟩) := by simpa using hp
  simp only [results, h]
  simp [hp', asAddr, hg.load]
def S3Post (w : World) (r : R3) (s' : St) (out : List Int) (b : Bool) (e : Ending) (w' : World) : Prop :=
  ∃ r' A n cc, e = .returned (.tuple #[sV s' r', .slice A n cc, .bool b]) ∧ n = out.length ∧ SR w' s' r' ∧ UR w' A cc out ∧ (∀ a, A = some a → w.heap.size ≤ a.block) ∧ Frm w.heap.size r r' ∧ Below w.heap.size w w'
theorem st76n {ops : Array Oper} {rest : List Oper} {o : Oper} {a : Act} {w : World} {Q : Exit → Act → World → Prop} (hgd : o.guard = none) (x y : Operand) (ho : o.op = .store 93 x y) (s : St) (r : R3) (A : Option Addr) (n c : Nat) (hx : a.eval x = .pointer (some ⟨w.heap.size, 0, none⟩)) (hy : a.eval y = .agg (spA s r A n c)) (old : Array Value) (hold : old.size = 21)
    (hK : wpList Try.prog ops Q rest a (w.alloc (.cells (spA s r A n c) 93))) (hd : o.dst = none := by rfl) : wpList Try.prog ops Q (o :: rest) a (w.alloc (.cells old 93)) :=
  wpList_store_row hgd 93 x y ho w.heap.size (spA s r A n c) hx hy 93 old (by show (w.heap.push _)[w.heap.size]? = _; simp) (by rw [spA_len]; exact info76) (by rw [spA_len, hold]) (spA_one s r A n c) (by rw [World.setRow_alloc_new, hd]; exact hK)
set_option maxHeartbeats 2000000 in
set_option maxRecDepth 100000 in
theorem admit_kept (s : St) (r : R3) (k : Int) (hg : Wg s) (hk : KptW s k) (w : World) (hr : SR w s r) : Calls Try.prog 48 #[sV s r, .int .u64 k] w (S3Post w r s [] false) := by
  have x := F2.start hr
  obtain ⟨w1, hw1⟩ : ∃ w1, w1 = (w.alloc (.cells (sA s r) 31)).alloc (.cells (sA S0 R0) 31) := ⟨_, rfl⟩
  rw [← hw1] at x
  have hA : ((w.alloc (.cells (sA s r) 31)).alloc (.cells #[.int .i64 0, .int .i64 0, .int .i64 0, .int .i64 0, .int .i64 0, .slice none 0 0, .slice none 0 0, .slice none 0 0, .int .i64 0, .int .i64 0, .int .u64 0, .int .u64 0, .int .u64 0, .int .u64 0, .int .u64 0, .int .u64 0, .int .u64 0, .int .u64 0, .int .u64 0, .int .u64 0] 31)) = w1 := hw1.symm
  have HA := Lib.hid hA
  have HX := Lib.hid x
  have hlen : s.pg.length ≤ 768 := by have h1 := wg_len hg; have h2 := hg.w.ck.2.1.2; have h3 := hg.w.ck.2.2.2.2; omega
  have HL := Lib.hid (And.intro hlen hg)
  have C18 := Lib.hid (kept_at s r k (by omega) w1 x.fr.rows)
  rw [decide_eq_true hk] at C18
  clear x hw1 hA hlen hr hg
  clear hk
  show Calls Try.prog 48 #[sV s r, .int .u64 k] w fun e w' => S3Post w r s [] false e w'
  go_enter Try.func48, Try.ntmps48
  go_wp2_with (first | fail | (rw [HA.out]; refine ld31 rfl (.tmp 2) rfl _ rfl _ HX.out.fr.box ?_))
  refine C18.out.mono ?_
  rintro e w2 ⟨rfl, hb2⟩
  have H2 := Lib.hid (HX.out.keep hb2)
  clear hb2 HX HA C18
  go_wp2_with (first | fail | refine ld31 rfl (.tmp 2) rfl _ rfl _ H2.out.fr.box ?_ | refine st31 rfl (.tmp 4) (.tmp 12) rfl _ _ _ rfl rfl _ H2.out.res ?_)
  refine bodyPost_ret (results_s3 rfl _ _ _ _ rfl (H2.out.res.rowSet (sA_len _ _))) rfl ?_
  exact ⟨r, none, 0, 0, rfl, rfl, sr_row H2.out.fr.rows H2.out.fr.frm H2.out.fr.old (Nat.le_succ _) (by omega) _, ⟨.inl ⟨rfl, rfl, rfl⟩, fun a e => (by cases e), Nat.le_refl _⟩, fun a e => (by cases e), H2.out.fr.frm.weak (by omega), below_setRow H2.out.fr.bel (Nat.le_succ _)⟩
set_option maxHeartbeats 4000000 in
set_option maxRecDepth 100000 in
theorem admit_new (s : St) (r : R3) (k : Int) (hg : Wg s) (hk : ¬ KptW s k) (hf : fnd s.pg k = none) (w : World) (hr : SR w s r) : Calls Try.prog 48 #[sV s r, .int .u64 k] w (S3Post w r (admitW s k) (admOutW s k) true) := by
  have x := F2.start hr
  obtain ⟨w1, hw1⟩ : ∃ w1, w1 = (w.alloc (.cells (sA s r) 31)).alloc (.cells (sA S0 R0) 31) := ⟨_, rfl⟩
  rw [← hw1] at x
  have hA : ((w.alloc (.cells (sA s r) 31)).alloc (.cells #[.int .i64 0, .int .i64 0, .int .i64 0, .int .i64 0, .int .i64 0, .slice none 0 0, .slice none 0 0, .slice none 0 0, .int .i64 0, .int .i64 0, .int .u64 0, .int .u64 0, .int .u64 0, .int .u64 0, .int .u64 0, .int .u64 0, .int .u64 0, .int .u64 0, .int .u64 0, .int .u64 0] 31)) = w1 := hw1.symm
  have HA := Lib.hid hA
  have HX := Lib.hid x
  have hlen : s.pg.length ≤ 768 := by have h1 := wg_len hg; have h2 := hg.w.ck.2.1.2; have h3 := hg.w.ck.2.2.2.2; omega
  have HL := Lib.hid (And.intro hlen hg)
  have C18 := Lib.hid (kept_at s r k (by omega) w1 x.fr.rows)
  rw [decide_eq_false hk] at C18
  clear x hw1 hA hlen hr hg
  have HKN := Lib.hid hk
  have HG0 := Lib.hid hf
  have g1 : fi s.pg k = -1 := by unfold fi; rw [hf]
  have HP : Hid (admA s k = misW s) := Lib.hid (by unfold admA; rw [hf])
  clear hk hf
  show Calls Try.prog 48 #[sV s r, .int .u64 k] w fun e w' => S3Post w r (admitW s k) (admOutW s k) true e w'
  go_enter Try.func48, Try.ntmps48
  go_wp2_with (first | fail | (rw [HA.out]; refine ld31 rfl (.tmp 2) rfl _ rfl _ HX.out.fr.box ?_))
  refine C18.out.mono ?_
  rintro e w2 ⟨rfl, hb2⟩
  have x2 := HX.out.keep hb2
  have y2 := x2.cellset (x2.fr.setMi (up s.ct.mi))
  have d11 := at11 x2.fr.box
  have f11 := x2.fr.box.free 11
  have hup := wrap_up s.ct.mi
  have d5 := at5 x2.fr.box
  obtain ⟨w3, hw3⟩ : ∃ w3, w3 = w2.setCell ⟨w.heap.size, 11, none⟩ (.int .u64 (up s.ct.mi)) := ⟨_, rfl⟩
  rw [← hw3] at y2
  have H3 : Hid (F2 w r w3 (misW s) r) := Lib.hid y2
  have HW3 := Lib.hid hw3
  have C39 := find_at s.pg k r.a1 s.pg.length r.c1 rfl (by have := HL.out.1; omega) w3 y2.fr.rows.pg.row
  rw [g1] at C39
  have HC39 := Lib.hid C39
  clear x2 y2 hb2 HX HA C18 hw3 C39 g1
  go_wp2_with fail
  rw [← HW3.out]
  refine HC39.out.mono ?_
  rintro e w4 ⟨rfl, h4⟩
  subst h4
  clear HC39 d5 d11 f11 hup HW3
  have y7 : F2 w r w4 (admA s k) r := by rw [show admA s k = misW s from HP.out]; exact H3.out
  clear H3
  obtain ⟨c, hc⟩ : ∃ c, c = s.cf.c := ⟨_, rfl⟩
  have hcb : 2 ≤ c ∧ c ≤ 256 := by rw [hc]; exact HL.out.2.w.ck.2.1
  obtain ⟨hcb1, hcb2⟩ := hcb
  obtain ⟨a1, a2, a3, a4, a5, a6, a7⟩ := admA_ok HL.out.2 HKN.out
  have d1 := at1 y7.fr.box
  rw [a3, ← hc] at d1
  have hal : (admA s k).pg.length ≤ 999 := by have := HL.out.1; omega
  have cS := spill_at (admA s k) r (s.cf.c - 1) (by rw [← hc]; omega) a1 a2 (by rw [a3]; exact Int.le_refl _) hal w4 y7.fr.rows
  have sp := spill_sp (most := s.cf.c - 1) a1 a2 (by rw [a3]; exact Int.le_refl _)
  obtain ⟨b1, b2, b3, b4, b5, b6, b7⟩ := admC_ok HL.out.2 HKN.out
  have hs2 : (admB s k).1 = (spillW (s.cf.c - 1) (admA s k)).1 := rfl
  have ho2 : (admB s k).2 = (spillW (s.cf.c - 1) (admA s k)).2 := rfl
  rw [← hs2, ← ho2] at cS
  rw [← hs2] at sp
  have hC : admC s k = expire (admB s k).1 := rfl
  obtain ⟨s2, hs2⟩ : ∃ x, x = (admB s k).1 := ⟨_, rfl⟩
  obtain ⟨out, hout⟩ : ∃ x, x = (admB s k).2 := ⟨_, rfl⟩
  obtain ⟨s3, hs3⟩ : ∃ x, x = admC s k := ⟨_, rfl⟩
  rw [← hs2, ← hout, ← hc] at cS
  rw [← hs2] at sp hC
  rw [← hs3] at b1 b2 b3 b4 b5 b6 b7 hC
  have HE2 := Lib.hid (And.intro hout hs3)
  have HB3 := Lib.hid (And.intro b1 (And.intro (show s3.pg.length ≤ 768 from Nat.le_trans b5 HL.out.1) b4))
  have hs2l : s2.pg.length ≤ 1000 := by have h8 := sp.n; have h9 := hal; omega
  have cE := Lib.hid (fun V r2 h => expire_at s2 r2 sp.w hs2l V h)
  rw [← hC] at cE
  have HCS := Lib.hid cS
  have H7 := Lib.hid y7
  clear y7 a1 a2 a3 a4 a5 a6 a7 hal cS sp b1 b2 b3 b4 b5 b6 b7 hs2 ho2 hC hout hs3 hs2l hc
  go_wp2_with (first | fail | refine ld31 rfl (.tmp 2) rfl _ rfl _ H7.out.fr.box ?_)
  refine HCS.out.mono ?_
  rintro e w9 ⟨r4, A1, n, cc, rfl, hn4, hr4, hu4, hA4, hf4, hb4⟩
  obtain ⟨w10, hw10⟩ : ∃ w10, w10 = w9.alloc (.cells (spA s2 r4 A1 n cc) 93) := ⟨_, rfl⟩
  have hb5 : Below w9.heap.size w9 w10 := by rw [hw10]; exact alloc_below _ _
  have x10 := (H7.out.keep hb4).keep hb5
  have b10 : B76 w10 w9.heap.size (spA s2 r4 A1 n cc) := by rw [hw10]; exact b76_alloc w9 _ rfl
  have f10 := H7.out.fr.told hr4 hf4
  have hlo : w.heap.size + 2 ≤ w9.heap.size := (H7.out.keep hb4).fr.hi
  have hA4' : ∀ a, A1 = some a → w.heap.size + 2 ≤ a.block := fun a e => Nat.le_trans H7.out.fr.hi (hA4 a e)
  have H10 := Lib.hid (And.intro x10 (And.intro b10 (And.intro (hr4.kept hb5) (And.intro (hu4.kept hb5) (And.intro f10 (And.intro hlo (And.intro hA4' hn4)))))))
  have HW10 := Lib.hid hw10
  clear hw10 hb5 x10 b10 f10 hlo hA4' hn4 hr4 hu4 hA4 hf4 hb4 H7 HCS d1
  go_wp2_with (first | fail | (refine st76n rfl (.tmp 8) (.tmp 35) rfl s2 r4 A1 n cc rfl rfl _ rfl ?_; rw [← HW10.out]) | refine ld76 rfl (.tmp 36) rfl _ rfl s2 r4 A1 n cc H10.out.2.1 ?_)
  refine (cE.out w10 r4 H10.out.2.2.1).mono ?_
  rintro e w11 ⟨r5, rfl, hr5, hf5, hb5⟩
  have x11 := H10.out.1.keep hb5
  have f11 := H10.out.1.grow H10.out.2.2.2.2.1 hf5
  have y11 := x11.setAll hr5 f11
  have b11 := (H10.out.2.1.kept hb5 H10.out.2.1.lt).other (g := w.heap.size) (by have := H10.out.2.2.2.2.2.1; omega) (sA s3 r5)
  have u5 := H10.out.2.2.2.1.kept hb5
  have u11 : UR (w11.setRow w.heap.size (sA s3 r5)) A1 cc out := ⟨vrow_row u5.row (fun a e => by have := H10.out.2.2.2.2.2.2.1 a e; omega), fun a e => by rw [size_setRow]; exact u5.lt a e, u5.le⟩
  obtain ⟨w12, hw12⟩ : ∃ w12, w12 = w11.setRow w.heap.size (sA s3 r5) := ⟨_, rfl⟩
  rw [← hw12] at y11 b11 u11
  have HBX2 := Lib.hid x11.fr.box
  have HW12 := Lib.hid hw12
  have HF := Lib.hid (And.intro H10.out.2.2.2.2.2.1 H10.out.2.2.2.2.2.2)
  have cH : ∀ V r1, SR V s3 r1 → Calls Try.prog 74 #[sV s3 r1, .agg #[.int .u64 k, .int .i64 2, .bool true, .bool false]] V (SPost V r1 (head s3 ⟨k, 2, true, false⟩)) := fun V r1 h => head_at s3 r1 ⟨k, 2, true, false⟩ (by have := HB3.out.2.1; omega) V h
  obtain ⟨Y, hY⟩ : ∃ x, x = head s3 ⟨k, 2, true, false⟩ := ⟨_, rfl⟩
  rw [← hY] at cH
  have HT : Hid (admitW s k = Y ∧ admOutW s k = out) := Lib.hid ⟨by unfold admitW; rw [if_neg HKN.out, HG0.out]; dsimp only; rw [← HE2.out.2, hY], by unfold admOutW; rw [if_neg HKN.out]; exact HE2.out.1.symm⟩
  have HH := Lib.hid cH
  have HZ := Lib.hid (And.intro y11 (And.intro b11 u11))
  clear x11 f11 y11 b11 u5 u11 hw12 cH hY hr5 hf5 hb5 H10 cE HW10
  go_wp2_with (first | fail | (refine st31 rfl (.tmp 2) (.tmp 38) rfl _ _ _ rfl rfl _ HBX2.out ?_; rw [← HW12.out]))
  clear HBX2 HW12
  refine wp_region_held_drew (S := fun V => Box V w.heap.size (sA s3 r5) ∧ B76 V w9.heap.size (spA s2 r4 A1 n cc)) (by kernel_rfl) ⟨(HZ.out.1.keep (below_drew (Below.refl _ _) 1)).fr.box, HZ.out.2.1.kept (below_drew (Below.refl _ _) 1) HZ.out.2.1.lt⟩ (fun hHeld => ?_)
  have hB0 : Below w12.heap.size w12 w12.drew := below_drew (Below.refl _ _) 1
  generalize w12.drew = wd at hB0 hHeld ⊢
  refine wpAnyH_take (i := 0) (v := ?tval1) rfl (by kernel_rfl) (by kernel_rfl) (by kernel_rfl) (fun _ _ _ h => h) (Or.inl ⟨by rfl, ?teq1⟩) (by assumption) ?trest1
  case teq1 => (intro w0 q; refine exec31 (.tmp 2) ?_ ?_ q.1 <;> rfl)
  try simp only [put_laws]
  refine wpAnyH_take (i := 1) (v := ?tval2) rfl (by kernel_rfl) (by kernel_rfl) (by kernel_rfl) (fun _ _ _ h => h) (Or.inl ⟨by rfl, ?teq2⟩) (by assumption) ?trest2
  case teq2 => (intro w0 _; go_simp; with_reducible rfl)
  try simp only [put_laws]
  refine wpAnyH_take (i := 2) (v := ?tval3) rfl (by kernel_rfl) (by kernel_rfl) (by kernel_rfl) (fun _ _ _ h => h) (Or.inl ⟨by rfl, ?teq3⟩) (by assumption) ?trest3
  case teq3 => (intro w0 _; go_simp; with_reducible rfl)
  try simp only [put_laws]
  refine wpAnyH_take (i := 4) (v := ?tval4) rfl (by kernel_rfl) (by kernel_rfl) (by kernel_rfl) (fun _ _ _ h => h) (Or.inl ⟨by rfl, ?teq4⟩) (by assumption) ?trest4
  case teq4 => (intro w0 _; go_simp; with_reducible rfl)
  try simp only [put_laws]
  refine wpAnyH_take (i := 5) (v := ?tval5) rfl (by kernel_rfl) (by kernel_rfl) (by kernel_rfl) (fun _ _ _ h => h) (Or.inl ⟨by rfl, ?teq5⟩) (by assumption) ?trest5
  case teq5 => (intro w0 q; have h0 := row76 q.2; go_simp; with_reducible rfl)
  try simp only [put_laws]
  refine wpAnyH_ready (rs := [3]) (by kernel_rfl) (by simp) ?_
  refine AllReadyH.cons rfl (fun K hK => ?_) AllReadyH.nil
  go_simp
  refine (HH.out wd r5 (HZ.out.1.keep hB0).fr.rows).mono ?_
  rintro e wg ⟨r6, rfl, hr6, hf6, hb6⟩
  have hb6 : Below (World.heap wd).size wd wg := hb6
  have hf6 : Frm (World.heap wd).size r5 r6 := hf6
  go_wp2_with fail
  have hB1 : Below w12.heap.size w12 wg := hB0.trans (hb6.mono hB0.size)
  refine hK.out _ _ ⟨(HZ.out.1.keep hB1).fr.box, HZ.out.2.1.kept hB1 HZ.out.2.1.lt⟩ (fun hHeld => ?_)
  clear hK K
  try simp only [put_laws]
  refine wpAnyH_ready (rs := [6]) (by kernel_rfl) (by simp) ?_
  refine AllReadyH.cons rfl (fun K hK => ?_) AllReadyH.nil
  have H19 := Lib.hid (And.intro (HZ.out.1.keep hB1) (And.intro hr6 (And.intro (HZ.out.1.fr.frm.trans (hf6.weak hB0.size) HZ.out.1.fr.hi) (HZ.out.2.2.kept hB1))))
  refine step31 rfl (.tmp 4) (.tmp 44) rfl _ Y r6 rfl rfl _ H19.out.1.res ?_
  refine hK.out _ _ ⟨(HZ.out.1.keep hB1).fr.box.other (by omega) _, (HZ.out.2.1.kept hB1 HZ.out.2.1.lt).other (by have := HF.out.1; omega) _⟩ (fun hHeld => ?_)
  clear hK K
  try simp only [put_laws]
  refine wpAnyH_ready (rs := [7]) (by kernel_rfl) (by simp) ?_
  refine AllReadyH.cons rfl (fun K hK => ?_) AllReadyH.nil
  go_simp
  refine hK.out _ _ hHeld (fun hHeld => ?_)
  clear hK K
  try simp only [put_laws]
  refine wpAnyH_ready (rs := [8]) (by kernel_rfl) (by simp) ?_
  refine AllReadyH.cons rfl (fun K hK => ?_) AllReadyH.nil
  go_simp
  refine hK.out _ _ hHeld (fun hHeld => ?_)
  clear hK K
  try simp only [put_laws]
  refine wpAnyH_done (by kernel_rfl) ?_ _
  go_wp2_with fail
  refine bodyPost_ret (results_s3 rfl _ _ _ _ rfl (H19.out.1.res.rowSet (sA_len _ _))) rfl ?_
  rw [HT.out.1, HT.out.2]
  exact ⟨r6, A1, n, cc, rfl, HF.out.2.2, sr_row H19.out.2.1 H19.out.2.2.1 H19.out.1.fr.old (Nat.le_succ _) (by omega) _, ⟨vrow_row H19.out.2.2.2.row (fun a e => by have := HF.out.2.1 a e; omega), fun a e => by rw [size_setRow]; exact H19.out.2.2.2.lt a e, H19.out.2.2.2.le⟩, fun a e => by have := HF.out.2.1 a e; omega, H19.out.2.2.1.weak (by omega), below_setRow H19.out.1.fr.bel (Nat.le_succ _)⟩
end Go.Proofs.Ytejcahkkpednfaa
namespace Go.Proofs.Ytejcahkkpednfaa
open Go.RowKit
open Go.Proofs.StackM (Pg Cf Ct St up many fnd fnd_at fnd_no)
open Go.Proofs.WheelM
set_option linter.unusedVariables false
set_option maxHeartbeats 4000000 in
set_option maxRecDepth 100000 in
theorem admit_gone (s : St) (r : R3) (k : Int) (hg : Wg s) (hk : ¬ KptW s k) (i : Nat) (hf : fnd s.pg k = some i) (w : World) (hr : SR w s r) : Calls Try.prog 48 #[sV s r, .int .u64 k] w (S3Post w r (admitW s k) (admOutW s k) true) := by
  have x := F2.start hr
  obtain ⟨w1, hw1⟩ : ∃ w1, w1 = (w.alloc (.cells (sA s r) 31)).alloc (.cells (sA S0 R0) 31) := ⟨_, rfl⟩
  rw [← hw1] at x
  have hA : ((w.alloc (.cells (sA s r) 31)).alloc (.cells #[.int .i64 0, .int .i64 0, .int .i64 0, .int .i64 0, .int .i64 0, .slice none 0 0, .slice none 0 0, .slice none 0 0, .int .i64 0, .int .i64 0, .int .u64 0, .int .u64 0, .int .u64 0, .int .u64 0, .int .u64 0, .int .u64 0, .int .u64 0, .int .u64 0, .int .u64 0, .int .u64 0] 31)) = w1 := hw1.symm
  have HA := Lib.hid hA
  have HX := Lib.hid x
  have hlen : s.pg.length ≤ 768 := by have h1 := wg_len hg; have h2 := hg.w.ck.2.1.2; have h3 := hg.w.ck.2.2.2.2; omega
  have HL := Lib.hid (And.intro hlen hg)
  have C18 := Lib.hid (kept_at s r k (by omega) w1 x.fr.rows)
  rw [decide_eq_false hk] at C18
  clear x hw1 hA hlen hr hg
  have HKN := Lib.hid hk
  have HG0 := Lib.hid hf
  have g1 : fi s.pg k = (i : Int) := by unfold fi; rw [hf]
  have z0 : (0 : Int) ≤ (i : Int) := by omega
  have hi : i < s.pg.length := by obtain ⟨h, _⟩ := fnd_at hf; exact h
  have hww : Ww (rises (leave (misW s) i)) := ((HL.out.2.w.setc (misW s).ct).leave hi).rises
  have hwl : (rises (leave (misW s) i)).pg.length ≤ 1000 := by rw [rises_pg]; show (s.pg.eraseIdx i).length ≤ 1000; have := List.length_eraseIdx_le s.pg i; have := HL.out.1; omega
  have HP : Hid (i < s.pg.length ∧ Ww (rises (leave (misW s) i)) ∧ (rises (leave (misW s) i)).pg.length ≤ 1000 ∧ admA s k = cool (rises (leave (misW s) i))) := Lib.hid ⟨hi, hww, hwl, by unfold admA; rw [hf]⟩
  clear hk hf hi hww hwl
  show Calls Try.prog 48 #[sV s r, .int .u64 k] w fun e w' => S3Post w r (admitW s k) (admOutW s k) true e w'
  go_enter Try.func48, Try.ntmps48
  go_wp2_with (first | fail | (rw [HA.out]; refine ld31 rfl (.tmp 2) rfl _ rfl _ HX.out.fr.box ?_))
  refine C18.out.mono ?_
  rintro e w2 ⟨rfl, hb2⟩
  have x2 := HX.out.keep hb2
  have y2 := x2.cellset (x2.fr.setMi (up s.ct.mi))
  have d11 := at11 x2.fr.box
  have f11 := x2.fr.box.free 11
  have hup := wrap_up s.ct.mi
  have d5 := at5 x2.fr.box
  obtain ⟨w3, hw3⟩ : ∃ w3, w3 = w2.setCell ⟨w.heap.size, 11, none⟩ (.int .u64 (up s.ct.mi)) := ⟨_, rfl⟩
  rw [← hw3] at y2
  have H3 : Hid (F2 w r w3 (misW s) r) := Lib.hid y2
  have HW3 := Lib.hid hw3
  have C39 := find_at s.pg k r.a1 s.pg.length r.c1 rfl (by have := HL.out.1; omega) w3 y2.fr.rows.pg.row
  rw [g1] at C39
  have HC39 := Lib.hid C39
  clear x2 y2 hb2 HX HA C18 hw3 C39 g1
  go_wp2_with fail
  rw [← HW3.out]
  refine HC39.out.mono ?_
  rintro e w4 ⟨rfl, h4⟩
  subst h4
  clear HC39 d5 d11 f11 hup HW3
  go_wp2_with (first | fail | refine ld31 rfl (.tmp 2) rfl _ rfl _ H3.out.fr.box ?_)
  refine (leave_at (misW s) r i HP.out.1 (by have := HL.out.1; show s.pg.length ≤ 1000; omega) HL.out.2.w.hc HL.out.2.w.ht w4 H3.out.fr.rows).mono ?_
  rintro e w5 ⟨r1, rfl, hr1, hf1, hb1⟩
  have H5 := Lib.hid (And.intro (H3.out.keep hb1) (And.intro hr1 (H3.out.fr.told hr1 hf1)))
  clear hr1 hf1 hb1 H3
  go_wp2_with fail
  refine (rises_at (leave (misW s) i) r1 (by have := HL.out.2.w.ck.2.1.2; show s.cf.c ≤ 1000; omega) HL.out.2.w.tg w5 H5.out.2.1).mono ?_
  rintro e w6 ⟨r2, rfl, hr2, hf2, hb2⟩
  have H6 := Lib.hid (And.intro (H5.out.1.keep hb2) (And.intro hr2 (H5.out.1.grow H5.out.2.2 hf2)))
  clear hr2 hf2 hb2 H5
  go_wp2_with fail
  refine (cool_at (rises (leave (misW s) i)) r2 HP.out.2.1 HP.out.2.2.1 w6 H6.out.2.1).mono ?_
  rintro e w7 ⟨r3, rfl, hr3, hf3, hb3⟩
  have x7 := H6.out.1.keep hb3
  have y7 := x7.setAll hr3 (H6.out.1.grow H6.out.2.2 hf3)
  rw [← HP.out.2.2.2] at y7
  obtain ⟨w8, hw8⟩ : ∃ w8, w8 = w7.setRow w.heap.size (sA (admA s k) r3) := ⟨_, rfl⟩
  have HBX := Lib.hid x7.fr.box
  rw [← hw8] at y7
  rw [← HP.out.2.2.2]
  have HW8 := Lib.hid hw8
  clear hr3 hf3 hb3 x7 hw8 H6
  obtain ⟨c, hc⟩ : ∃ c, c = s.cf.c := ⟨_, rfl⟩
  have hcb : 2 ≤ c ∧ c ≤ 256 := by rw [hc]; exact HL.out.2.w.ck.2.1
  obtain ⟨hcb1, hcb2⟩ := hcb
  obtain ⟨a1, a2, a3, a4, a5, a6, a7⟩ := admA_ok HL.out.2 HKN.out
  have d1 := at1 y7.fr.box
  rw [a3, ← hc] at d1
  have hal : (admA s k).pg.length ≤ 999 := by have := HL.out.1; omega
  have cS := spill_at (admA s k) r3 (s.cf.c - 1) (by rw [← hc]; omega) a1 a2 (by rw [a3]; exact Int.le_refl _) hal w8 y7.fr.rows
  have sp := spill_sp (most := s.cf.c - 1) a1 a2 (by rw [a3]; exact Int.le_refl _)
  obtain ⟨b1, b2, b3, b4, b5, b6, b7⟩ := admC_ok HL.out.2 HKN.out
  have hs2 : (admB s k).1 = (spillW (s.cf.c - 1) (admA s k)).1 := rfl
  have ho2 : (admB s k).2 = (spillW (s.cf.c - 1) (admA s k)).2 := rfl
  rw [← hs2, ← ho2] at cS
  rw [← hs2] at sp
  have hC : admC s k = expire (admB s k).1 := rfl
  obtain ⟨s2, hs2⟩ : ∃ x, x = (admB s k).1 := ⟨_, rfl⟩
  obtain ⟨out, hout⟩ : ∃ x, x = (admB s k).2 := ⟨_, rfl⟩
  obtain ⟨s3, hs3⟩ : ∃ x, x = admC s k := ⟨_, rfl⟩
  rw [← hs2, ← hout, ← hc] at cS
  rw [← hs2] at sp hC
  rw [← hs3] at b1 b2 b3 b4 b5 b6 b7 hC
  have HE2 := Lib.hid (And.intro hout hs3)
  have HB3 := Lib.hid (And.intro b1 (And.intro (show s3.pg.length ≤ 768 from Nat.le_trans b5 HL.out.1) b4))
  have hs2l : s2.pg.length ≤ 1000 := by have h8 := sp.n; have h9 := hal; omega
  have cE := Lib.hid (fun V r2 h => expire_at s2 r2 sp.w hs2l V h)
  rw [← hC] at cE
  have HCS := Lib.hid cS
  have H7 := Lib.hid y7
  clear y7 a1 a2 a3 a4 a5 a6 a7 hal cS sp b1 b2 b3 b4 b5 b6 b7 hs2 ho2 hC hout hs3 hs2l hc
  go_wp2_with (first | fail | (refine st31 rfl (.tmp 2) (.tmp 29) rfl _ _ _ rfl rfl _ HBX.out ?_; rw [← HW8.out]) | refine ld31 rfl (.tmp 2) rfl _ rfl _ H7.out.fr.box ?_)
  refine HCS.out.mono ?_
  rintro e w9 ⟨r4, A1, n, cc, rfl, hn4, hr4, hu4, hA4, hf4, hb4⟩
  obtain ⟨w10, hw10⟩ : ∃ w10, w10 = w9.alloc (.cells (spA s2 r4 A1 n cc) 93) := ⟨_, rfl⟩
  have hb5 : Below w9.heap.size w9 w10 := by rw [hw10]; exact alloc_below _ _
  have x10 := (H7.out.keep hb4).keep hb5
  have b10 : B76 w10 w9.heap.size (spA s2 r4 A1 n cc) := by rw [hw10]; exact b76_alloc w9 _ rfl
  have f10 := H7.out.fr.told hr4 hf4
  have hlo : w.heap.size + 2 ≤ w9.heap.size := (H7.out.keep hb4).fr.hi
  have hA4' : ∀ a, A1 = some a → w.heap.size + 2 ≤ a.block := fun a e => Nat.le_trans H7.out.fr.hi (hA4 a e)
  have H10 := Lib.hid (And.intro x10 (And.intro b10 (And.intro (hr4.kept hb5) (And.intro (hu4.kept hb5) (And.intro f10 (And.intro hlo (And.intro hA4' hn4)))))))
  have HW10 := Lib.hid hw10
  clear hw10 hb5 x10 b10 f10 hlo hA4' hn4 hr4 hu4 hA4 hf4 hb4 H7 HCS d1 HW8 HBX
  go_wp2_with (first | fail | (refine st76n rfl (.tmp 8) (.tmp 35) rfl s2 r4 A1 n cc rfl rfl _ rfl ?_; rw [← HW10.out]) | refine ld76 rfl (.tmp 36) rfl _ rfl s2 r4 A1 n cc H10.out.2.1 ?_)
  refine (cE.out w10 r4 H10.out.2.2.1).mono ?_
  rintro e w11 ⟨r5, rfl, hr5, hf5, hb5⟩
  have x11 := H10.out.1.keep hb5
  have f11 := H10.out.1.grow H10.out.2.2.2.2.1 hf5
  have y11 := x11.setAll hr5 f11
  have b11 := (H10.out.2.1.kept hb5 H10.out.2.1.lt).other (g := w.heap.size) (by have := H10.out.2.2.2.2.2.1; omega) (sA s3 r5)
  have u5 := H10.out.2.2.2.1.kept hb5
  have u11 : UR (w11.setRow w.heap.size (sA s3 r5)) A1 cc out := ⟨vrow_row u5.row (fun a e => by have := H10.out.2.2.2.2.2.2.1 a e; omega), fun a e => by rw [size_setRow]; exact u5.lt a e, u5.le⟩
  obtain ⟨w12, hw12⟩ : ∃ w12, w12 = w11.setRow w.heap.size (sA s3 r5) := ⟨_, rfl⟩
  rw [← hw12] at y11 b11 u11
  have HBX2 := Lib.hid x11.fr.box
  have HW12 := Lib.hid hw12
  have HF := Lib.hid (And.intro H10.out.2.2.2.2.2.1 H10.out.2.2.2.2.2.2)
  have d12 := at12 y11.fr.box
  have f12 := y11.fr.box.free 12
  have hur := wrap_up s3.ct.ra
  have y12 := y11.cellset (y11.fr.setRa (up s3.ct.ra))
  have b12 := b11.cellOther (p := ⟨w.heap.size, 12, none⟩) (v := .int .u64 (up s3.ct.ra)) (by have := HF.out.1; show w9.heap.size ≠ w.heap.size; omega)
  have u12 : UR (w12.setCell ⟨w.heap.size, 12, none⟩ (.int .u64 (up s3.ct.ra))) A1 cc out := ⟨vrow_set u11.row (fun a e => by have := HF.out.2.1 a e; omega), fun a e => by simpa [World.setCell] using u11.lt a e, u11.le⟩
  obtain ⟨w13, hw13⟩ : ∃ w13, w13 = w12.setCell ⟨w.heap.size, 12, none⟩ (.int .u64 (up s3.ct.ra)) := ⟨_, rfl⟩
  rw [← hw13] at y12 b12 u12
  have HW13 := Lib.hid hw13
  have hws : Ww (head (raW s3) ⟨k, 1, false, false⟩) := (HB3.out.1.setc (raW s3).ct).head (head_nd HB3.out.1 HB3.out.2.2) (.inl ⟨rfl, rfl⟩)
  have hls : (head (raW s3) ⟨k, 1, false, false⟩).pg.length ≤ 1000 := by show (s3.pg ++ [_]).length ≤ 1000; rw [List.length_append]; have := HB3.out.2.1; simp; omega
  have cH : ∀ V r1, SR V (raW s3) r1 → Calls Try.prog 74 #[sV (raW s3) r1, .agg #[.int .u64 k, .int .i64 1, .bool false, .bool false]] V (SPost V r1 (head (raW s3) ⟨k, 1, false, false⟩)) := fun V r1 h => head_at (raW s3) r1 ⟨k, 1, false, false⟩ (by have := HB3.out.2.1; show s3.pg.length ≤ 1000; omega) V h
  have cC : ∀ V r1, SR V (head (raW s3) ⟨k, 1, false, false⟩) r1 → Calls Try.prog 70 #[sV (head (raW s3) ⟨k, 1, false, false⟩) r1] V (SPost V r1 (cool (head (raW s3) ⟨k, 1, false, false⟩))) := fun V r1 h => cool_at _ r1 hws hls V h
  obtain ⟨X, hX⟩ : ∃ x, x = head (raW s3) ⟨k, 1, false, false⟩ := ⟨_, rfl⟩
  obtain ⟨Y, hY⟩ : ∃ x, x = cool X := ⟨_, rfl⟩
  rw [← hX] at cH cC
  rw [← hY] at cC
  obtain ⟨R, hR⟩ : ∃ x, x = raW s3 := ⟨_, rfl⟩
  have y12 : F2 w r w13 R r5 := by rw [hR]; exact y12
  rw [← hR] at cH
  have HT : Hid (admitW s k = Y ∧ admOutW s k = out) := Lib.hid ⟨by unfold admitW; rw [if_neg HKN.out, HG0.out]; dsimp only; rw [← HE2.out.2, hY, hX], by unfold admOutW; rw [if_neg HKN.out]; exact HE2.out.1.symm⟩
  have HH := Lib.hid cH
  have HCo := Lib.hid cC
  have HZ := Lib.hid (And.intro y12 (And.intro b12 u12))
  clear x11 f11 y11 b11 u5 u11 hw12 y12 b12 u12 hw13 hws hls cH cC hX hY hR hr5 hf5 hb5 H10 cE HW10
  go_wp2_with (first | fail | (refine st31 rfl (.tmp 2) (.tmp 38) rfl _ _ _ rfl rfl _ HBX2.out ?_; rw [← HW12.out]))
  rw [← HW13.out]
  clear d12 f12 hur HBX2 HW12 HW13
  refine wp_region_held_drew (S := fun V => Box V w.heap.size (sA R r5) ∧ B76 V w9.heap.size (spA s2 r4 A1 n cc)) (by kernel_rfl) ⟨(HZ.out.1.keep (below_drew (Below.refl _ _) 1)).fr.box, HZ.out.2.1.kept (below_drew (Below.refl _ _) 1) HZ.out.2.1.lt⟩ (fun hHeld => ?_)
  have hB0 : Below w13.heap.size w13 w13.drew := below_drew (Below.refl _ _) 1
  generalize w13.drew = wd at hB0 hHeld ⊢
  refine wpAnyH_take (i := 0) (v := ?tval6) rfl (by kernel_rfl) (by kernel_rfl) (by kernel_rfl) (fun _ _ _ h => h) (Or.inl ⟨by rfl, ?teq6⟩) (by assumption) ?trest6
  case teq6 => (intro w0 q; refine exec31 (.tmp 2) ?_ ?_ q.1 <;> rfl)
  try simp only [put_laws]
  refine wpAnyH_take (i := 1) (v := ?tval7) rfl (by kernel_rfl) (by kernel_rfl) (by kernel_rfl) (fun _ _ _ h => h) (Or.inl ⟨by rfl, ?teq7⟩) (by assumption) ?trest7
  case teq7 => (intro w0 _; go_simp; with_reducible rfl)
  try simp only [put_laws]
  refine wpAnyH_take (i := 2) (v := ?tval8) rfl (by kernel_rfl) (by kernel_rfl) (by kernel_rfl) (fun _ _ _ h => h) (Or.inl ⟨by rfl, ?teq8⟩) (by assumption) ?trest8
  case teq8 => (intro w0 _; go_simp; with_reducible rfl)
  try simp only [put_laws]
  refine wpAnyH_take (i := 5) (v := ?tval9) rfl (by kernel_rfl) (by kernel_rfl) (by kernel_rfl) (fun _ _ _ h => h) (Or.inl ⟨by rfl, ?teq9⟩) (by assumption) ?trest9
  case teq9 => (intro w0 _; go_simp; with_reducible rfl)
  try simp only [put_laws]
  refine wpAnyH_take (i := 6) (v := ?tval10) rfl (by kernel_rfl) (by kernel_rfl) (by kernel_rfl) (fun _ _ _ h => h) (Or.inl ⟨by rfl, ?teq10⟩) (by assumption) ?trest10
  case teq10 => (intro w0 q; have h0 := row76 q.2; go_simp; with_reducible rfl)
  try simp only [put_laws]
  refine wpAnyH_ready (rs := [3]) (by kernel_rfl) (by simp) ?_
  refine AllReadyH.cons rfl (fun K hK => ?_) AllReadyH.nil
  go_simp
  refine (HH.out wd r5 (HZ.out.1.keep hB0).fr.rows).mono ?_
  rintro e wg ⟨r6, rfl, hr6, hf6, hb6⟩
  have hb6 : Below (World.heap wd).size wd wg := hb6
  have hf6 : Frm (World.heap wd).size r5 r6 := hf6
  go_wp2_with fail
  have hB1 : Below w13.heap.size w13 wg := hB0.trans (hb6.mono hB0.size)
  refine hK.out _ _ ⟨(HZ.out.1.keep hB1).fr.box, HZ.out.2.1.kept hB1 HZ.out.2.1.lt⟩ (fun hHeld => ?_)
  clear hK K
  try simp only [put_laws]
  refine wpAnyH_ready (rs := [4]) (by kernel_rfl) (by simp) ?_
  refine AllReadyH.cons rfl (fun K hK => ?_) AllReadyH.nil
  go_simp
  refine (HCo.out wg r6 hr6).mono ?_
  rintro e wh ⟨r7, rfl, hr7, hf7, hb7⟩
  have hb7 : Below (World.heap wg).size wg wh := hb7
  have hf7 : Frm (World.heap wg).size r6 r7 := hf7
  go_wp2_with fail
  have hB2 : Below w13.heap.size w13 wh := hB1.trans (hb7.mono hB1.size)
  refine hK.out _ _ ⟨(HZ.out.1.keep hB2).fr.box, HZ.out.2.1.kept hB2 HZ.out.2.1.lt⟩ (fun hHeld => ?_)
  clear hK K
  try simp only [put_laws]
  refine wpAnyH_ready (rs := [7]) (by kernel_rfl) (by simp) ?_
  refine AllReadyH.cons rfl (fun K hK => ?_) AllReadyH.nil
  have H19 := Lib.hid (And.intro (HZ.out.1.keep hB2) (And.intro hr7 (And.intro ((HZ.out.1.fr.frm.trans (hf6.weak hB0.size) HZ.out.1.fr.hi).trans hf7 (Nat.le_trans HZ.out.1.fr.hi hB1.size)) (HZ.out.2.2.kept hB2))))
  refine step31 rfl (.tmp 4) (.tmp 57) rfl _ Y r7 rfl rfl _ H19.out.1.res ?_
  refine hK.out _ _ ⟨(HZ.out.1.keep hB2).fr.box.other (by omega) _, (HZ.out.2.1.kept hB2 HZ.out.2.1.lt).other (by have := HF.out.1; omega) _⟩ (fun hHeld => ?_)
  clear hK K
  try simp only [put_laws]
  refine wpAnyH_ready (rs := [8]) (by kernel_rfl) (by simp) ?_
  refine AllReadyH.cons rfl (fun K hK => ?_) AllReadyH.nil
  go_simp
  refine hK.out _ _ hHeld (fun hHeld => ?_)
  clear hK K
  try simp only [put_laws]
  refine wpAnyH_ready (rs := [9]) (by kernel_rfl) (by simp) ?_
  refine AllReadyH.cons rfl (fun K hK => ?_) AllReadyH.nil
  go_simp
  refine hK.out _ _ hHeld (fun hHeld => ?_)
  clear hK K
  try simp only [put_laws]
  refine wpAnyH_done (by kernel_rfl) ?_ _
  go_wp2_with fail
  refine bodyPost_ret (results_s3 rfl _ _ _ _ rfl (H19.out.1.res.rowSet (sA_len _ _))) rfl ?_
  rw [HT.out.1, HT.out.2]
  exact ⟨r7, A1, n, cc, rfl, HF.out.2.2, sr_row H19.out.2.1 H19.out.2.2.1 H19.out.1.fr.old (Nat.le_succ _) (by omega) _, ⟨vrow_row H19.out.2.2.2.row (fun a e => by have := HF.out.2.1 a e; omega), fun a e => by rw [size_setRow]; exact H19.out.2.2.2.lt a e, H19.out.2.2.2.le⟩, fun a e => by have := HF.out.2.1 a e; omega, H19.out.2.2.1.weak (by omega), below_setRow H19.out.1.fr.bel (Nat.le_succ _)⟩
end Go.Proofs.Ytejcahkkpednfaa
