/-
  The law over acts: what holds between two of them.
-/
import Derived.Test.YthpcjgfbngemiaaRefK
import Derived.Test.YthpcjgfbngemiaaRefL
import Derived.Test.YthpcjgfbngemiaaRefS
import Derived.Test.YthpcjgfbngemiaaRefT
namespace Go.Proofs.Ythpcjgfbngemiaa
open Go.ChangeShapes Go.WideShapes Go.ChangeAt Go.RowKit
set_option linter.unusedVariables false
set_option maxRecDepth 100000
/-- how the vault and the document's vault stand behind k acts -/
structure XI (w W : World) (b B room k : Nat) (h : Hd) (V : Vl) (rm pk mv : Int) (A : Option Addr) (n c : Nat) (l : List RB) : Prop where
  at_ : VAt W w.heap.size b h V
  vm : VM V 0 0
  room : V.room = room
  kl : V.bk.length ≤ k
  moved : V.moved ≤ k * 1048576
  packs : V.packs ≤ k
  grown : w.grownBy W none
  box : W.heap[B]? = some (.cells #[.int .i64 rm, .int .i64 pk, .int .i64 mv, .slice A n c] 30 (0, 0))
  row : W.ownsRow w.heap.size 63 3 (.slice A n c) n (rvals renc l)
  nB : ¬ own b h B
  nA : ∀ q, (Value.slice A n c).ownBlock = some q → ¬ own b h q ∧ q ≠ B
  lo : w.heap.size ≤ B
section
variable {w W W' : World} {b B room k : Nat} {h h' : Hd} {V V' : Vl} {rm pk mv : Int} {A : Option Addr} {n c : Nat} {l : List RB}
theorem Stp.head {G : Nat} {o : Obj} (s : Stp b h h' W W') (hG : W.heap[G]? = some o) (hn : ¬ own b h G) : W'.heap[G]? = some o ∧ ¬ own b h' G :=
  ⟨(s.but.block G (Array.getElem?_eq_some_iff.1 hG).1 hn).trans hG, fun ho => (s.new G ho).elim hn (fun h2 => by have := (Array.getElem?_eq_some_iff.1 hG).1; omega)⟩
theorem XI.more (f : XI w W b B room k h V rm pk mv A n c l) (hg : W.grownBy W' none) : XI w W' b B room k h V rm pk mv A n c l :=
  ⟨f.at_.kept hg, f.vm, f.room, f.kl, f.moved, f.packs, grown_trans f.grown hg, kept2 f.box hg, own_same f.row fun k hk _ => hg.block k hk (by simp), f.nB, f.nA, f.lo⟩
theorem XI.up (f : XI w W b B room k h V rm pk mv A n c l) : XI w W b B room (k + 1) h V rm pk mv A n c l :=
  ⟨f.at_, f.vm, f.room, by have := f.kl; omega, Nat.le_trans f.moved (Nat.mul_le_mul_right _ (Nat.le_succ _)), by have := f.packs; omega, f.grown, f.box, f.row, f.nB, f.nA, f.lo⟩
theorem XI.act (f : XI w W b B room k h V rm pk mv A n c l) (hx' : VAt W' w.heap.size b h' V') (s : Stp b h h' W W') (x : Nx V V') : XI w W' b B room (k + 1) h' V' rm pk mv A n c l := by
  have h1 := x.moved; have h2 := f.moved; have h3 := f.vm.ur; have h4 := f.vm.room
  refine ⟨hx', x.vm, x.room.trans f.room, by have := x.kl; have := f.kl; omega, by omega, by have := x.packs; have := f.packs; omega, s.grown (lo := 0) f.grown fun j hj => (f.at_.own_lo hj).1, (s.head f.box f.nB).1, owns_stay f.row fun q hq => ?_, (s.head f.box f.nB).2, fun q hq => ⟨fun ho => ?_, (f.nA q hq).2⟩, f.lo⟩
  · exact s.but.block q (f.row.lt q hq).2 (f.nA q hq).1
  · rcases s.new q ho with h5 | h5
    · exact (f.nA q hq).1 h5
    · have := (f.row.lt q hq).2
      omega
/-- the document's vault is laid anew -/
theorem XI.set {rm2 pk2 mv2 : Int} {A' : Option Addr} {n' c' : Nat} {l' : List RB} (f : XI w W b B room k h V rm pk mv A n c l) (hro : W.ownsRow w.heap.size 63 3 (.slice A' n' c') n' (rvals renc l')) (hq' : ∀ q, (Value.slice A' n' c').ownBlock = some q → ¬ own b h q ∧ q ≠ B) :
    XI w ((((W.setCell ⟨B, 0, none⟩ (.int .i64 rm2)).setCell ⟨B, 1, none⟩ (.int .i64 pk2)).setCell ⟨B, 2, none⟩ (.int .i64 mv2)).setCell ⟨B, 3, none⟩ (.slice A' n' c')) b B room k h V rm2 pk2 mv2 A' n' c' l' := by
  have hB := f.lo
  have hst : ∀ q, q ≠ B → ((((W.setCell ⟨B, 0, none⟩ (.int .i64 rm2)).setCell ⟨B, 1, none⟩ (.int .i64 pk2)).setCell ⟨B, 2, none⟩ (.int .i64 mv2)).setCell ⟨B, 3, none⟩ (.slice A' n' c')).heap[q]? = W.heap[q]? := fun q hq => by
    rw [heap_setCell_other _ _ _ _ hq, heap_setCell_other _ _ _ _ hq, heap_setCell_other _ _ _ _ hq, heap_setCell_other _ _ _ _ hq]
  refine ⟨f.at_.stay fun q hq => hst q (fun e => f.nB (by rw [← e]; exact hq)), f.vm, f.room, f.kl, f.moved, f.packs, ?_, head_set (head_set (head_set (head_set f.box 0 _) 1 _) 2 _) 3 _, owns_stay hro fun q hq => hst q (hq' q hq).2, f.nB, hq', hB⟩
  exact grown_new (grown_new (grown_new (grown_new f.grown (grown_setCell _ _ _ _) hB) (grown_setCell _ _ _ _) hB) (grown_setCell _ _ _ _) hB) (grown_setCell _ _ _ _) hB
/-- .. with a row that is new behind W0 -/
theorem XI.setNew {W0 : World} {rm2 pk2 mv2 : Int} {A' : Option Addr} {n' c' : Nat} {l' : List RB} (f : XI w W0 b B room k h V rm pk mv A n c l) (hg : W0.grownBy W none) (hro : W.ownsRow W0.heap.size 63 3 (.slice A' n' c') n' (rvals renc l')) :
    XI w ((((W.setCell ⟨B, 0, none⟩ (.int .i64 rm2)).setCell ⟨B, 1, none⟩ (.int .i64 pk2)).setCell ⟨B, 2, none⟩ (.int .i64 mv2)).setCell ⟨B, 3, none⟩ (.slice A' n' c')) b B room k h V rm2 pk2 mv2 A' n' c' l' :=
  (f.more hg).set (owns_base hro f.grown.size) fun q hq => by
    have h1 := (hro.lt q hq).1
    have h3 := (Array.getElem?_eq_some_iff.1 f.box).1
    exact ⟨fun ho => by have h2 := (f.at_.own_lo ho).2; omega, fun e => by omega⟩
theorem XI.init {w1 : World} {v : Value} {r0 : Nat} (hr : r0 ≤ 1048576) (hx : VAt w1 w.heap.size w.heap.size ⟨.slice none 0 0, .slice none 0 0, .slice none 0 0, v⟩ ⟨r0, [], [], [], if r0 = 0 then [] else [(0, (r0 : Int))], 0, 0, 0⟩) (hg : w.grownBy w1 none) (hb : w.heap.size = b) (hB : w1.heap.size = B) :
    ∃ h V, XI w (w1.alloc (.cells #[.int .i64 (r0 : Int), .int .i64 0, .int .i64 0, .slice none 0 0] 30)) b B r0 0 h V (V.room : Int) (V.packs : Int) (V.moved : Int) none 0 0 [] ∧ RV V ⟨r0, 0, 0, []⟩ := by
  subst hb
  subst hB
  have hga := World.grownBy_alloc w1 (.cells #[.int .i64 (r0 : Int), .int .i64 0, .int .i64 0, .slice none 0 0] 30) none
  refine ⟨_, ⟨r0, [], [], [], if r0 = 0 then [] else [(0, (r0 : Int))], 0, 0, 0⟩, ⟨hx.kept hga, VM.new r0 hr, rfl, by simp, by simp, by simp, grown_trans hg hga, heap_alloc_new w1 _, World.ownsRow_nil _ _ _ _, fun ho => by have := (hx.own_lo ho).2; omega, fun q hq => (by cases hq), hg.size⟩, ⟨rfl, rfl, rfl, by simp [alive], List.Pairwise.nil, fun k a m hb => by simp [Blk] at hb⟩⟩
end
/-- the document's Put, whatever the case -/
theorem rput_any {W : World} {base n c m num : Nat} {A : Option Addr} {V V' : Vl} {r : Rf} {ys : List Int} (x : RV V r) (h : VM V 0 0) (hk : V.bk.length ≤ 60000) (hmv : V.moved ≤ 900000000000) (hpk : V.packs ≤ 900000000000) (R : PutR V V' num m ys) (X : PutX V V' num m ys) (hy : ys.length = m) (hby : ∀ y ∈ ys, 0 ≤ y ∧ y < 256) (hm : m ≤ 2000) (hfit : V.used + m ≤ V.room)
    (ho : W.ownsRow base 63 3 (.slice A n c) n (rvals renc r.L)) :
    ∃ r' : Rf, RV V' r' ∧ Calls Try.prog 10 #[refV (V.room : Int) (V.packs : Int) (V.moved : Int) A n c, .string (strOfNums ys)] W fun e w' => ∃ A' N c', e = .returned (.tuple #[refV (V'.room : Int) (V'.packs : Int) (V'.moved : Int) A' N c', .int .i64 (num : Int)]) ∧ w'.ownsRow W.heap.size 63 3 (.slice A' N c') N (rvals renc r'.L) ∧ W.grownBy w' none := by
  have hsz : (strOfNums ys).size = m := by rw [strOfNums_size, hy]
  have hu := x.used h
  have h6 := h.room
  have hn : n ≤ 60000 := by have := x.len; have := (owns_rrow ho).1; omega
  obtain ⟨hL, hc⟩ := x.putX h (by omega) hmv R X hy hby
  have fin : ∀ {r2 : Rf} {l2 : List RB} {at_ pk mv : Int}, RV V' r2 → r2.L = rW l2 ((num : Int), at_, strOfNums ys) → pk = (V'.packs : Int) → mv = (V'.moved : Int) → Calls Try.prog 10 #[refV (V.room : Int) (V.packs : Int) (V.moved : Int) A n c, .string (strOfNums ys)] W (RPut W (V.room : Int) pk mv r.L l2 (strOfNums ys) at_ n) →
      ∃ r' : Rf, RV V' r' ∧ Calls Try.prog 10 #[refV (V.room : Int) (V.packs : Int) (V.moved : Int) A n c, .string (strOfNums ys)] W fun e w' => ∃ A' N c', e = .returned (.tuple #[refV (V'.room : Int) (V'.packs : Int) (V'.moved : Int) A' N c', .int .i64 (num : Int)]) ∧ w'.ownsRow W.heap.size 63 3 (.slice A' N c') N (rvals renc r'.L) ∧ W.grownBy w' none := by
    intro r2 l2 at_ pk mv hv he h1 h2 hC
    refine ⟨r2, hv, hC.mono ?_⟩
    rintro e w' ⟨num2, A', c', N, hl2, hN, rfl, ho', hg'⟩
    obtain rfl := least_one hL hl2
    exact ⟨A', N, c', by rw [h1, h2, R.room], by rw [he]; exact ho', hg'⟩
  rcases hc with ⟨h0, hv⟩ | ⟨h0, ga, hb, hv⟩ | ⟨h0, hb, ga, hs2, hb2, hv⟩
  · exact fin hv rfl (by rw [← hv.packs, ← x.packs]) (by rw [← hv.moved, ← x.moved]) (rput_zero ho (x.small h) (by omega) (by omega) _ _ _ (by omega) (by omega) _ (by omega) (by omega) (by omega))
  · exact fin hv rfl (by rw [← hv.packs, ← x.packs]) (by rw [← hv.moved, ← x.moved]) (rput_gap ho (x.small h) (by omega) (by omega) _ _ _ (by omega) (by omega) _ (by omega) (by omega) (by omega) (ga : Int) (by rw [hsz]; exact hb) (by omega))
  · refine fin hv rfl ?_ ?_ (rput_pack ho (x.small h) (by omega) (by omega) _ _ _ (by omega) (by omega) _ (by omega) (by omega) (by omega) (by omega) (by omega) (by omega) (by omega) (by rw [hsz]; exact hb) rfl hs2 rfl (ga : Int) (by rw [hsz]; exact hb2))
    · rw [← hv.packs]
      show _ = ((r.packs + 1 : Nat) : Int)
      rw [x.packs]
      push_cast
      rfl
    · rw [← hv.moved]
      show _ = ((r.moved + mvR r.L 0 : Nat) : Int)
      rw [x.moved]
      push_cast
      rfl
set_option maxHeartbeats 400000 in
theorem new_no (w : World) (r : Int) (hr : r < 0 ∨ 1048576 < r) : Calls Try.prog 7 #[.int .i64 r] w fun e w' => e = .returned (.tuple #[.pointer none, .int .i64 1]) ∧ w.grownBy w' none := by
  have HG : Hid (w.grownBy w none) := Lib.hid ⟨rfl, rfl, rfl, Nat.le_refl _, fun _ _ _ => rfl⟩
  by_cases h0 : r < 0
  · go_enter Try.func7, Try.ntmps7
    go_wp2
    go_ret2
    exact ⟨rfl, HG.out⟩
  · have h1 : 1048576 < r := hr.resolve_left h0
    have h2 : ¬ r < 0 := h0
    clear hr h0
    go_enter Try.func7, Try.ntmps7
    go_wp2
    go_ret2
    exact ⟨rfl, HG.out⟩
end Go.Proofs.Ythpcjgfbngemiaa
