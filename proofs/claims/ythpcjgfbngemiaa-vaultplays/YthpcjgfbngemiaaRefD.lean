/-
  The document's vault: ends.
-/
import Derived.Test.YthpcjgfbngemiaaRefC
namespace Go.Proofs.Ythpcjgfbngemiaa
open Go.ChangeShapes Go.WideShapes Go.ChangeAt Go.RowKit
set_option linter.unusedVariables false
set_option maxRecDepth 100000
theorem below_grownN {w w' : World} (h : Below w.heap.size w w') : w.grownBy w' none := ⟨h.os, h.tape, h.output, h.size, fun k hk _ => h.block k hk⟩
def EndsPost (w : World) (l : List RB) (e : Ending) (w' : World) : Prop := ∃ D c' n, n = (rE l).length ∧ e = .returned (.slice D n c') ∧ w'.ownsRow w.heap.size 3 1 (.slice D n c') n (rvals ienc (rE l)) ∧ w.grownBy w' none
set_option maxHeartbeats 1000000 in
theorem rends_at {w : World} {A : Option Addr} {l : List RB} (hr : RRow w A l) (hsm : RSm l) (n c : Nat) (hn : l.length = n) (h1 : n ≤ 100000) (room packs moved : Int) :
    Calls Try.prog 45 #[refV room packs moved A n c] w (EndsPost w l) := by
  have hga := World.grownBy_alloc w (.cells #[.int .i64 room, .int .i64 packs, .int .i64 moved, .slice A n c] 30) none
  have hb := heap_alloc_new w (.cells #[.int .i64 room, .int .i64 packs, .int .i64 moved, .slice A n c] 30)
  have HR := Lib.hid hr
  have HG := Lib.hid hga
  have HB := Lib.hid hb
  have HN := Lib.hid (And.intro hn hsm)
  obtain ⟨B, HBB⟩ : ∃ B, Hid (w.heap.size = B) := ⟨_, Lib.hid rfl⟩
  unfold refV
  clear hr hga hn hb hsm
  go_enter Try.func45, Try.ntmps45
  go_wp2
  rw [HBB.out] at HB ⊢
  obtain ⟨w1, hw1⟩ : ∃ w1 : World, w1 = w.alloc (.cells #[.int .i64 room, .int .i64 packs, .int .i64 moved, .slice A n c] 30) := ⟨_, rfl⟩
  have HSZ : Hid (w1.heap.size = B + 1) := Lib.hid (by rw [hw1, ← HBB.out]; simp)
  rw [← hw1] at HG HB ⊢
  clear hw1
  have HO0 : Hid ((w1.alloc (.cells #[.int .i64 0] 3)).ownsRow w1.heap.size 3 1 (.slice (some ⟨w1.heap.size, 0, none⟩) 1 1) 1 (rvals ienc (rE (l.take 0))) ∧ Below w1.heap.size w1 (w1.alloc (.cells #[.int .i64 0] 3))) := Lib.hid ⟨⟨rfl, .inr ⟨w1.heap.size, 1, #[.int .i64 0], rfl, Nat.le_refl _, heap_alloc_new _ _, by omega, by unfold maxLen; omega, rfl, rfl⟩⟩, (Below.refl _ _).alloc (Nat.le_refl _) _⟩
  go_loopw [3, 4] (fun v i wr => ∃ (k : Nat) (D : Option Addr) (m c' : Nat), k ≤ n ∧ m = k + 1 ∧ i = .int .i64 (k : Int) ∧ v = .slice D m c' ∧ Hid (wr.ownsRow w1.heap.size 3 1 (.slice D m c') m (rvals ienc (rE (l.take k))) ∧ Below w1.heap.size w1 wr)) (fun _ i _ => n - (intOf i).toNat)
  case atStart => exact ⟨0, some ⟨w1.heap.size, 0, none⟩, 1, 1, by omega, rfl, by go_num, by rw [HSZ.out], HO0⟩
  case round =>
    obtain ⟨k, D, m, c', hk, hm, rfl, rfl, HK⟩ := hrel
    have HM := Lib.hid hm
    have hm2 : m ≤ 200000 := by omega
    clear hm
    have HG1 := Lib.hid (below_grownN HK.out.2)
    have hb2 := kept2 HB.out HG1.out
    have z3 := cell_of_head hb2 3
    clear hb2 HO0
    by_cases hlt : k < n
    · obtain ⟨x, HX⟩ : ∃ x, Hid (l[k]? = some x) := ⟨_, Lib.hid (List.getElem?_eq_getElem (by rw [HN.out.1]; exact hlt))⟩
      obtain ⟨g, off, rfl, c0, c1, c2⟩ := (HR.out.kept (grown_trans HG.out HG1.out)).some HX.out
      obtain ⟨x1, xa, xs⟩ := x
      dsimp only at c0 c1 c2
      have hxs := HN.out.2 _ (List.mem_of_getElem? HX.out)
      dsimp only at hxs
      obtain ⟨b1, b2, b3⟩ := hxs
      have HT := Lib.hid (rE_take HX.out)
      dsimp only at HT
      obtain ⟨y, hy⟩ : ∃ y : Int, y = xa + (xs.size : Int) := ⟨_, rfl⟩
      obtain ⟨D2, c3, w2, hrun, ho2, hb3⟩ := app3 y HK.out.1 HK.out.2.size (by omega)
      have hw64 : IntKind.i64.wrap (xa + (xs.size : Int)) = xa + (xs.size : Int) := by rw [IntKind.wrap_i64]; omega
      rw [hy] at hrun
      have HRun := Lib.hid hrun
      have HO2 : Hid (w2.ownsRow w1.heap.size 3 1 (.slice D2 (m + 1) c3) (m + 1) (rvals ienc (rE (l.take (k + 1)))) ∧ Below w1.heap.size w1 w2) := Lib.hid ⟨by rw [HT.out, ← hy]; exact ho2, HK.out.2.trans hb3⟩
      clear hrun ho2 hb3 hy c0
      go_wp2_with fail
      go_region_law ((refine step_append_run rfl (.tmp 13) (.tmp 28) 52 rfl rfl rfl HRun.out ?_))
      all_goals go_wp2
      all_goals go_round
      all_goals first
        | (simp only [intOf]; omega)
        | exact ⟨k + 1, D2, m + 1, c3, by omega, by rw [HM.out], by go_num, rfl, HO2⟩
    · have e : l.take k = l := by rw [List.take_of_length_le]; have := HN.out.1; omega
      have HF : Hid (EndsPost w l (.returned (.slice D m c')) wr) := Lib.hid (by
        have h2 := HK.out.1
        rw [e] at h2
        refine ⟨D, c', m, ?_, rfl, owns_base h2 HG.out.size, grown_trans HG.out HG1.out⟩
        have := h2.1
        rw [rvals_len ienc_len] at this
        omega)
      go_wp2
      go_ret
      exact HF.out
end Go.Proofs.Ythpcjgfbngemiaa
