/-
  The document's vault: fits, ends.
-/
import Derived.Test.YthpcjgfbngemiaaRefB
namespace Go.Proofs.Ythpcjgfbngemiaa
open Go.ChangeShapes Go.WideShapes Go.ChangeAt Go.RowKit
set_option linter.unusedVariables false
set_option maxRecDepth 100000
/-- places and lengths are small -/
def RSm (l : List RB) : Prop := ∀ x ∈ l, 0 ≤ x.2.1 ∧ x.2.1 ≤ 10000000 ∧ x.2.2.size ≤ 10000000
/-- a block has a byte of those from a place on -/
def Clash (p m : Int) (x : RB) : Prop := 0 < x.2.2.size ∧ x.2.1 < p + m ∧ p < x.2.1 + (x.2.2.size : Int)
instance (p m : Int) (x : RB) : Decidable (Clash p m x) := inferInstanceAs (Decidable (_ ∧ _))
def rFit (room : Int) (l : List RB) (p m : Int) : Bool := decide (p + m ≤ room) && l.all fun x => !decide (Clash p m x)
set_option maxHeartbeats 400000 in
theorem rfits_at {w : World} {A : Option Addr} {l : List RB} (hr : RRow w A l) (hsm : RSm l) (n c : Nat) (hn : l.length = n) (h1 : n ≤ 100000) (room packs moved p m : Int) (hp0 : 0 ≤ p) (hp1 : p ≤ 20000000) (hm0 : 0 ≤ m) (hm1 : m ≤ 10000000) :
    Calls Try.prog 46 #[refV room packs moved A n c, .int .i64 p, .int .i64 m] w fun e w' => e = .returned (.bool (rFit room l p m)) ∧ w.grownBy w' none := by
  have hga := World.grownBy_alloc w (.cells #[.int .i64 room, .int .i64 packs, .int .i64 moved, .slice A n c] 30) none
  have hb := heap_alloc_new w (.cells #[.int .i64 room, .int .i64 packs, .int .i64 moved, .slice A n c] 30)
  have HR := Lib.hid hr
  have HG := Lib.hid hga
  have HB := Lib.hid hb
  have HN := Lib.hid (And.intro hn hsm)
  obtain ⟨B, HBB⟩ : ∃ B, Hid (w.heap.size = B) := ⟨_, Lib.hid rfl⟩
  unfold refV
  clear hr hga hn hb hsm
  by_cases hroom : room < p + m
  · have HE : Hid (rFit room l p m = false) := Lib.hid (by unfold rFit; simp; omega)
    go_enter Try.func46, Try.ntmps46
    go_wp2
    go_ret
    exact ⟨by rw [HE.out]; rfl, HG.out⟩
  · go_enter Try.func46, Try.ntmps46
    go_wp2
    rw [HBB.out] at HB ⊢
    obtain ⟨w1, hw1⟩ : ∃ w1 : World, w1 = w.alloc (.cells #[.int .i64 room, .int .i64 packs, .int .i64 moved, .slice A n c] 30) := ⟨_, rfl⟩
    rw [← hw1] at HG HB ⊢
    clear hw1
    go_loopw [7] (fun i wr => ∃ k : Nat, k ≤ n ∧ i = .int .i64 (k : Int) ∧ Hid ((∀ j y, j < k → l[j]? = some y → ¬ Clash p m y) ∧ w1.grownBy wr none)) (fun i _ => n - (intOf i).toNat)
    case atStart => exact ⟨0, by omega, by go_num, Lib.hid ⟨fun j y hj => by omega, ⟨rfl, rfl, rfl, Nat.le_refl _, fun _ _ _ => rfl⟩⟩⟩
    case round =>
      obtain ⟨k, hk, rfl, HK⟩ := hrel
      have hb2 := kept2 HB.out HK.out.2
      have z3 := cell_of_head hb2 3
      clear hb2
      by_cases hlt : k < n
      · obtain ⟨x, HX⟩ : ∃ x, Hid (l[k]? = some x) := ⟨_, Lib.hid (List.getElem?_eq_getElem (by rw [HN.out.1]; exact hlt))⟩
        obtain ⟨g, off, rfl, c0, c1, c2⟩ := (HR.out.kept (grown_trans HG.out HK.out.2)).some HX.out
        obtain ⟨x1, xa, xs⟩ := x
        dsimp only at c0 c1 c2
        have hxs := HN.out.2 _ (List.mem_of_getElem? HX.out)
        dsimp only at hxs
        obtain ⟨b1, b2, b3⟩ := hxs
        have HK2 : Hid (¬ Clash p m (x1, xa, xs) → ∀ j y, j < k + 1 → l[j]? = some y → ¬ Clash p m y) := Lib.hid (fun hnc j y hj hy => by
          by_cases e : j = k
          · subst e
            rw [HX.out] at hy
            injection hy with hy
            rw [← hy]; exact hnc
          · exact HK.out.1 j y (by omega) hy)
        have HG2 := Lib.hid (grown_trans HK.out.2 (World.grownBy_alloc wr (.cells #[.int .i64 x1, .int .i64 xa, .string xs] 63) none))
        have HC : Hid (Clash p m (x1, xa, xs) → rFit room l p m = false) := Lib.hid (fun hc => by
          unfold rFit
          rw [Bool.and_eq_false_iff]
          right
          rw [List.all_eq_false]
          exact ⟨_, List.mem_of_getElem? HX.out, by simpa using hc⟩)
        by_cases hz : 0 < xs.size
        · have hz' : (0 : Int) < (xs.size : Int) := by omega
          by_cases hl1 : xa < p + m
          · by_cases hl2 : p < xa + (xs.size : Int)
            · have HE := Lib.hid (HC.out ⟨hz, hl1, hl2⟩)
              have HGF := Lib.hid (grown_trans HG.out HG2.out)
              go_wp2
              go_ret
              exact ⟨by rw [HE.out]; rfl, HGF.out⟩
            · have HE := Lib.hid (HK2.out (fun hc => hl2 hc.2.2))
              go_wp2
              go_round
              case rel => exact ⟨k + 1, by omega, by go_num, Lib.hid ⟨HE.out, HG2.out⟩⟩
              case measure => simp only [intOf]; omega
          · have HE := Lib.hid (HK2.out (fun hc => hl1 hc.2.1))
            go_wp2
            go_round
            case rel => exact ⟨k + 1, by omega, by go_num, Lib.hid ⟨HE.out, HG2.out⟩⟩
            case measure => simp only [intOf]; omega
        · have hz' : ¬ (0 : Int) < (xs.size : Int) := by omega
          have HE := Lib.hid (HK2.out (fun hc => hz hc.1))
          go_wp2
          go_round
          case rel => exact ⟨k + 1, by omega, by go_num, Lib.hid ⟨HE.out, HG2.out⟩⟩
          case measure => simp only [intOf]; omega
      · have HE : Hid (rFit room l p m = true) := Lib.hid (by
          unfold rFit
          rw [Bool.and_eq_true, List.all_eq_true]
          refine ⟨by simp; omega, fun x hx => ?_⟩
          obtain ⟨j, hj⟩ := List.mem_iff_getElem?.1 hx
          have := (List.getElem?_eq_some_iff.1 hj).1
          have := HK.out.1 j x (by have := HN.out.1; omega) hj
          simpa using this)
        have HGF := Lib.hid (grown_trans HG.out HK.out.2)
        go_wp2
        go_ret
        exact ⟨by rw [HE.out]; rfl, HGF.out⟩
/-- where a gap may begin -/
def rE (l : List RB) : List Int := 0 :: l.map fun x => x.2.1 + (x.2.2.size : Int)
theorem rE_take {l : List RB} {k : Nat} {x : RB} (h : l[k]? = some x) : rE (l.take (k + 1)) = rE (l.take k) ++ [x.2.1 + (x.2.2.size : Int)] := by
  unfold rE
  rw [List.take_add_one, h]
  simp
theorem app3 {w : World} {base n : Nat} {v : Value} {zs : List Int} (y : Int) (ho : w.ownsRow base 3 1 v n (rvals ienc zs)) (hb : base ≤ w.heap.size) (hn : n + 1 ≤ 1000000) :
    ∃ D c' w1, (Builtin.append_ #[52, 52] 52 #[v, .slice (some ⟨w.heap.size, 0, none⟩) 1 1]).run Try.prog ((w.alloc (.cells #[.int .i64 y] 3)).drew) = .ok (.slice D (n + 1) c') w1 ∧ w1.ownsRow base 3 1 (.slice D (n + 1) c') (n + 1) (rvals ienc (zs ++ [y])) ∧ Below base w w1 := by
  obtain ⟨i0, hi0, hz0, hz1, hz2⟩ := info_parts info3
  have ho2 : ((w.alloc (.cells #[.int .i64 y] 3)).drew).ownsRow base 3 1 v n (rvals ienc zs) := ho.alloc (.cells #[.int .i64 y] 3)
  obtain ⟨v', w', hrun, h1, hg, _⟩ := run_append_own (P := Try.prog) ((w.alloc (.cells #[.int .i64 y] 3)).drew) base 52 52 3 i0 (.int .i64 0) 1 8 Try.underlying52 hi0 hz0 hz1 hz2 rfl (by decide) v n (rvals ienc zs) ho2 ⟨w.heap.size, 0, none⟩ 1 1 [.int .i64 y] rfl (fun j u hu => by
    have hj : j < 1 := (List.getElem?_eq_some_iff.1 hu).1
    obtain rfl : j = 0 := by omega
    simp at hu; subst hu
    exact cell_of_head (heap_alloc_new w (.cells #[.int .i64 y] 3)) 0) (fun u hu => by simp at hu; subst hu; rfl) (by unfold maxLen; omega) (by omega) (by show base ≤ (w.alloc _).heap.size; simp; omega)
  obtain ⟨D, c', rfl⟩ := owns_slice h1
  have e : rvals ienc (zs ++ [y]) = rvals ienc zs ++ [.int .i64 y] := by rw [rvals_append]; rfl
  exact ⟨D, c', w', hrun, by rw [e]; exact h1, (((Below.refl base w).alloc hb _).drew).trans ((Below.refl base _).grown hg (by show base ≤ (w.alloc _).heap.size; simp; omega) fun k hk => (ho2.lt k hk).1)⟩
end Go.Proofs.Ythpcjgfbngemiaa
