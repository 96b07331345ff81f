/-
  A copy of a set.
-/
import Derived.Test.YtjdapbianbikpaaDoorRows2
import Derived.Laws.AppendOwnNone
import Derived.OwnWalk
import Derived.WalkSpells
import Derived.Lib.BufferMore
namespace Go.Proofs.YtjdapbianbikpaaDoor
open Go.ChangeShapes Go.WideShapes Go.ChangeAt Go.RowKit
set_option linter.unusedVariables false

theorem copy_nil (w : World) : Calls Tryd.prog 10 #[.pointer none] w fun e w' => e = .returned (.pointer none) ∧ w = w' := by
  go_enter Tryd.func10, Tryd.ntmps10
  go_wp2
  go_ret
  exact ⟨rfl, rfl⟩

def vals (ws : List Nat) : List Value := ws.map fun n : Nat => Value.int .u64 (n : Int)
theorem vals_news {w : World} {b g cap n : Nat} {ws : List Nat} (h : SetAt w b g cap n ws) (o : Obj) : ∀ j u, (vals ws)[j]? = some u → (w.alloc o).cell? ((⟨g, 0, none⟩ : Addr).add j) = some u := by
  intro j u hj
  have hlt : j < ws.length := by
    rcases Nat.lt_or_ge j ws.length with h | h
    · exact h
    · rw [List.getElem?_eq_none (by simpa [vals] using h)] at hj; cases hj
  have hc := (World.grownBy_alloc w o none).cell (h.cell j hlt) (by simp)
  rw [Go.WideShapes.add_plain, Nat.zero_add, hc]
  unfold vals at hj
  rw [List.getElem?_map] at hj
  unfold wd
  rw [List.getElem?_eq_getElem hlt] at hj ⊢
  exact hj
theorem vals_one (ws : List Nat) : ∀ u ∈ vals ws, u.oneCell' = true := by
  intro u hu
  obtain ⟨z, _, rfl⟩ := List.mem_map.1 hu
  rfl

/-- what Clone hands back: a new row with the same words -/
def ClonePost (w : World) (ws : List Nat) (e : Ending) (w' : World) : Prop :=
  ∃ g cap, e = .returned (.slice (some ⟨g, 0, none⟩) ws.length cap) ∧ w.grownBy w' none ∧ w.heap.size ≤ g ∧ w'.ownsRow w.heap.size 51 1 (.slice (some ⟨g, 0, none⟩) ws.length cap) ws.length (vals ws)
set_option maxHeartbeats 400000 in
theorem clone_at (w : World) (b g cap n : Nat) (ws : List Nat) (h : SetAt w b g cap n ws) :
    Calls Tryd.prog 24 #[.slice (some ⟨g, 0, none⟩) ws.length cap] w (ClonePost w ws) := by
  obtain ⟨i0, hi, hz0, hz1, hz2⟩ := info_parts info51
  have HI := Lib.hid hi
  have HZ0 := Lib.hid hz0
  have HZ1 := Lib.hid hz1
  have HZ2 := Lib.hid hz2
  have H := Lib.hid h
  have hle := h.le
  have hlen := h.len
  obtain ⟨len, Hlen⟩ : ∃ len, Hid (ws.length = len) := ⟨_, Lib.hid rfl⟩
  rw [Hlen.out] at hlen ⊢
  have hl3 : len ≤ 1024 := by omega
  clear hi hz0 hz1 hz2 h hlen
  have hnl := Lib.run_eql_slice_some_nil (P := Tryd.prog) w ⟨g, 0, none⟩ len cap Tryd.underlying47
  go_enter Tryd.func24, Tryd.ntmps24
  go_wp2_with (at_builtin; refine wpList_append_own _ rfl (.tmp 5) (.tmp 6) 47 rfl w.heap.size 51 i0 (.int .u64 0) 1 8 Tryd.underlying47 HI.out HZ0.out HZ1.out HZ2.out rfl (by decide) (.slice (some ⟨w.heap.size, 0, none⟩) 0 0) 0 [] rfl (World.ownsRow_made w #[] 0 (Nat.le_refl _) (by decide) rfl) ⟨g, 0, none⟩ len cap (vals ws) rfl (by rw [show (vals ws).length = ws.length by simp [vals], Hlen.out]; omega) (vals_news H.out _) (vals_one ws) (by unfold maxLen; omega) (by omega) (by simp) ?_; intro v1 w1 hown1 hgrow1 hnn; simp only [Nat.zero_add, List.nil_append] at hown1; have B1 := Lib.hid hgrow1; have H1 := Lib.hid hown1; have HN := Lib.hid hnn; clear hown1 hgrow1 hnn)
  go_ret
  rcases H1.out.2 with ⟨hv, _⟩ | ⟨g', cap', cur, hv, hge, _⟩
  · have := (HN.out.1 hv).1; cases this
  · subst hv
    refine ⟨g', cap', by rw [Hlen.out]; rfl, ?_, hge, by rw [Hlen.out]; exact H1.out⟩
    exact grown_new (World.grownBy_alloc w _ none) B1.out (Nat.le_refl _)
end Go.Proofs.YtjdapbianbikpaaDoor
