/-
  A copy of a set has the same numbers, and lies apart.
-/
import Derived.Test.YtjdapbianbikpaaDoorCopy
import Derived.Deep.RegionHeld3
namespace Go.Proofs.YtjdapbianbikpaaDoor
open Go.ChangeShapes Go.WideShapes Go.ChangeAt Go.RowKit
set_option linter.unusedVariables false

/-- what Copy hands back -/
def CopyRaw (w : World) (n : Nat) (ws : List Nat) (e : Ending) (w' : World) : Prop :=
  ∃ b g cap w1, e = .returned (.pointer (some ⟨b, 0, none⟩)) ∧ w.grownBy w1 none ∧ w.heap.size ≤ g ∧ w1.ownsRow w.heap.size 51 1 (.slice (some ⟨g, 0, none⟩) ws.length cap) ws.length (vals ws) ∧
    b = w1.heap.size ∧ w' = w1.alloc (.cells #[.int .i64 (n : Int), .slice (some ⟨g, 0, none⟩) ws.length cap] 49)
set_option maxHeartbeats 1000000 in
theorem copy_raw (w : World) (b g cap n : Nat) (ws : List Nat) (h : SetAt w b g cap n ws) :
    Calls Tryd.prog 10 #[.pointer (some ⟨b, 0, none⟩)] w (CopyRaw w n ws) := by
  have hw := h.width
  have hr := h.row
  have H := Lib.hid h
  clear h
  go_enter Tryd.func10, Tryd.ntmps10
  go_wp2
  have hbl := H.out.blt
  have HS : Hid (SetAt w.drew b g cap n ws) := Lib.hid (H.out.drewN 1)
  go_region_held3 (fun w' => w'.cell? ⟨b, 0, none⟩ = some (.int .i64 (n : Int)) ∧ w'.cell? ⟨b, 1, none⟩ = some (.slice (some ⟨g, 0, none⟩) ws.length cap)) (first | exact ⟨hc0, hc1⟩ | go_keep)
    (first | (go_at_call 24; refine (clone_at w.drew b g cap n ws HS.out).mono ?_; rintro e w1 ⟨g', cap', rfl, hg1, hge, hown⟩; have hc0 := hg1.cell HS.out.width (by simp); have hc1 := hg1.cell HS.out.row (by simp); have HG := Lib.hid hg1; have HO := Lib.hid hown; have hge' : w.heap.size ≤ g' := hge; clear hg1 hown hge))
  go_wp2
  go_ret
  exact ⟨_, g', cap', w1, rfl, grown_trans (grown_drewN w 1 none) HG.out, hge', HO.out, rfl, rfl⟩
theorem ownsRow_cell {w : World} {base g len cap : Nat} {ws : List Nat} (h : w.ownsRow base 51 1 (.slice (some ⟨g, 0, none⟩) len cap) len (vals ws)) :
    ws.length = len ∧ len ≤ cap ∧ cap ≤ maxLen ∧ g < w.heap.size ∧ ∃ cur : Array Value, w.heap[g]? = some (.cells cur 51 (0, 0)) ∧ ∀ k, k < len → cur[k]? = some (.int .u64 ((wd ws k : Nat) : Int)) := by
  have hl : ws.length = len := by simpa [vals] using h.1
  rcases h.2 with ⟨hv, _⟩ | ⟨g', cap', cur, hv, _, hg, hlc, hcm, hsz, htk⟩
  · cases hv
  · injection hv with e1 e2 e3
    injection e1 with e1
    injection e1 with e1
    subst e1; subst e3
    refine ⟨hl, hlc, hcm, (Array.getElem?_eq_some_iff.1 hg).1, cur, hg, fun k hk => ?_⟩
    have : (cur.toList.take (len * 1))[k]? = (vals ws)[k]? := by rw [htk]
    rw [List.getElem?_take, if_pos (by omega)] at this
    rw [← Array.getElem?_toList, this]
    unfold vals wd
    rw [List.getElem?_map, List.getElem?_eq_getElem (by omega)]
    rfl
/-- what Copy makes: another set, new, with the same -/
def CopyPost (w : World) (n : Nat) (m : Nat → Bool) (e : Ending) (w' : World) : Prop :=
  ∃ b g, e = .returned (.pointer (some ⟨b, 0, none⟩)) ∧ w.grownBy w' none ∧ w.heap.size ≤ g ∧ w.heap.size ≤ b ∧ IsSet w' b g n m
theorem copy_at (w : World) (b g n : Nat) (m : Nat → Bool) (h : IsSet w b g n m) : Calls Tryd.prog 10 #[.pointer (some ⟨b, 0, none⟩)] w (CopyPost w n m) := by
  obtain ⟨cap, ws, hs, rfl⟩ := h
  refine (copy_raw w b g cap n ws hs).mono ?_
  rintro e w' ⟨b', g', cap', w1, rfl, hg, hge, hown, rfl, rfl⟩
  obtain ⟨_, hlc, hcm, hgl, cur, hcur, hcell⟩ := ownsRow_cell hown
  have hz := hg.size
  have hb : (w1.alloc (.cells #[.int .i64 (n : Int), .slice (some ⟨g', 0, none⟩) ws.length cap'] 49)).heap[w1.heap.size]? = some (.cells #[.int .i64 (n : Int), .slice (some ⟨g', 0, none⟩) ws.length cap'] 49) := heap_alloc_new _ _
  have hgb : (w1.alloc (.cells #[.int .i64 (n : Int), .slice (some ⟨g', 0, none⟩) ws.length cap'] 49)).heap[g']? = some (.cells cur 51 (0, 0)) := (Below.heap_alloc _ _ _ hgl).trans hcur
  refine ⟨w1.heap.size, g', rfl, grown_trans hg (World.grownBy_alloc _ _ none), hge, hz, cap', ws, ⟨hs.le, hs.len, hlc, hcm, hs.word, hs.out, by omega, by simp, by simp; omega, ?_, ?_, ?_, ?_⟩, rfl⟩
  · unfold World.cell?; dsimp only; rw [hb]; rfl
  · unfold World.cell?; dsimp only; rw [hb]; rfl
  · intro k hk; unfold World.cell?; dsimp only; rw [hgb]; exact hcell k hk
  · intro k hk; unfold World.frozen?; dsimp only; rw [hgb]; simp
end Go.Proofs.YtjdapbianbikpaaDoor
