/-
  The document's table: pairs by rising keys; Find, Same.
-/
import Derived.Test.YtnhjnciadmgkeaaDoorKeysM
namespace Go.Proofs.YtnhjnciadmgkeaaDoor
open Go.ChangeShapes Go.WideShapes Go.ChangeAt Go.RowKit
set_option linter.unusedVariables false

def pvals : List (Int × Int) → List Value
  | [] => []
  | (k, v) :: t => .int .u64 k :: .int .i32 v :: pvals t
theorem pvals_len : ∀ ps : List (Int × Int), (pvals ps).length = ps.length * 2
  | [] => rfl
  | (k, v) :: t => by simp only [pvals, List.length_cons, pvals_len t]; omega
theorem pvals_key : ∀ (ps : List (Int × Int)) (i : Nat) (p : Int × Int), ps[i]? = some p → (pvals ps)[i * 2]? = some (.int .u64 p.1) ∧ (pvals ps)[i * 2 + 1]? = some (.int .i32 p.2)
  | (k, v) :: t, 0, p, h => by simp at h; subst h; exact ⟨rfl, rfl⟩
  | (k, v) :: t, i + 1, p, h => by
    have := pvals_key t i p (by simpa using h)
    rw [show (i + 1) * 2 = i * 2 + 1 + 1 by omega]
    exact this
/-- the node of a key -/
def pfind (key : Int) : List (Int × Int) → Option Int
  | [] => none
  | p :: t => if p.1 = key then some p.2 else pfind key t
theorem pfind_skip {key : Int} : ∀ {p l : List (Int × Int)}, (∀ e ∈ p, e.1 ≠ key) → pfind key (p ++ l) = pfind key l
  | [], _, _ => rfl
  | e :: p, l, h => by
    show (if e.1 = key then some e.2 else pfind key (p ++ l)) = _
    rw [if_neg (h e (by simp))]
    exact pfind_skip fun x hx => h x (by simp [hx])
theorem ix27 (g p n c : Nat) (hp : p < n) (w : World) : (Instr.indexAt 27 (Value.slice (some { block := g, off := 0 }) n c) (Value.int .i64 p)).run Tryd.prog w = .ok (.pointer (some ⟨g, p * 2, none⟩)) w := by
  simp [go_sem, hp]
/-- the pairs, as they lie in memory -/
def PRow (w : World) (base : Nat) (A : Option Addr) (n c : Nat) (ps : List (Int × Int)) : Prop := w.ownsRow base 58 2 (.slice A n c) n (pvals ps) ∧ n = ps.length
section
variable {w w' : World} {base n c : Nat} {A : Option Addr} {ps : List (Int × Int)}
theorem PRow.kept (h : PRow w base A n c ps) (hg : w.grownBy w' none) : PRow w' base A n c ps :=
  ⟨owns_stay h.1 fun k hk => by
    obtain ⟨h1, cur, h2⟩ := owns_type h.1 hk
    exact hg.block k (Array.getElem?_eq_some_iff.1 h2).1 (by simp), h.2⟩
theorem PRow.keep {lo : Nat} (h : PRow w base A n c ps) (hk : Keep lo w w') : PRow w' base A n c ps :=
  ⟨owns_stay h.1 fun k hk' => by
    obtain ⟨h1, cur, h2⟩ := owns_type h.1 hk'
    rw [h2]; exact hk.other h2 rfl, h.2⟩
theorem PRow.cells (h : PRow w base A n c ps) {i : Nat} (hi : i < n) : ∃ g p, A = some ⟨g, 0, none⟩ ∧ ps[i]? = some p ∧ w.cell? ⟨g, i * 2, none⟩ = some (.int .u64 p.1) ∧ w.cell? ⟨g, i * 2 + 1, none⟩ = some (.int .i32 p.2) := by
  obtain ⟨g, cap, e⟩ := owns_some h.1 (by omega)
  injection e with e1 e2 e3
  subst e1
  have hip : i < ps.length := by have := h.2; omega
  have hp : ps[i]? = some ps[i] := List.getElem?_eq_getElem hip
  obtain ⟨h1, h2⟩ := pvals_key ps i _ hp
  have ha : ∀ k : Nat, (Addr.mk g 0 none).add k = ⟨g, k, none⟩ := fun k => by
    by_cases hk : k = 0
    · subst hk; rfl
    · simp [Addr.add, hk]
  have c1 := h.1.cells (g := g) rfl _ _ h1
  have c2 := h.1.cells (g := g) rfl _ _ h2
  rw [ha] at c1 c2
  exact ⟨g, _, rfl, hp, c1, c2⟩
set_option maxHeartbeats 1000000 in
theorem rfind_at (h : PRow w base A n c ps) (s : Int) (key : Int) (hn : n ≤ 1000000) :
    Calls Tryd.prog 29 #[.agg #[.slice A n c, .int .i64 s], .int .u64 key] w fun r w' => r = .returned (tupO (pfind key ps)) ∧ w.grownBy w' none := by
  have HR : Hid (PRow (w.alloc (.cells #[.slice A n c, .int .i64 s] 29)) base A n c ps) := Lib.hid (h.kept (World.grownBy_alloc w _ none))
  have HG : Hid (w.grownBy (w.alloc (.cells #[.slice A n c, .int .i64 s] 29)) none) := Lib.hid (World.grownBy_alloc w _ none)
  have b0 : (w.alloc (.cells #[.slice A n c, .int .i64 s] 29)).cell? ⟨w.heap.size, 0, none⟩ = some (.slice A n c) := by rw [cell_of_head (heap_alloc_new w _)]; rfl
  have HB := Lib.hid b0
  clear h b0
  go_enter Tryd.func29, Tryd.ntmps29
  go_wp2_with fail
  generalize w.alloc (.cells #[.slice A n c, .int .i64 s] 29) = w1 at *
  go_loopg [6] n (fun m v wr => ∃ (i : Nat), v = .int .i64 (i : Int) ∧ m + i = n ∧ wr = w1 ∧ Hid (∀ e ∈ ps.take i, e.1 ≠ key))
  case atStart => exact ⟨0, by go_num, by omega, rfl, Lib.hid (by simp)⟩
  case round =>
    obtain ⟨i, rfl, hmi, rfl, HI⟩ := hrel
    have b0 := HB.out
    by_cases hlt : i < n
    · obtain ⟨g, p, hA, hp, c1, c2⟩ := HR.out.cells hlt
      subst hA
      have hix := ix27 g i n c hlt
      have hlb : decide ((i : Int) < (n : Int)) = true := by simp; omega
      have HP := Lib.hid hp
      have hsplit : Hid (ps = ps.take i ++ p :: ps.drop (i + 1)) := Lib.hid (by
        obtain ⟨hi', hpe⟩ := List.getElem?_eq_some_iff.1 hp
        rw [← hpe]
        exact (List.take_append_drop i ps).symm.trans (by rw [List.drop_eq_getElem_cons hi']))
      clear hp
      obtain ⟨pk, pn⟩ := p
      dsimp only at c1 c2
      by_cases hk : pk = key
      · subst hk
        go_wp2
        go_ret2
        refine ⟨?_, HG.out⟩
        rw [hsplit.out, pfind_skip HI.out]
        simp [pfind, tupO]
      · have hkb : (pk == key) = false := beq_eq_false_iff_ne.2 hk
        have HK := Lib.hid hk
        clear hk
        go_wp2
        go_roundg (n - (i + 1))
        case measure => omega
        case rel =>
          refine ⟨i + 1, by go_num, by omega, rfl, Lib.hid fun e he => ?_⟩
          rw [List.take_add_one, HP.out] at he
          rcases List.mem_append.1 he with he | he
          · exact HI.out e he
          · simp at he; subst he; exact HK.out
    · have hlb : decide ((i : Int) < (n : Int)) = false := by simp; omega
      go_wp2
      go_ret2
      refine ⟨?_, HG.out⟩
      have hall : ps.take i = ps := List.take_of_length_le (by have := HR.out.2; omega)
      have hI := HI.out
      rw [hall] at hI
      have := pfind_skip (l := []) hI
      rw [List.append_nil] at this
      rw [this]; rfl
end
end Go.Proofs.YtnhjnciadmgkeaaDoor
