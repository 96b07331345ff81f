/-
  What is told of a config is read back, and only that: plain.
-/
import Derived.Test.YtdchmpbmaeoeoaaDoorRPrs
import Derived.Test.YtdchmpbmaeoeoaaDoorPrn
namespace Go.Proofs.YtdchmpbmaeoeoaaDoor
open Go.Shelf Go.RowKit Go.Sort
open Go.Lib hiding intOf
set_option linter.unusedVariables false
theorem pe_cases (ws : List (List UInt8)) : (pe ws = 0 ∧ ∃ p c q g, pd ws = [p, c, q, g] ∧ Mb p c q g ∧ join ws [32] = tx p c q g) ∨ (pe ws ≠ 0 ∧ pd ws = zs) := by
  unfold pe pd
  by_cases ho : okw ws = true
  · by_cases hm : MbL (dr ws)
    · left
      rw [if_pos ho, if_pos hm, if_pos ho, if_pos hm]
      refine ⟨rfl, ?_⟩
      match ws, ho, hm with
      | [a0, a1, a2, a3], ho, hm =>
        simp only [okw, ok4, Bool.and_eq_true, decide_eq_true_eq] at ho
        obtain ⟨h0, h1, h2, h3⟩ := ho
        obtain ⟨c, hc⟩ := Option.isSome_iff_exists.1 h1
        obtain ⟨q, hq⟩ := Option.isSome_iff_exists.1 h2
        obtain ⟨g, hg⟩ := Option.isSome_iff_exists.1 h3
        have e : dr [a0, a1, a2, a3] = [pol a0, c, q, g] := by simp [dr, dw, hc, hq, hg, nd]
        rw [e] at hm ⊢
        refine ⟨_, _, _, _, rfl, hm, ?_⟩
        rw [tx, cw, pol_nm h0, (rdi_some.1 hc).2, (rdi_some.1 hq).2, (rdi_some.1 hg).2]
    · right
      rw [if_pos ho, if_neg hm, if_pos ho, if_neg hm]
      exact ⟨by decide, rfl⟩
  · right
    rw [if_neg ho, if_neg ho]
    exact ⟨by decide, rfl⟩
theorem nm_clean (p : Int) : ∀ c ∈ nm p, c ≠ 32 := by
  unfold nm; repeat' split
  all_goals simp
theorem dec_clean (u : Nat) : ∀ c ∈ decDigits u, c ≠ 32 := fun c hc e => by
  have := dec_digits u c hc
  rw [e] at this
  exact absurd this.1 (by decide)
theorem itoa_clean (i : Int) : ∀ c ∈ itoa i, c ≠ 32 := by
  intro c hc
  unfold itoa at hc
  split at hc
  · rcases List.mem_cons.1 hc with rfl | hc
    · decide
    · exact dec_clean _ c hc
  · exact dec_clean _ c hc
theorem wds_tx (p c q g : Int) : wds (tx p c q g) = cw p c q g := join_wds _ (by simp [cw]) (fun x hx => by
  simp only [cw, List.mem_cons, List.not_mem_nil, or_false] at hx
  rcases hx with rfl | rfl | rfl | rfl
  · exact nm_clean p
  · exact itoa_clean c
  · exact itoa_clean q
  · exact itoa_clean g)
theorem Mb.is64 {p c q g : Int} (h : Mb p c q g) : Is64 c ∧ Is64 q ∧ Is64 g := by
  obtain ⟨_, ⟨_, _⟩, ⟨_, _⟩, ⟨_, _⟩⟩ := h
  refine ⟨⟨by omega, by omega⟩, ⟨by omega, by omega⟩, ⟨by omega, by omega⟩⟩
theorem tx_back {p c q g : Int} (h : Mb p c q g) : pd (wds (tx p c q g)) = [p, c, q, g] ∧ pe (wds (tx p c q g)) = 0 := by
  obtain ⟨h1, h2, h3⟩ := h.is64
  have hp := pol_eq h.1
  have r1 : rdi (itoa c) = some c := rdi_some.2 ⟨h1, rfl⟩
  have r2 : rdi (itoa q) = some q := rdi_some.2 ⟨h2, rfl⟩
  have r3 : rdi (itoa g) = some g := rdi_some.2 ⟨h3, rfl⟩
  have ho : okw (cw p c q g) = true := by
    simp only [cw, okw, ok4, hp, r1, r2, r3]
    have := h.1.1
    simp
    omega
  have hd : dr (cw p c q g) = [p, c, q, g] := by simp [cw, dr, dw, hp, r1, r2, r3, nd]
  rw [wds_tx, pd, pe, ho, hd, if_pos rfl, if_pos (show MbL [p, c, q, g] from h), if_pos rfl, if_pos (show MbL [p, c, q, g] from h)]
  exact ⟨rfl, rfl⟩
end Go.Proofs.YtdchmpbmaeoeoaaDoor
