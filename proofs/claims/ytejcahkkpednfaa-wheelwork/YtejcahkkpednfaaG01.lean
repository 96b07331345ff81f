/-
  LIRS by lists, as the document's own functions have it: plain.
  LIRS by lists: what comes of a right state is right: plain.
  A region that draws its order, whose first n operations read and make memory of their own in any order (a class of worlds), and whose last ones follow each other. No program is named here.
  Rows of pages and rows of keys, as raw values: read, kept, appended to.
  The document's rows: Find, Has, Less, More, Without, Top, Many.
  Which configs may be: the document's.
-/
import Derived.StillTail
import Derived.StillTailTactics
import Derived.Deep.Quiet
import Derived.Deep.QuietTactic
import Derived.BigQuiet
import Derived.Test.YtejcahkkpednfaaProg
import Derived.Laws.AppendOwn
import Derived.Laws.OwnMore
import Derived.Laws.MakeOwn
import Derived.Laws.ResultCell
import Derived.Laws.StructEq
import Derived.Deep.WholeRow
import Derived.Deep.MidRow
import Derived.Lib.Hide
import Derived.Lib.AtoiErrMem
import Derived.Below
import Derived.Deep.Draws
import Derived.Lib.ItoaMem
import Derived.WalkKit
import Derived.BigCall
import Derived.BigGuard
import Derived.BigRegion
namespace Go.Proofs.StackM
set_option linter.unusedVariables false
structure Pg where
  key : Int
  kind : Int
  test : Bool
  mark : Bool
  deriving DecidableEq
structure Cf where
  p : Int
  c : Int
  q : Int
  g : Int
  deriving DecidableEq
structure Ct where
  hi : Int
  mi : Int
  ra : Int
  lo : Int
  pr : Int
  ev : Int
  fo : Int
  cl : Int
  en : Int
  st : Int
  deriving DecidableEq
structure St where
  cf : Cf
  tg : Int
  pg : List Pg
  qu : List Int
  gh : List Int
  co : Int
  te : Int
  ct : Ct
def up (n : Int) : Int := (n + 1) % 18446744073709551616
def wo (l : List Pg) (k : Int) : List Pg := l.filter fun p => decide (p.key ≠ k)
def ls (l : List Int) (k : Int) : List Int := l.filter fun x => decide (x ≠ k)
def many (l : List Pg) (d : Int) : Nat := l.countP fun p => decide (p.kind = d)
def fnd (l : List Pg) (k : Int) : Option Nat := l.findIdx? fun p => decide (p.key = k)
theorem wo_len (l : List Pg) (k : Int) : (wo l k).length ≤ l.length := List.length_filter_le _ _
theorem wo_mem {l : List Pg} {k : Int} {p : Pg} : p ∈ wo l k ↔ p ∈ l ∧ p.key ≠ k := by simp [wo]
theorem ls_mem {l : List Int} {k x : Int} : x ∈ ls l k ↔ x ∈ l ∧ x ≠ k := by simp [ls]
theorem filter_lt {α : Type} {f : α → Bool} : ∀ {l : List α} {x : α}, x ∈ l → f x = false → (l.filter f).length < l.length
  | a :: l, x, hx, hf => by
    rcases List.mem_cons.1 hx with rfl | hx
    · rw [List.filter_cons_of_neg (by simp [hf])]
      have := List.length_filter_le f l
      simp only [List.length_cons]
      omega
    · have ih := filter_lt hx hf
      by_cases h : f a = true
      · rw [List.filter_cons_of_pos h]; simp only [List.length_cons]; omega
      · rw [List.filter_cons_of_neg h]; simp only [List.length_cons]; omega
theorem wo_lt {l : List Pg} {p : Pg} (h : p ∈ l) : (wo l p.key).length < l.length := filter_lt h (by simp)
theorem ls_lt {l : List Int} {k : Int} (h : k ∈ l) : (ls l k).length < l.length := filter_lt h (by simp)
def prS (s : St) (p : Pg) : St := { s with pg := wo s.pg p.key, gh := ls s.gh p.key, ct := { s.ct with pr := up s.ct.pr } }
def prune (s : St) : St :=
  match h : s.pg.getLast? with
  | none => s
  | some p => if p.kind = 1 then s else prune (prS s p)
  termination_by s.pg.length
  decreasing_by exact wo_lt (List.mem_of_getLast? h)
theorem prune_none {s : St} (h : s.pg = []) : prune s = s := by
  rw [prune]; split
  · rfl
  · rename_i p h1; rw [h] at h1; cases h1
theorem prune_hot {s : St} {p : Pg} (h : s.pg.getLast? = some p) (hk : p.kind = 1) : prune s = s := by
  rw [prune]; split
  · rfl
  · rename_i p' h1; rw [h] at h1; cases h1; rw [if_pos hk]
theorem prune_step {s : St} {p : Pg} (h : s.pg.getLast? = some p) (hk : p.kind ≠ 1) : prune s = prune (prS s p) := by
  rw [prune]; split
  · rename_i h1; rw [h] at h1; cases h1
  · rename_i p' h1; rw [h] at h1; cases h1; rw [if_neg hk]
theorem prune_ind {P : St → Prop} (step : ∀ s p, s.pg.getLast? = some p → p.kind ≠ 1 → P s → P (prS s p)) (s : St) (h : P s) : P (prune s) := by
  induction s using prune.induct with
  | case1 s h1 =>
    rw [prune_none (List.getLast?_eq_none_iff.1 h1)]; exact h
  | case2 s p h1 hk => rw [prune_hot h1 hk]; exact h
  | case3 s p h1 hk ih => rw [prune_step h1 hk]; exact ih (step s p h1 hk h)
/-- the bottom is hot, if there is one -/
def Bt (s : St) : Prop := ∀ p, s.pg.getLast? = some p → p.kind = 1
theorem prune_bt (s : St) : Bt (prune s) := by
  induction s using prune.induct with
  | case1 s h1 =>
    rw [prune_none (List.getLast?_eq_none_iff.1 h1)]
    intro p hp; rw [h1] at hp; cases hp
  | case2 s p h1 hk =>
    rw [prune_hot h1 hk]
    intro p' hp; rw [h1] at hp; cases hp; exact hk
  | case3 s p h1 hk ih => rw [prune_step h1 hk]; exact ih
theorem prune_len (s : St) : (prune s).pg.length ≤ s.pg.length :=
  prune_ind (P := fun t => t.pg.length ≤ s.pg.length) (fun t p _ _ h => Nat.le_trans (wo_len _ _) h) s (Nat.le_refl _)
def loS (s : St) (p : Pg) : St := prune { s with pg := wo s.pg p.key, qu := s.qu ++ [p.key], ct := { s.ct with lo := up s.ct.lo } }
def lower (s : St) : St :=
  if (many s.pg 1 : Int) > s.cf.c - s.cf.q then
    match h : s.pg.getLast? with
    | none => s
    | some p => lower (loS s p)
  else s
  termination_by s.pg.length
  decreasing_by exact Nat.lt_of_le_of_lt (prune_len _) (wo_lt (List.mem_of_getLast? h))
theorem lower_done {s : St} (h : ¬ (many s.pg 1 : Int) > s.cf.c - s.cf.q) : lower s = s := by rw [lower, if_neg h]
theorem lower_step {s : St} {p : Pg} (hm : (many s.pg 1 : Int) > s.cf.c - s.cf.q) (h : s.pg.getLast? = some p) : lower s = lower (loS s p) := by
  rw [lower, if_pos hm]; split
  · rename_i h1; rw [h] at h1; cases h1
  · rename_i p' h1; rw [h] at h1; cases h1; rfl
theorem lower_ind {P : St → Prop} (step : ∀ s p, (many s.pg 1 : Int) > s.cf.c - s.cf.q → s.pg.getLast? = some p → P s → P (loS s p)) (s : St) (h : P s) : P (lower s) := by
  induction s using lower.induct with
  | case1 s hm h1 =>
    rw [lower, if_pos hm]; split
    · exact h
    · rename_i p' h2; rw [h1] at h2; cases h2
  | case2 s hm p h1 ih => rw [lower_step hm h1]; exact ih (step s p hm h1 h)
  | case3 s hm => rw [lower_done hm]; exact h
theorem prune_cf (s : St) : (prune s).cf = s.cf := prune_ind (P := fun t => t.cf = s.cf) (fun t p _ _ h => h) s rfl
theorem loS_cf (s : St) (p : Pg) : (loS s p).cf = s.cf := prune_cf _
theorem lower_room (s : St) (h0 : 0 ≤ s.cf.c - s.cf.q) : (many (lower s).pg 1 : Int) ≤ s.cf.c - s.cf.q := by
  induction s using lower.induct with
  | case1 s hm h1 =>
    have : s.pg = [] := List.getLast?_eq_none_iff.1 h1
    rw [this] at hm
    simp [many] at hm
    omega
  | case2 s hm p h1 ih =>
    rw [lower_step hm h1]
    have := ih (by rw [loS_cf]; exact h0)
    rw [loS_cf] at this
    exact this
  | case3 s hm => rw [lower_done hm]; omega
def spS (s : St) (k : Int) : St :=
  match fnd s.pg k with
  | some i => { s with qu := ls s.qu k, pg := s.pg.set i ⟨k, 3, false, false⟩, gh := s.gh ++ [k], ct := { s.ct with ev := up s.ct.ev } }
  | none => { s with qu := ls s.qu k, ct := { s.ct with ev := up s.ct.ev } }
theorem spS_qu (s : St) (k : Int) : (spS s k).qu = ls s.qu k := by unfold spS; split <;> rfl
theorem spS_cf (s : St) (k : Int) : (spS s k).cf = s.cf := by unfold spS; split <;> rfl
def spill (most : Int) (s : St) : St × List Int :=
  if (many s.pg 1 : Int) + s.qu.length > most then
    match h : s.qu with
    | [] => (s, [])
    | k :: r => ((spill most (spS s k)).1, k :: (spill most (spS s k)).2)
  else (s, [])
  termination_by s.qu.length
  decreasing_by all_goals (rw [spS_qu]; exact ls_lt (by rw [h]; simp))
theorem spill_done {most : Int} {s : St} (h : ¬ (many s.pg 1 : Int) + s.qu.length > most) : spill most s = (s, []) := by rw [spill, if_neg h]
theorem spill_step {most : Int} {s : St} {k : Int} {r : List Int} (hm : (many s.pg 1 : Int) + s.qu.length > most) (h : s.qu = k :: r) : spill most s = ((spill most (spS s k)).1, k :: (spill most (spS s k)).2) := by
  rw [spill, if_pos hm]; split
  · rename_i h1; rw [h] at h1; cases h1
  · rename_i k' r' h1; rw [h] at h1; cases h1; rfl
theorem spill_ind {most : Int} {P : St → Prop} (step : ∀ s k r, (many s.pg 1 : Int) + s.qu.length > most → s.qu = k :: r → P s → P (spS s k)) (s : St) (h : P s) : P (spill most s).1 := by
  induction s using spill.induct most with
  | case1 s hm h1 =>
    rw [spill, if_pos hm]; split
    · exact h
    · rename_i k' r' h2; rw [h1] at h2; cases h2
  | case2 s hm k r h1 ih1 => rw [spill_step hm h1]; exact ih1 (step s k r hm h1 h)
  | case3 s hm => rw [spill_done hm]; exact h
def trS (s : St) (k : Int) : St := { s with gh := ls s.gh k, pg := wo s.pg k, ct := { s.ct with fo := up s.ct.fo } }
def trim (s : St) : St :=
  if (s.gh.length : Int) > s.cf.g then
    match h : s.gh with
    | [] => s
    | k :: r => trim (trS s k)
  else s
  termination_by s.gh.length
  decreasing_by exact ls_lt (by rw [h]; simp)
theorem trim_done {s : St} (h : ¬ (s.gh.length : Int) > s.cf.g) : trim s = s := by rw [trim, if_neg h]
theorem trim_step {s : St} {k : Int} {r : List Int} (hm : (s.gh.length : Int) > s.cf.g) (h : s.gh = k :: r) : trim s = trim (trS s k) := by
  rw [trim, if_pos hm]; split
  · rename_i h1; rw [h] at h1; cases h1
  · rename_i k' r' h1; rw [h] at h1; cases h1; rfl
theorem trim_ind {P : St → Prop} (step : ∀ s k r, (s.gh.length : Int) > s.cf.g → s.gh = k :: r → P s → P (trS s k)) (s : St) (h : P s) : P (trim s) := by
  induction s using trim.induct with
  | case1 s hm h1 =>
    rw [trim, if_pos hm]; split
    · exact h
    · rename_i k' r' h2; rw [h1] at h2; cases h2
  | case2 s hm k r h1 ih => rw [trim_step hm h1]; exact ih (step s k r hm h1 h)
  | case3 s hm => rw [trim_done hm]; exact h
theorem trim_gh (s : St) (h0 : 0 ≤ s.cf.g) : ((trim s).gh.length : Int) ≤ s.cf.g := by
  induction s using trim.induct with
  | case1 s hm h1 => rw [h1] at hm; simp at hm; omega
  | case2 s hm k r h1 ih => rw [trim_step hm h1]; exact ih h0
  | case3 s hm => rw [trim_done hm]; omega
theorem spill_most (most : Int) (s : St) : (many (spill most s).1.pg 1 : Int) + (spill most s).1.qu.length ≤ most ∨ (spill most s).1.qu = [] := by
  induction s using spill.induct most with
  | case1 s hm h1 =>
    right
    rw [spill, if_pos hm]; split
    · exact h1
    · rename_i k' r' h2; rw [h1] at h2; cases h2
  | case2 s hm k r h1 ih1 => rw [spill_step hm h1]; exact ih1
  | case3 s hm => rw [spill_done hm]; left; show (many s.pg 1 : Int) + s.qu.length ≤ most; omega
def gone (s : St) (k : Int) : St := { s with pg := wo s.pg k, qu := ls s.qu k, gh := ls s.gh k }
def top (s : St) (k d : Int) : St := { s with pg := ⟨k, d, false, false⟩ :: s.pg }
def raise (s : St) (k : Int) : St := lower { top (gone s k) k 1 with ct := { s.ct with ra := up s.ct.ra } }
def cool (s : St) (k : Int) : St := { top (gone s k) k 2 with qu := ls s.qu k ++ [k] }
def kOf (s : St) (k : Int) : Int :=
  match s.pg.find? fun p => decide (p.key = k) with
  | some p => p.kind
  | none => if k ∈ s.qu then 2 else 0
def Kpt (s : St) (k : Int) : Prop := kOf s k = 1 ∨ kOf s k = 2
instance (s : St) (k : Int) : Decidable (Kpt s k) := by unfold Kpt; infer_instance
def Rm (s : St) : Prop := (many s.pg 1 : Int) < s.cf.c - s.cf.q
instance (s : St) : Decidable (Rm s) := by unfold Rm; infer_instance
def Hs (s : St) (k : Int) : Prop := ∃ p ∈ s.pg, p.key = k
instance (s : St) (k : Int) : Decidable (Hs s k) := by unfold Hs; infer_instance
def hit (s : St) : St := { s with ct := { s.ct with hi := up s.ct.hi } }
def mis (s : St) : St := { s with ct := { s.ct with mi := up s.ct.mi } }
def touch (s : St) (k : Int) : St :=
  if Kpt s k then
    (if kOf s k = 1 then prune { hit s with pg := ⟨k, 1, false, false⟩ :: wo s.pg k }
     else if Hs s k ∨ Rm s then prune (raise (hit s) k) else prune (cool (hit s) k))
  else s
def adm (s : St) (k : Int) : St × List Int := spill (s.cf.c - 1) (gone (mis s) k)
def admit (s : St) (k : Int) : St :=
  if Kpt s k then s
  else if kOf s k = 3 ∨ Rm (trim (adm s k).1) then prune (raise (trim (adm s k).1) k) else prune (cool (trim (adm s k).1) k)
def admOut (s : St) (k : Int) : List Int := if Kpt s k then [] else (adm s k).2
def drop (s : St) (k : Int) : St := prune (gone s k)
def rsz (s : St) (c : Cf) : St × List Int := spill c.c (lower { s with cf := c })
def resize (s : St) (c : Cf) : St := trim (rsz s c).1
end Go.Proofs.StackM
namespace Go.Proofs.StackM
set_option linter.unusedVariables false
/-- keys once, pages of their kinds, the queue's keys just the cold ones' or strangers', the ghosts just the gone ones' -/
structure Wk (s : St) : Prop where
  nk : (s.pg.map Pg.key).Nodup
  nq : s.qu.Nodup
  ng : s.gh.Nodup
  pk : ∀ p ∈ s.pg, p.test = false ∧ p.mark = false ∧ (p.kind = 1 ∨ p.kind = 2 ∨ p.kind = 3) ∧ (p.key ∈ s.qu ↔ p.kind = 2) ∧ (p.key ∈ s.gh ↔ p.kind = 3)
  gg : ∀ k ∈ s.gh, ∃ p ∈ s.pg, p.key = k
theorem nodup_wo {l : List Pg} (k : Int) (h : (l.map Pg.key).Nodup) : ((wo l k).map Pg.key).Nodup := h.sublist (List.filter_sublist.map _)
theorem nodup_ls {l : List Int} (k : Int) (h : l.Nodup) : (ls l k).Nodup := h.sublist List.filter_sublist
theorem Wk.gone {s : St} (h : Wk s) (k : Int) : Wk (gone s k) := by
  refine ⟨nodup_wo k h.nk, nodup_ls k h.nq, nodup_ls k h.ng, fun p hp => ?_, fun x hx => ?_⟩
  · obtain ⟨hp1, hp2⟩ := wo_mem.1 hp
    obtain ⟨a, b, c, d, e⟩ := h.pk p hp1
    exact ⟨a, b, c, ⟨fun m => d.1 (ls_mem.1 m).1, fun m => ls_mem.2 ⟨d.2 m, hp2⟩⟩, ⟨fun m => e.1 (ls_mem.1 m).1, fun m => ls_mem.2 ⟨e.2 m, hp2⟩⟩⟩
  · obtain ⟨hx1, hx2⟩ := ls_mem.1 hx
    obtain ⟨p, hp, hpk⟩ := h.gg x hx1
    exact ⟨p, wo_mem.2 ⟨hp, by rw [hpk]; exact hx2⟩, hpk⟩
theorem gone_key (s : St) (k : Int) : (∀ p ∈ (gone s k).pg, p.key ≠ k) ∧ k ∉ (gone s k).qu ∧ k ∉ (gone s k).gh :=
  ⟨fun p hp => (wo_mem.1 hp).2, fun h => (ls_mem.1 h).2 rfl, fun h => (ls_mem.1 h).2 rfl⟩
theorem Wk.hot {s : St} (h : Wk s) {k : Int} (h1 : ∀ p ∈ s.pg, p.key ≠ k) (h2 : k ∉ s.qu) (h3 : k ∉ s.gh) : Wk (top s k 1) := by
  refine ⟨?_, h.nq, h.ng, fun p hp => ?_, fun x hx => ?_⟩
  · show ((⟨k, 1, false, false⟩ :: s.pg : List Pg).map Pg.key).Nodup
    rw [List.map_cons, List.nodup_cons]
    refine ⟨fun hm => ?_, h.nk⟩
    obtain ⟨p, hp, e⟩ := List.mem_map.1 hm
    exact h1 p hp e
  · rcases List.mem_cons.1 hp with rfl | hp
    · exact ⟨rfl, rfl, .inl rfl, ⟨fun m => absurd m h2, fun m => absurd m (show ¬ ((1 : Int) = 2) by decide)⟩, ⟨fun m => absurd m h3, fun m => absurd m (show ¬ ((1 : Int) = 3) by decide)⟩⟩
    · exact h.pk p hp
  · obtain ⟨p, hp, e⟩ := h.gg x hx
    exact ⟨p, List.mem_cons_of_mem _ hp, e⟩
theorem Wk.cold {s : St} (h : Wk s) {k : Int} (h1 : ∀ p ∈ s.pg, p.key ≠ k) (h2 : k ∉ s.qu) (h3 : k ∉ s.gh) : Wk { top s k 2 with qu := s.qu ++ [k] } := by
  refine ⟨?_, ?_, h.ng, fun p hp => ?_, fun x hx => ?_⟩
  · show ((⟨k, 2, false, false⟩ :: s.pg : List Pg).map Pg.key).Nodup
    rw [List.map_cons, List.nodup_cons]
    refine ⟨fun hm => ?_, h.nk⟩
    obtain ⟨p, hp, e⟩ := List.mem_map.1 hm
    exact h1 p hp e
  · show (s.qu ++ [k]).Nodup
    rw [List.nodup_append]
    exact ⟨h.nq, by simp, fun a ha b hb e => h2 (by simp at hb; rw [← hb, ← e]; exact ha)⟩
  · rcases List.mem_cons.1 hp with rfl | hp
    · exact ⟨rfl, rfl, .inr (.inl rfl), ⟨fun _ => rfl, fun _ => by simp⟩, ⟨fun m => absurd m h3, fun m => absurd m (show ¬ ((2 : Int) = 3) by decide)⟩⟩
    · obtain ⟨a, b, c, d, e⟩ := h.pk p hp
      refine ⟨a, b, c, ⟨fun m => d.1 ?_, fun m => List.mem_append_left _ (d.2 m)⟩, e⟩
      rcases List.mem_append.1 m with m | m
      · exact m
      · exact absurd (by simpa using m) (h1 p hp)
  · obtain ⟨p, hp, e⟩ := h.gg x hx
    exact ⟨p, List.mem_cons_of_mem _ hp, e⟩
theorem Wk.ct {s : St} (h : Wk s) (c : Ct) : Wk { s with ct := c } := ⟨h.nk, h.nq, h.ng, h.pk, h.gg⟩
theorem Wk.cf {s : St} (h : Wk s) (c : Cf) : Wk { s with cf := c } := ⟨h.nk, h.nq, h.ng, h.pk, h.gg⟩
theorem Wk.prS {s : St} (h : Wk s) (p : Pg) : Wk (prS s p) := by
  refine ⟨nodup_wo _ h.nk, h.nq, nodup_ls _ h.ng, fun q hq => ?_, fun x hx => ?_⟩
  · obtain ⟨hq1, hq2⟩ := wo_mem.1 hq
    obtain ⟨a, b, c, d, e⟩ := h.pk q hq1
    exact ⟨a, b, c, d, ⟨fun m => e.1 (ls_mem.1 m).1, fun m => ls_mem.2 ⟨e.2 m, hq2⟩⟩⟩
  · obtain ⟨hx1, hx2⟩ := ls_mem.1 hx
    obtain ⟨q, hq, hqk⟩ := h.gg x hx1
    exact ⟨q, wo_mem.2 ⟨hq, by rw [hqk]; exact hx2⟩, hqk⟩
theorem Wk.prune {s : St} (h : Wk s) : Wk (prune s) := prune_ind (P := Wk) (fun t p _ _ ht => ht.prS p) s h
theorem Wk.lo0 {s : St} (h : Wk s) {p : Pg} (hp : p ∈ s.pg) (hk : p.kind = 1) (c : Ct) : Wk { s with pg := wo s.pg p.key, qu := s.qu ++ [p.key], ct := c } := by
  obtain ⟨_, _, _, hq, hg⟩ := h.pk p hp
  have hnq : p.key ∉ s.qu := fun m => absurd (hq.1 m) (by rw [hk]; decide)
  have hng : p.key ∉ s.gh := fun m => absurd (hg.1 m) (by rw [hk]; decide)
  refine ⟨nodup_wo _ h.nk, ?_, h.ng, fun q hq => ?_, fun x hx => ?_⟩
  · show (s.qu ++ [p.key]).Nodup
    rw [List.nodup_append]
    exact ⟨h.nq, by simp, fun a ha b hb e => hnq (by simp at hb; rw [← hb, ← e]; exact ha)⟩
  · obtain ⟨hq1, hq2⟩ := wo_mem.1 hq
    obtain ⟨a, b, c, d, e⟩ := h.pk q hq1
    refine ⟨a, b, c, ⟨fun m => d.1 ?_, fun m => List.mem_append_left _ (d.2 m)⟩, e⟩
    rcases List.mem_append.1 m with m | m
    · exact m
    · exact absurd (by simpa using m) hq2
  · obtain ⟨q, hq, hqk⟩ := h.gg x hx
    exact ⟨q, wo_mem.2 ⟨hq, fun e => hng (by rw [← e, hqk]; exact hx)⟩, hqk⟩
theorem Wk.lower {s : St} (h : Wk s) (hb : Bt s) : Wk (lower s) ∧ Bt (lower s) :=
  lower_ind (P := fun t => Wk t ∧ Bt t) (fun t p _ hp ht => ⟨(ht.1.lo0 (List.mem_of_getLast? hp) (ht.2 p hp) _).prune, prune_bt _⟩) s ⟨h, hb⟩
theorem key_inj {l : List Pg} (h : (l.map Pg.key).Nodup) {i j : Nat} (hi : i < l.length) (hj : j < l.length) (e : l[i].key = l[j].key) : i = j := by
  have hp := List.pairwise_iff_getElem.1 h
  rcases Nat.lt_trichotomy i j with h1 | h1 | h1
  · exact absurd (by rw [List.getElem_map, List.getElem_map]; exact e) (hp i j (by simpa using hi) (by simpa using hj) h1)
  · exact h1
  · exact absurd (by rw [List.getElem_map, List.getElem_map]; exact e.symm) (hp j i (by simpa using hj) (by simpa using hi) h1)
theorem fnd_at {l : List Pg} {k : Int} {i : Nat} (h : fnd l k = some i) : ∃ hi : i < l.length, l[i].key = k := by
  unfold fnd at h
  obtain ⟨hi, h3, _⟩ := List.findIdx?_eq_some_iff_getElem.1 h
  exact ⟨hi, by simpa using h3⟩
theorem fnd_no {l : List Pg} {k : Int} (h : fnd l k = none) : ∀ p ∈ l, p.key ≠ k := by
  unfold fnd at h
  rw [List.findIdx?_eq_none_iff] at h
  intro p hp
  simpa using h p hp
theorem Wk.spS {s : St} (h : Wk s) {k : Int} (hk : k ∈ s.qu) : Wk (spS s k) := by
  unfold StackM.spS
  split
  · rename_i i hi
    obtain ⟨hil, hik⟩ := fnd_at hi
    have hpi := h.pk s.pg[i] (List.getElem_mem hil)
    rw [hik] at hpi
    have hk2 := hpi.2.2.2.1.1 hk
    have hkg : k ∉ s.gh := fun m => absurd (hpi.2.2.2.2.1 m) (by rw [hk2]; decide)
    have hmap : (s.pg.set i ⟨k, 3, false, false⟩).map Pg.key = s.pg.map Pg.key := by
      rw [List.map_set]
      apply List.ext_getElem (by simp)
      intro j h1 h2
      rw [List.getElem_set]
      split
      · rename_i e; subst e; simp [hik]
      · rfl
    refine ⟨by show ((s.pg.set i ⟨k, 3, false, false⟩).map Pg.key).Nodup; rw [hmap]; exact h.nk, nodup_ls _ h.nq, ?_, fun q hq => ?_, fun x hx => ?_⟩
    · show (s.gh ++ [k]).Nodup
      rw [List.nodup_append]
      exact ⟨h.ng, by simp, fun a ha b hb e => hkg (by simp at hb; rw [← hb, ← e]; exact ha)⟩
    · obtain ⟨j, hj, rfl⟩ := List.getElem_of_mem hq
      have hjl : j < s.pg.length := by simpa using hj
      rw [List.getElem_set]
      split
      · exact ⟨rfl, rfl, .inr (.inr rfl), ⟨fun m => absurd rfl (ls_mem.1 m).2, fun m => absurd m (show ¬ ((3 : Int) = 2) by decide)⟩, ⟨fun _ => rfl, fun _ => by simp⟩⟩
      · rename_i hne
        have hkj : s.pg[j].key ≠ k := fun e => hne (key_inj h.nk hil hjl (by rw [hik, e]))
        obtain ⟨a, b, c, d, e⟩ := h.pk s.pg[j] (List.getElem_mem hjl)
        refine ⟨a, b, c, ⟨fun m => d.1 (ls_mem.1 m).1, fun m => ls_mem.2 ⟨d.2 m, hkj⟩⟩, ⟨fun m => e.1 ?_, fun m => List.mem_append_left _ (e.2 m)⟩⟩
        rcases List.mem_append.1 m with m | m
        · exact m
        · exact absurd (by simpa using m) hkj
    · have hx2 : x ∈ s.gh ∨ x = k := by
        rcases List.mem_append.1 hx with m | m
        · exact .inl m
        · exact .inr (by simpa using m)
      rcases hx2 with m | rfl
      · obtain ⟨q, hq, e⟩ := h.gg x m
        obtain ⟨j, hj, rfl⟩ := List.getElem_of_mem hq
        have hne : i ≠ j := fun e2 => by subst e2; rw [hik] at e; exact hkg (by rw [e]; exact m)
        refine ⟨s.pg[j], ?_, e⟩
        have : (s.pg.set i ⟨k, 3, false, false⟩)[j]'(by simpa using hj) = s.pg[j] := by rw [List.getElem_set]; rw [if_neg hne]
        rw [← this]
        exact List.getElem_mem _
      · exact ⟨⟨x, 3, false, false⟩, List.mem_set hil _, rfl⟩
  · rename_i hi
    have hno := fnd_no hi
    refine ⟨h.nk, nodup_ls _ h.nq, h.ng, fun q hq => ?_, h.gg⟩
    obtain ⟨a, b, c, d, e⟩ := h.pk q hq
    exact ⟨a, b, c, ⟨fun m => d.1 (ls_mem.1 m).1, fun m => ls_mem.2 ⟨d.2 m, hno q hq⟩⟩, e⟩
theorem bt_spS {s : St} (h : Wk s) (hb : Bt s) {k : Int} (hk : k ∈ s.qu) : Bt (spS s k) := by
  unfold StackM.spS
  split
  · rename_i i hi
    obtain ⟨hil, hik⟩ := fnd_at hi
    have hpi := h.pk s.pg[i] (List.getElem_mem hil)
    rw [hik] at hpi
    have hk2 := hpi.2.2.2.1.1 hk
    intro p hp
    dsimp only at hp
    rw [List.getLast?_eq_getElem?, List.length_set, List.getElem?_set] at hp
    split at hp
    · rename_i e
      have hl : s.pg.getLast? = some s.pg[i] := by rw [List.getLast?_eq_getElem?, ← e, List.getElem?_eq_getElem hil]
      have := hb _ hl
      rw [hk2] at this
      cases this
    · rw [← List.getLast?_eq_getElem?] at hp
      exact hb p hp
  · exact hb
theorem Wk.spill {s : St} (h : Wk s) (hb : Bt s) (most : Int) : Wk (spill most s).1 ∧ Bt (spill most s).1 :=
  spill_ind (P := fun t => Wk t ∧ Bt t) (fun t k r _ hq ht => by
    have hk : k ∈ t.qu := by rw [hq]; simp
    exact ⟨ht.1.spS hk, bt_spS ht.1 ht.2 hk⟩) s ⟨h, hb⟩
theorem last_wo {l : List Pg} {k : Int} {p : Pg} (h : l.getLast? = some p) (hk : p.key ≠ k) : (wo l k).getLast? = some p := by
  obtain ⟨ys, rfl⟩ := List.getLast?_eq_some_iff.1 h
  unfold wo
  rw [List.filter_append]
  simp [hk]
theorem bt_wo {s t : St} {k : Int} (hb : Bt s) (hpg : t.pg = wo s.pg k) (hk : ∀ p ∈ s.pg, p.key = k → p.kind ≠ 1) : Bt t := by
  intro p hp
  rw [hpg] at hp
  cases hl : s.pg.getLast? with
  | none =>
    have : s.pg = [] := List.getLast?_eq_none_iff.1 hl
    rw [this] at hp
    cases hp
  | some q =>
    have hq := hb q hl
    have hqk : q.key ≠ k := fun e => hk q (List.mem_of_getLast? hl) e hq
    rw [last_wo hl hqk] at hp
    cases hp
    exact hq
theorem Wk.trS {s : St} (h : Wk s) (hb : Bt s) {k : Int} (hk : k ∈ s.gh) : Wk (trS s k) ∧ Bt (trS s k) := by
  refine ⟨⟨nodup_wo _ h.nk, h.nq, nodup_ls _ h.ng, fun q hq => ?_, fun x hx => ?_⟩, ?_⟩
  · obtain ⟨hq1, hq2⟩ := wo_mem.1 hq
    obtain ⟨a, b, c, d, e⟩ := h.pk q hq1
    exact ⟨a, b, c, d, ⟨fun m => e.1 (ls_mem.1 m).1, fun m => ls_mem.2 ⟨e.2 m, hq2⟩⟩⟩
  · obtain ⟨hx1, hx2⟩ := ls_mem.1 hx
    obtain ⟨q, hq, hqk⟩ := h.gg x hx1
    exact ⟨q, wo_mem.2 ⟨hq, by rw [hqk]; exact hx2⟩, hqk⟩
  · refine bt_wo (k := k) hb rfl (fun p hp e => ?_)
    have := (h.pk p hp).2.2.2.2.1 (by rw [e]; exact hk)
    rw [this]; decide
theorem Wk.trim {s : St} (h : Wk s) (hb : Bt s) : Wk (trim s) ∧ Bt (trim s) :=
  trim_ind (P := fun t => Wk t ∧ Bt t) (fun t k r _ hq ht => ht.1.trS ht.2 (by rw [hq]; simp)) s ⟨h, hb⟩
theorem bt_top {s : St} (hb : Bt s) (k : Int) : Bt (top s k 1) := by
  intro p hp
  cases e : s.pg with
  | nil =>
    have : (top s k 1).pg = [⟨k, 1, false, false⟩] := by show _ :: s.pg = _; rw [e]
    rw [this] at hp
    cases hp
    rfl
  | cons a l =>
    have : (top s k 1).pg.getLast? = s.pg.getLast? := by show (_ :: s.pg).getLast? = _; rw [e, List.getLast?_cons_cons]
    rw [this] at hp
    exact hb p hp
theorem Wk.raise {s : St} (h : Wk s) (hb : Bt s) {k : Int} (hk : ∀ p ∈ s.pg, p.key = k → p.kind ≠ 1) : Wk (StackM.raise s k) ∧ Bt (StackM.raise s k) := by
  have hg := h.gone k
  obtain ⟨a, b, c⟩ := gone_key s k
  have hbg : Bt (StackM.gone s k) := bt_wo (k := k) hb rfl hk
  exact ((hg.hot a b c).ct _).lower (s := { top (StackM.gone s k) k 1 with ct := { s.ct with ra := up s.ct.ra } }) (bt_top hbg k)
theorem Wk.cool {s : St} (h : Wk s) (k : Int) : Wk (StackM.cool s k) := by
  have hg := h.gone k
  obtain ⟨a, b, c⟩ := gone_key s k
  exact hg.cold a b c
end Go.Proofs.StackM
namespace Go.Proofs.Ytejcahkkpednfaa
set_option linter.unusedVariables false
variable {P : Program} {ops : Array Oper} {md : Region.Mode} {C : World → Prop}
/-- the head's first f operations, in any order, in a class of worlds -/
def headQ (P : Program) (md : Region.Mode) (ops : Array Oper) (C : World → Prop) (n : Nat) (L : Array Bool → Act → Prop) : Nat → Array Bool → Act → Prop
  | 0, listed, a => L listed a
  | f + 1, listed, a => Region.ready md ops listed ≠ [] ∧ ∀ i ∈ Region.ready md ops listed, i < n ∧ qOp P ops C i (headQ P md ops C n L f (listed.setIfInBounds i true)) a
theorem any_of_headQ {n g : Nat} {L : Array Bool → Act → Prop} {Q' : Exit → Act → World → Prop} (hL : ∀ listed a w, C w → L listed a → wpAny P md ops Q' g listed a w) :
    ∀ (f : Nat) (listed : Array Bool) (a : Act) (w : World), C w → headQ P md ops C n L f listed a → wpAny P md ops Q' (f + g) listed a w
  | 0, listed, a, w, hw, h => by rw [Nat.zero_add]; exact hL _ _ _ hw h
  | f + 1, listed, a, w, hw, h => by
    rw [show f + 1 + g = (f + g) + 1 by omega]
    exact ⟨fun h0 => absurd h0 h.1, fun i hi => wpOp_of_qOp hw (fun a' w' hw' h' => any_of_headQ hL f _ a' w' hw' h') (h.2 i hi).2⟩
theorem headQ_first {n i : Nat} {oi : Oper} {v : Value} {L : Array Bool → Act → Prop} (hi : ops[i]? = some oi) (hsel : ∀ (j : Nat) (o : Oper) cs b, ops[j]? = some o → o.op ≠ .select cs b)
    (hs : Region.sinkB md ops n = true) (hc : Region.chainB md ops n = true) (hn : n < ops.size) (hin : i < n)
    (hdone : ∀ listed a, L listed a → ∀ j ∈ Region.ready md ops listed, n ≤ j) :
    ∀ (f : Nat) (listed : Array Bool) (a : Act), HeadInv md ops n listed →
      (∀ j oj, ops[j]? = some oj → j ≠ i → listed.getD j true = false → (∀ e ∈ oj.after, Region.binds md e = true → e.on ≠ i) → oi.apart ops oj = true) →
      i ∈ Region.ready md ops listed → YieldsIn P ops C oi v a →
      headQ P md ops C n L f (listed.setIfInBounds i true) (a.put oi.dst v) → headQ P md ops C n L (f + 1) listed a := by
  intro f
  induction f with
  | zero =>
    intro listed a inv _ hr hy H
    refine ⟨fun h => (by rw [h] at hr; cases hr), fun j hj => ?_⟩
    have hjn : j < n := (Nat.lt_or_ge j n).elim id fun h => absurd hj (tail_waits hs hc hn inv _ i rfl hin (mem_ready.1 hr).1 j h)
    refine ⟨hjn, ?_⟩
    by_cases hji : j = i
    · subst hji; exact hy.qOp hi H
    · have := hdone _ _ H j (ready_mono hj hji)
      omega
  | succ f ih =>
    intro listed a inv hfree hr hy H
    have hun := (mem_ready.1 hr).1
    refine ⟨fun h => (by rw [h] at hr; cases hr), fun j hj => ?_⟩
    have hjn : j < n := (Nat.lt_or_ge j n).elim id fun h => absurd hj (tail_waits hs hc hn inv _ i rfl hin hun j h)
    refine ⟨hjn, ?_⟩
    by_cases hji : j = i
    · subst hji; exact hy.qOp hi H
    · obtain ⟨hjun, oj, hoj, hall⟩ := mem_ready.1 hj
      have hnot : ∀ e ∈ oj.after, Region.binds md e = true → e.on ≠ i := fun e he hb heq => by
        have h1 := hall e he hb
        rw [heq, getD_both hun] at h1
        cases h1
      refine qOp_mono (fun a' h3 => ih (listed.setIfInBounds j true) a' (inv.set hj hjn) (fun k ok hk hki hu hno => hfree k ok hk hki ?_ hno) (ready_mono hr (Ne.symm hji)) h3.1 ?_)
        (qOp_put hoj (hfree j oj hoj hji hjun hnot) (fun cs b => hsel i oi cs b hi) (fun cs b => hsel j oj cs b hoj) hy (H.2 j (ready_mono hj hji)).2)
      · by_cases hjk : j = k
        · subst hjk; exact hjun
        · rw [getD_set_ne true hjk] at hu; exact hu
      · rw [Array.setIfInBounds_comm _ _ hji]
        exact h3.2
theorem headQ_lex {n g : Nat} {Lq : Act → Prop} (hsel : Region.noSelect ops = true) (hs : Region.sinkB md ops n = true) (hc : Region.chainB md ops n = true) (hn : n < ops.size) :
    ∀ (l : List Oper) (k : Nat) (listed : Array Bool) (a : Act), (∀ j, j < l.length → l[j]? = ops[k + j]?) → k + l.length = n → HeadInv md ops n listed →
    Region.lexHead md ops g l.length k listed = true → wpQuiet P ops C Lq l a →
    headQ P md ops C n (fun listed' a' => Region.seqB md ops g n listed' = true ∧ Lq a') l.length listed a
  | [], k, listed, a, _, hk, _, hB, h => by
    obtain rfl : k = n := by simpa using hk
    exact ⟨by simpa [Region.lexHead] using hB, h⟩
  | o :: l, k, listed, a, hl, hk, inv, hB, h => by
    have h0 : ops[k]? = some o := by simpa using (hl 0 (by simp)).symm
    simp only [List.length_cons, Region.lexHead, Bool.and_eq_true] at hB
    obtain ⟨⟨hr, hf⟩, hB'⟩ := hB
    have hkn : k < n := by simp only [List.length_cons] at hk; omega
    have hr' : k ∈ Region.ready md ops listed := by simpa using hr
    have hst : qOp P ops C k (wpQuiet P ops C Lq l) a := by unfold qOp; simp only [h0]; exact h
    obtain ⟨v, hy, hK⟩ := yieldsIn_of_qOp h0 hst
    exact headQ_first h0 (Region.noSelect_spec hsel) hs hc hn hkn (fun listed' a' hL => seqB_ready hL.1) l.length listed a inv (Region.free_spec h0 hf) hr' hy
      (headQ_lex hsel hs hc hn l (k + 1) _ _ (fun j hj => by have := hl (j + 1) (by simp; omega); simpa [Nat.add_assoc, Nat.add_comm 1 j] using this) (by simp only [List.length_cons] at hk; omega) (inv.set hr' hkn) hB' hK)
/-- the first n operations are quiet in a class of worlds; what follows them is walked from any world of the class -/
theorem region_quiet_tail {id : Nat} {Q : Exit → Act → World → Prop} {a : Act} {w : World} {l : List Oper} (n : Nat) (hm : P.follows .mixedOrders = true) (hB : Region.lexTailB .any l.toArray n = true) (hC : C { w with drawn := w.drawn + 1 })
    (h : wpQuiet P l.toArray C (fun a' => ∀ w', C w' → wpList P l.toArray Q (l.drop n) a' w') (l.take n) a) : (Code.region id l.toArray true).wp P Q a w := by
  simp only [Region.lexTailB, Bool.and_eq_true, decide_eq_true_eq] at hB
  obtain ⟨⟨⟨⟨hsel, hn⟩, hs⟩, hc⟩, hlex⟩ := hB
  have hn' : n < l.length := by simpa using hn
  have htl : (l.take n).length = n := by simp; omega
  have hdl : (l.drop n).length = l.toArray.size - n := by simp
  have inv0 : HeadInv .any l.toArray n (Array.replicate l.toArray.size false) :=
    ⟨by simp, fun j oj _ hl => (by rw [getD_replicate_false] at hl; cases hl), fun t _ ht => getD_in (by simpa using ht) (getD_replicate_false _ _)⟩
  have H := headQ_lex (C := C) (md := .any) (g := l.toArray.size - n) hsel hs hc hn (l.take n) 0 _ a (fun j hj => by
    have hj' : j < n := by rw [htl] at hj; exact hj
    simp [hj']) (by simpa using htl) inv0 (by rw [htl]; exact hlex) h
  refine wp_region_any hm ?_
  have := any_of_headQ (Q' := Q) (g := l.toArray.size - n) (fun listed a' w' hw' hL => by
    have := wpAny_of_seq (md := .any) (Q' := Q) (l.drop n) n listed a' w' (fun j => by simp [List.getElem?_drop]) (by rw [hdl]; exact hL.1) (hL.2 w' hw')
    rwa [hdl] at this) _ _ _ _ hC H
  rw [htl, show n + (l.toArray.size - n) = l.toArray.size by omega] at this
  exact this
end Go.Proofs.Ytejcahkkpednfaa
namespace Go.Proofs.Ytejcahkkpednfaa
open Go.RowKit
open Go.Proofs.StackM
set_option linter.unusedVariables false
/-- an append whose run is known, in a plain walk -/
theorem append_run {P : Program} {w : World} {ops : Array Oper} {rest : List Oper} {o : Oper} {a : Act} {Q : Exit → Act → World → Prop} (hg : o.guard = none) (s x : Operand) (t : TypeId)
    (hop : o.op = Op.call { callee := Callee.builtin Builtin.append, args := #[s, x], argTypes := #[t, t] }) {v u v' : Value} {w' : World} (hs : a.eval s = v) (hx : a.eval x = u)
    (hrun : (Builtin.append_ #[t, t] o.type #[v, u]).run P w = .ok v' w') (hK : wpList P ops Q rest (a.put o.dst v') w') : wpList P ops Q (o :: rest) a w := by
  refine wpList_plain hg fun K k => ?_
  unfold Oper.wp
  simp [execOp, hop, resolve, invoke, builtin, hs, hx, hrun, Result.andThen]
  exact k _ _ hK
theorem info_parts {P : Program} {e : TypeId} {z : Value} {s b : Nat} (h : (P.info? e).map (fun i => (i.zero, i.size, i.bytes)) = some (some z, s, b)) : ∃ i, P.info? e = some i ∧ i.zero = some z ∧ i.size = s ∧ i.bytes = b := by
  cases hi : P.info? e with
  | none => rw [hi] at h; cases h
  | some i =>
    rw [hi] at h
    simp only [Option.map_some, Option.some.injEq, Prod.mk.injEq] at h
    exact ⟨i, rfl, h.1, h.2.1, h.2.2⟩
theorem grown_below {base : Nat} {w w' : World} {v : Value} {n : Nat} {xs : List Value} {e s : Nat} (ho : w.ownsRow base e s v n xs) (hg : w.grownBy w' v.ownBlock) (hb : base ≤ w.heap.size) : Below base w w' :=
  (Below.refl base w).grown hg hb fun k hk => (ho.lt k hk).1
theorem below_grown {w w' : World} (h : Below w.heap.size w w') : w.grownBy w' none := ⟨h.os, h.tape, h.output, h.size, fun k hk _ => h.block k hk⟩
theorem below_drew {w : World} {B : Nat} {w' : World} (h : Below B w w') (n : Nat) : Below B w (w'.drewN n) := ⟨h.os, h.tape, h.output, h.size, h.block⟩
theorem own_below {w w' : World} {base n : Nat} {v : Value} {xs : List Value} {e s : Nat} (ho : w.ownsRow base e s v n xs) (h : Below w.heap.size w w') : w'.ownsRow base e s v n xs := by
  refine ho.kept (below_grown h) ?_
  cases e : v.ownBlock with
  | none => exact .inl rfl
  | some k => exact .inr (by simp)
theorem alloc_below (w : World) (o : Obj) : Below w.heap.size w (w.alloc o) := (Below.refl _ _).alloc (Nat.le_refl _) _
theorem alloc_in {B : Nat} {w w' : World} (h : Below B w w') (hB : B ≤ w'.heap.size) (o : Obj) : Below B w (w'.alloc o) := h.alloc hB o
/-- a row that is read: the values, one behind the other -/
def VRow (w : World) (A : Option Addr) (cap : Nat) (vs : List Value) : Prop := (A = none ∧ cap = 0 ∧ vs = []) ∨ ∃ b off, A = some ⟨b, off, none⟩ ∧ ∀ j (hj : j < vs.length), w.cell? ⟨b, off + j, none⟩ = some vs[j]
theorem VRow.kept {w w' : World} {A : Option Addr} {cap : Nat} {vs : List Value} (h : VRow w A cap vs) (hb : Below w.heap.size w w') : VRow w' A cap vs := by
  rcases h with h | ⟨b, off, e, h⟩
  · exact .inl h
  · exact .inr ⟨b, off, e, fun j hj => by rw [hb.cell (by exact Lib.lt_of_cell (h j hj))]; exact h j hj⟩
theorem alloc_vrow (w : World) (vs : List Value) (T : TypeId) (cap : Nat) : VRow (w.alloc (.cells vs.toArray T)) (some ⟨w.heap.size, 0, none⟩) cap vs :=
  .inr ⟨_, 0, rfl, fun j hj => by
    rw [Nat.zero_add, World.cell?_alloc_new]
    simp [hj]⟩
theorem owns_vrow {w : World} {base e sz n : Nat} {v : Value} {vs : List Value} (ho : w.ownsRow base e sz v n vs) : ∃ A cap, v = .slice A n cap ∧ n ≤ cap ∧ VRow w A cap vs ∧ ∀ a, A = some a → base ≤ a.block ∧ a.block < w.heap.size := by
  obtain ⟨h1, h2⟩ := ho
  rcases h2 with ⟨rfl, rfl⟩ | ⟨g, cap, cur, rfl, hg, hh, hcap, hm, hs, ht⟩
  · refine ⟨none, 0, rfl, Nat.le_refl _, .inl ⟨rfl, rfl, ?_⟩, fun a h => by cases h⟩
    apply List.eq_nil_of_length_eq_zero
    simpa using h1
  · refine ⟨_, cap, rfl, hcap, .inr ⟨g, 0, rfl, fun j hj => ?_⟩, fun a h => by cases h; exact ⟨hg, (Array.getElem?_eq_some_iff.1 hh).1⟩⟩
    obtain ⟨y, hy⟩ : ∃ y, vs[j]? = some y := ⟨_, List.getElem?_eq_getElem hj⟩
    have hj2 : j < n * sz := by rw [h1] at hj; exact hj
    rw [(List.getElem?_eq_some_iff.1 hy).2]
    rw [← ht, List.getElem?_take, if_pos hj2] at hy
    simp only [World.cell?, hh, Nat.zero_add]
    rw [← Array.getElem?_toList, hy]
    rfl
/-- a row is appended to one that is owned -/
theorem app_row {P : Program} {w : World} {base n m cap : Nat} {v : Value} {xs news : List Value} {A : Option Addr} (T e : TypeId) (z : Value) (sz by' : Nat)
    (hT : P.underlying T = some (.slice e)) (hinfo : (P.info? e).map (fun i => (i.zero, i.size, i.bytes)) = some (some z, sz, by')) (hzs : z.cells.size = sz) (hsz : 0 < sz) (hb24 : by' ≤ 64)
    (ho : w.ownsRow base e sz v n xs) (hr : VRow w A cap news) (hl : news.length = m * sz) (h1 : ∀ u ∈ news, u.oneCell' = true) (hn : n + m ≤ 1000000) (hbase : base ≤ w.heap.size) :
    ∃ v' w', (Builtin.append_ #[T, T] T #[v, .slice A m cap]).run P w = .ok v' w' ∧ w'.ownsRow base e sz v' (n + m) (xs ++ news) ∧ Below base w w' := by
  obtain ⟨i0, hi, hz0, hz1, hz2⟩ := info_parts hinfo
  rcases hr with ⟨rfl, rfl, rfl⟩ | ⟨b, off, rfl, hc⟩
  · have hm : m = 0 := by
      rcases Nat.mul_eq_zero.1 (by simpa using hl.symm) with h | h
      · exact h
      · omega
    subst hm
    refine ⟨v, w, run_append_owned_none w base T T e i0 sz hT hi v n xs ho, by simpa using ho, Below.refl _ _⟩
  · obtain ⟨v', w1, h2, h3, h4, _⟩ := run_append_own (P := P) (w := w) base T T e i0 z sz by' hT hi hz0 hz1 hz2 hzs hsz v n xs ho ⟨b, off, none⟩ m cap news hl (fun j u hu => by
      have hj := (List.getElem?_eq_some_iff.1 hu).1
      have := hc j hj
      rw [Lib.add_plain, this]
      rw [List.getElem?_eq_getElem hj] at hu
      exact hu) h1 (by unfold maxLen; omega) (by
        have : (n + m) * by' ≤ 1000000 * 64 := Nat.mul_le_mul hn hb24
        omega) hbase
    exact ⟨v', w1, h2, h3, grown_below ho h4 hbase⟩
/-- pages and keys as raw values -/
def pvals (l : List Pg) : List Value := l.flatMap fun p => [.int .u64 p.key, .int .i64 p.kind, .bool p.test, .bool p.mark]
def uvals (l : List Int) : List Value := l.map (Value.int .u64)
theorem pvals_len (l : List Pg) : (pvals l).length = l.length * 4 := by
  induction l with
  | nil => rfl
  | cons p l ih => simp only [pvals, List.flatMap_cons, List.length_append, List.length_cons, List.length_nil] at *; omega
theorem uvals_len (l : List Int) : (uvals l).length = l.length := by simp [uvals]
theorem pvals_app (l r : List Pg) : pvals (l ++ r) = pvals l ++ pvals r := by simp [pvals]
theorem uvals_app (l r : List Int) : uvals (l ++ r) = uvals l ++ uvals r := by simp [uvals]
theorem pvals_one (l : List Pg) : ∀ u ∈ pvals l, u.oneCell' = true := by
  intro u hu
  obtain ⟨p, _, hp⟩ := List.mem_flatMap.1 hu
  simp only [List.mem_cons, List.not_mem_nil, or_false] at hp
  rcases hp with rfl | rfl | rfl | rfl <;> rfl
theorem uvals_one (l : List Int) : ∀ u ∈ uvals l, u.oneCell' = true := by
  intro u hu; obtain ⟨z, _, rfl⟩ := List.mem_map.1 hu; rfl
theorem pvals_at : ∀ (l : List Pg) (j : Nat) (hj : j < l.length), (pvals l)[j * 4]? = some (.int .u64 l[j].key) ∧ (pvals l)[j * 4 + 1]? = some (.int .i64 l[j].kind) ∧ (pvals l)[j * 4 + 2]? = some (.bool l[j].test) ∧ (pvals l)[j * 4 + 3]? = some (.bool l[j].mark)
  | p :: l, 0, _ => ⟨rfl, rfl, rfl, rfl⟩
  | p :: l, j + 1, hj => by
    have ih := pvals_at l j (by simpa using hj)
    have e : pvals (p :: l) = .int .u64 p.key :: .int .i64 p.kind :: .bool p.test :: .bool p.mark :: pvals l := rfl
    rw [e]
    have a0 : (j + 1) * 4 = j * 4 + 1 + 1 + 1 + 1 := by omega
    rw [a0]
    simpa using ih
def PRow (w : World) (A : Option Addr) (cap : Nat) (l : List Pg) : Prop := VRow w A cap (pvals l)
def URow (w : World) (A : Option Addr) (cap : Nat) (l : List Int) : Prop := VRow w A cap (uvals l)
theorem PRow.kept {w w' : World} {A : Option Addr} {cap : Nat} {l : List Pg} (h : PRow w A cap l) (hb : Below w.heap.size w w') : PRow w' A cap l := VRow.kept h hb
theorem URow.kept {w w' : World} {A : Option Addr} {cap : Nat} {l : List Int} (h : URow w A cap l) (hb : Below w.heap.size w w') : URow w' A cap l := VRow.kept h hb
theorem URow.at {w : World} {A : Option Addr} {cap : Nat} {l : List Int} (h : URow w A cap l) {k : Nat} (hk : k < l.length) : ∃ b off, A = some ⟨b, off, none⟩ ∧ ∀ j (hj : j < l.length), w.cell? ⟨b, off + j, none⟩ = some (.int .u64 l[j]) := by
  rcases h with ⟨_, _, e⟩ | ⟨b, off, e, hc⟩
  · exfalso
    have := congrArg List.length e
    rw [uvals_len, List.length_nil] at this
    omega
  · refine ⟨b, off, e, fun j hj => ?_⟩
    rw [hc j (by rw [uvals_len]; exact hj)]
    simp [uvals]
theorem PRow.at {w : World} {A : Option Addr} {cap : Nat} {l : List Pg} (h : PRow w A cap l) {k : Nat} (hk : k < l.length) : ∃ b off, A = some ⟨b, off, none⟩ ∧ ∀ j (hj : j < l.length), w.cell? ⟨b, off + j * 4, none⟩ = some (.int .u64 l[j].key) ∧ w.cell? ⟨b, off + j * 4 + 1, none⟩ = some (.int .i64 l[j].kind) ∧ w.cell? ⟨b, off + j * 4 + 2, none⟩ = some (.bool l[j].test) ∧ w.cell? ⟨b, off + j * 4 + 3, none⟩ = some (.bool l[j].mark) := by
  rcases h with ⟨_, _, e⟩ | ⟨b, off, e, hc⟩
  · exfalso
    have := congrArg List.length e
    rw [pvals_len, List.length_nil] at this
    omega
  · refine ⟨b, off, e, fun j hj => ?_⟩
    obtain ⟨e0, e1, e2, e3⟩ := pvals_at l j hj
    have g : ∀ i v, (pvals l)[j * 4 + i]? = some v → w.cell? ⟨b, off + j * 4 + i, none⟩ = some v := fun i v hv => by
      have hi := (List.getElem?_eq_some_iff.1 hv).1
      have := hc (j * 4 + i) hi
      rw [show off + j * 4 + i = off + (j * 4 + i) by omega, this]
      rw [List.getElem?_eq_getElem hi] at hv
      exact hv
    exact ⟨g 0 _ e0, g 1 _ e1, g 2 _ e2, g 3 _ e3⟩
theorem infoP : (Try.prog.info? 58).map (fun i => (i.zero, i.size, i.bytes)) = some (some (.agg #[.int .u64 0, .int .i64 0, .bool false, .bool false]), 4, 24) := by kernel_rfl
theorem infoU : (Try.prog.info? 27).map (fun i => (i.zero, i.size, i.bytes)) = some (some (.int .u64 0), 1, 8) := by kernel_rfl
theorem appP {w : World} {base n m cap : Nat} {v : Value} {l r : List Pg} {A : Option Addr} (ho : w.ownsRow base 58 4 v n (pvals l)) (hr : PRow w A cap r) (hm : r.length = m) (hn : n + m ≤ 1000000) (hb : base ≤ w.heap.size) :
    ∃ v' w', (Builtin.append_ #[25, 25] 25 #[v, .slice A m cap]).run Try.prog w = .ok v' w' ∧ w'.ownsRow base 58 4 v' (n + m) (pvals (l ++ r)) ∧ Below base w w' := by
  rw [pvals_app]
  exact app_row 25 58 _ 4 24 Try.underlying25 infoP rfl (by decide) (by decide) ho hr (by rw [pvals_len, hm]) (pvals_one r) hn hb
theorem appU {w : World} {base n m cap : Nat} {v : Value} {l r : List Int} {A : Option Addr} (ho : w.ownsRow base 27 1 v n (uvals l)) (hr : URow w A cap r) (hm : r.length = m) (hn : n + m ≤ 1000000) (hb : base ≤ w.heap.size) :
    ∃ v' w', (Builtin.append_ #[26, 26] 26 #[v, .slice A m cap]).run Try.prog w = .ok v' w' ∧ w'.ownsRow base 27 1 v' (n + m) (uvals (l ++ r)) ∧ Below base w w' := by
  rw [uvals_app]
  exact app_row 26 27 _ 1 8 Try.underlying26 infoU rfl (by decide) (by decide) ho hr (by rw [uvals_len, hm]; omega) (uvals_one r) hn hb
end Go.Proofs.Ytejcahkkpednfaa
namespace Go.Proofs.Ytejcahkkpednfaa
open Go.RowKit
open Go.Proofs.StackM
set_option linter.unusedVariables false
/-- the place of a key, -1: there is none -/
def fi (l : List Pg) (k : Int) : Int := match fnd l k with | some i => (i : Int) | none => -1
theorem fnd_some {l : List Pg} {k : Int} {i : Nat} (hi : i < l.length) (h : l[i].key = k) (hj : ∀ j (h1 : j < i) (h2 : j < l.length), l[j].key ≠ k) : fnd l k = some i := by
  unfold fnd
  rw [List.findIdx?_eq_some_iff_getElem]
  exact ⟨hi, by simp [h], fun j h1 => by simpa using hj j h1 (by omega)⟩
theorem fnd_none {l : List Pg} {k : Int} (hj : ∀ j (h2 : j < l.length), l[j].key ≠ k) : fnd l k = none := by
  unfold fnd
  rw [List.findIdx?_eq_none_iff]
  intro p hp
  obtain ⟨j, hj2, rfl⟩ := List.getElem_of_mem hp
  simpa using hj j hj2
set_option maxHeartbeats 400000 in
set_option maxRecDepth 100000 in
theorem find_at (l : List Pg) (k : Int) (A : Option Addr) (n cap : Nat) (hn : n = l.length) (hb : n ≤ 1000000) (w : World) (hr : PRow w A cap l) :
    Calls Try.prog 53 #[.slice A n cap, .int .u64 k] w fun e w' => e = .returned (.int .i64 (fi l k)) ∧ w' = w := by
  obtain ⟨r, hrr⟩ : ∃ r, r = fi l k := ⟨_, rfl⟩
  rw [← hrr]
  have HR := Lib.hid hrr
  have HN := Lib.hid hn
  have HP := Lib.hid hr
  clear hrr hn hr
  go_enter Try.func53, Try.ntmps53
  go_wp2
  go_loopw [5] (fun i wr => ∃ m : Nat, m ≤ n ∧ i = .int .i64 (m : Int) ∧ wr = w ∧ Hid (∀ j (h1 : j < m) (h2 : j < l.length), l[j].key ≠ k)) (fun i _ => n - (intOf i).toNat)
  case atStart => exact ⟨0, by omega, by go_num, by first | rfl | trivial, Lib.hid (fun j h1 => absurd h1 (by omega))⟩
  case round =>
    obtain ⟨m, hm, rfl, rfl, HK⟩ := hrel
    by_cases hlt : m < n
    · have hml : m < l.length := by have := HN.out; omega
      obtain ⟨b, off, rfl, hc⟩ := HP.out.at hml
      obtain ⟨c0, _, _, _⟩ := hc m hml
      obtain ⟨y, hy⟩ : ∃ y, y = l[m].key := ⟨_, rfl⟩
      rw [← hy] at c0
      have HY := Lib.hid hy
      clear hc hy
      by_cases hxy : y = k
      · subst hxy
        go_wp2
        go_ret
        refine ⟨?_, by trivial⟩
        rw [HR.out, fi, fnd_some hml HY.out.symm HK.out]
        rfl
      · go_wp2
        go_round
        case rel => exact ⟨m + 1, by omega, by go_num, by first | rfl | trivial, Lib.hid (fun j h1 h2 => by
          rcases Nat.lt_succ_iff_lt_or_eq.1 h1 with h | rfl
          · exact HK.out j h h2
          · rw [← HY.out]; exact hxy)⟩
        case measure => simp only [intOf]; omega
    · go_wp2
      go_ret
      refine ⟨?_, by trivial⟩
      rw [HR.out, fi, fnd_none (fun j h2 => HK.out j (by have := HN.out; omega) h2)]
      rfl
set_option maxHeartbeats 400000 in
set_option maxRecDepth 100000 in
theorem many_at (l : List Pg) (d : Int) (A : Option Addr) (n cap : Nat) (hn : n = l.length) (hb : n ≤ 1000000) (w : World) (hr : PRow w A cap l) :
    Calls Try.prog 30 #[.slice A n cap, .int .i64 d] w fun e w' => e = .returned (.int .i64 (many l d : Int)) ∧ w' = w := by
  obtain ⟨r, hrr⟩ : ∃ r : Int, r = (many l d : Int) := ⟨_, rfl⟩
  rw [← hrr]
  have HR := Lib.hid hrr
  have HN := Lib.hid hn
  have HP := Lib.hid hr
  clear hrr hn hr
  go_enter Try.func30, Try.ntmps30
  go_wp2
  go_loopw [5, 6] (fun c i wr => ∃ m q : Nat, m ≤ n ∧ q ≤ m ∧ i = .int .i64 (m : Int) ∧ c = .int .i64 (q : Int) ∧ wr = w ∧ Hid (q = many (l.take m) d)) (fun _ i _ => n - (intOf i).toNat)
  case atStart => exact ⟨0, 0, by omega, by omega, by go_num, by go_num, by first | rfl | trivial, Lib.hid (by simp [many])⟩
  case round =>
    obtain ⟨m, q, hm, hq, rfl, rfl, rfl, HK⟩ := hrel
    by_cases hlt : m < n
    · have hml : m < l.length := by have := HN.out; omega
      obtain ⟨b, off, rfl, hc⟩ := HP.out.at hml
      obtain ⟨_, c0, _, _⟩ := hc m hml
      obtain ⟨y, hy⟩ : ∃ y, y = l[m].kind := ⟨_, rfl⟩
      rw [← hy] at c0
      have hs : many (l.take (m + 1)) d = many (l.take m) d + if y = d then 1 else 0 := by
        unfold many
        rw [List.take_add_one, List.getElem?_eq_getElem hml, Option.toList_some, List.countP_append, hy]
        simp [List.countP_cons]
      have HS := Lib.hid hs
      clear hc hy hs
      by_cases hxy : y = d
      · subst hxy
        go_wp2
        go_round
        case rel => exact ⟨m + 1, q + 1, by omega, by omega, by go_num, by go_num, by first | rfl | trivial, Lib.hid (by rw [HS.out, if_pos rfl, HK.out])⟩
        case measure => simp only [intOf]; omega
      · go_wp2
        go_round
        case rel => exact ⟨m + 1, q, by omega, by omega, by go_num, by go_num, by first | rfl | trivial, Lib.hid (by rw [HS.out, if_neg hxy, HK.out]; rfl)⟩
        case measure => simp only [intOf]; omega
    · obtain rfl : m = n := by omega
      go_wp2
      go_ret
      refine ⟨?_, by trivial⟩
      rw [HR.out, HK.out, List.take_of_length_le (by have := HN.out; omega)]
      rfl
end Go.Proofs.Ytejcahkkpednfaa
namespace Go.Proofs.Ytejcahkkpednfaa
open Go.RowKit
open Go.Proofs.StackM
set_option linter.unusedVariables false
def Mb (p c q g : Int) : Prop := (1 ≤ p ∧ p ≤ 4) ∧ (2 ≤ c ∧ c ≤ 256) ∧ (1 ≤ q ∧ q < c) ∧ (0 ≤ g ∧ g ≤ 512)
instance (p c q g : Int) : Decidable (Mb p c q g) := by unfold Mb; infer_instance
set_option maxHeartbeats 400000 in
set_option maxRecDepth 100000 in
theorem may_at (p c q g : Int) (w : World) : Calls Try.prog 26 #[.agg #[.int .i64 p, .int .i64 c, .int .i64 q, .int .i64 g]] w fun e w' => e = .returned (.bool (decide (Mb p c q g))) ∧ Below w.heap.size w w' := by
  by_cases hp1 : 1 ≤ p
  · by_cases hp2 : p ≤ 4
    · by_cases hc1 : 2 ≤ c
      · by_cases hc2 : c ≤ 256
        · by_cases hq1 : 1 ≤ q
          · by_cases hq2 : q < c
            · by_cases hg1 : 0 ≤ g
              · by_cases hg2 : g ≤ 512
                · rw [decide_eq_true (show Mb p c q g from ⟨⟨hp1, hp2⟩, ⟨hc1, hc2⟩, ⟨hq1, hq2⟩, ⟨hg1, hg2⟩⟩)]
                  go_enter Try.func26, Try.ntmps26
                  go_wp2
                  go_ret
                  exact ⟨rfl, alloc_below _ _⟩
                · rw [decide_eq_false (fun h : Mb p c q g => hg2 h.2.2.2.2)]
                  go_enter Try.func26, Try.ntmps26
                  go_wp2
                  go_ret
                  exact ⟨rfl, alloc_below _ _⟩
              · rw [decide_eq_false (fun h : Mb p c q g => hg1 h.2.2.2.1)]
                go_enter Try.func26, Try.ntmps26
                go_wp2
                go_ret
                exact ⟨rfl, alloc_below _ _⟩
            · rw [decide_eq_false (fun h : Mb p c q g => hq2 h.2.2.1.2)]
              go_enter Try.func26, Try.ntmps26
              go_wp2
              go_ret
              exact ⟨rfl, alloc_below _ _⟩
          · rw [decide_eq_false (fun h : Mb p c q g => hq1 h.2.2.1.1)]
            go_enter Try.func26, Try.ntmps26
            go_wp2
            go_ret
            exact ⟨rfl, alloc_below _ _⟩
        · rw [decide_eq_false (fun h : Mb p c q g => hc2 h.2.1.2)]
          go_enter Try.func26, Try.ntmps26
          go_wp2
          go_ret
          exact ⟨rfl, alloc_below _ _⟩
      · rw [decide_eq_false (fun h : Mb p c q g => hc1 h.2.1.1)]
        go_enter Try.func26, Try.ntmps26
        go_wp2
        go_ret
        exact ⟨rfl, alloc_below _ _⟩
    · rw [decide_eq_false (fun h : Mb p c q g => hp2 h.1.2)]
      go_enter Try.func26, Try.ntmps26
      go_wp2
      go_ret
      exact ⟨rfl, alloc_below _ _⟩
  · rw [decide_eq_false (fun h : Mb p c q g => hp1 h.1.1)]
    go_enter Try.func26, Try.ntmps26
    go_wp2
    go_ret
    exact ⟨rfl, alloc_below _ _⟩
end Go.Proofs.Ytejcahkkpednfaa
