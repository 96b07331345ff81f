/-
  LIRS by lists, as the document's own functions have it: plain.
  LIRS by lists: what comes of a right state is right: plain.
  LIRS by lists: the bounds are kept: plain.
  LIRS by lists: a scan does not hurt; what it costs: plain.
  LIRS by lists: what it costs: plain.
-/
namespace Go.Proofs.StackM
set_option linter.unusedVariables false
structure Pg where
  key : Int
  kind : Int
  test : Bool
  mark : Bool
  deriving DecidableEq
structure Cf where
  p : Int
  c : Int
  q : Int
  g : Int
  deriving DecidableEq
structure Ct where
  hi : Int
  mi : Int
  ra : Int
  lo : Int
  pr : Int
  ev : Int
  fo : Int
  cl : Int
  en : Int
  st : Int
  deriving DecidableEq
structure St where
  cf : Cf
  tg : Int
  pg : List Pg
  qu : List Int
  gh : List Int
  co : Int
  te : Int
  ct : Ct
def up (n : Int) : Int := (n + 1) % 18446744073709551616
def wo (l : List Pg) (k : Int) : List Pg := l.filter fun p => decide (p.key ≠ k)
def ls (l : List Int) (k : Int) : List Int := l.filter fun x => decide (x ≠ k)
def many (l : List Pg) (d : Int) : Nat := l.countP fun p => decide (p.kind = d)
def fnd (l : List Pg) (k : Int) : Option Nat := l.findIdx? fun p => decide (p.key = k)
theorem wo_len (l : List Pg) (k : Int) : (wo l k).length ≤ l.length := List.length_filter_le _ _
theorem wo_mem {l : List Pg} {k : Int} {p : Pg} : p ∈ wo l k ↔ p ∈ l ∧ p.key ≠ k := by simp [wo]
theorem ls_mem {l : List Int} {k x : Int} : x ∈ ls l k ↔ x ∈ l ∧ x ≠ k := by simp [ls]
theorem filter_lt {α : Type} {f : α → Bool} : ∀ {l : List α} {x : α}, x ∈ l → f x = false → (l.filter f).length < l.length
  | a :: l, x, hx, hf => by
    rcases List.mem_cons.1 hx with rfl | hx
    · rw [List.filter_cons_of_neg (by simp [hf])]
      have := List.length_filter_le f l
      simp only [List.length_cons]
      omega
    · have ih := filter_lt hx hf
      by_cases h : f a = true
      · rw [List.filter_cons_of_pos h]; simp only [List.length_cons]; omega
      · rw [List.filter_cons_of_neg h]; simp only [List.length_cons]; omega
theorem wo_lt {l : List Pg} {p : Pg} (h : p ∈ l) : (wo l p.key).length < l.length := filter_lt h (by simp)
theorem ls_lt {l : List Int} {k : Int} (h : k ∈ l) : (ls l k).length < l.length := filter_lt h (by simp)
def prS (s : St) (p : Pg) : St := { s with pg := wo s.pg p.key, gh := ls s.gh p.key, ct := { s.ct with pr := up s.ct.pr } }
def prune (s : St) : St :=
  match h : s.pg.getLast? with
  | none => s
  | some p => if p.kind = 1 then s else prune (prS s p)
  termination_by s.pg.length
  decreasing_by exact wo_lt (List.mem_of_getLast? h)
theorem prune_none {s : St} (h : s.pg = []) : prune s = s := by
  rw [prune]; split
  · rfl
  · rename_i p h1; rw [h] at h1; cases h1
theorem prune_hot {s : St} {p : Pg} (h : s.pg.getLast? = some p) (hk : p.kind = 1) : prune s = s := by
  rw [prune]; split
  · rfl
  · rename_i p' h1; rw [h] at h1; cases h1; rw [if_pos hk]
theorem prune_step {s : St} {p : Pg} (h : s.pg.getLast? = some p) (hk : p.kind ≠ 1) : prune s = prune (prS s p) := by
  rw [prune]; split
  · rename_i h1; rw [h] at h1; cases h1
  · rename_i p' h1; rw [h] at h1; cases h1; rw [if_neg hk]
theorem prune_ind {P : St → Prop} (step : ∀ s p, s.pg.getLast? = some p → p.kind ≠ 1 → P s → P (prS s p)) (s : St) (h : P s) : P (prune s) := by
  induction s using prune.induct with
  | case1 s h1 =>
    rw [prune_none (List.getLast?_eq_none_iff.1 h1)]; exact h
  | case2 s p h1 hk => rw [prune_hot h1 hk]; exact h
  | case3 s p h1 hk ih => rw [prune_step h1 hk]; exact ih (step s p h1 hk h)
/-- the bottom is hot, if there is one -/
def Bt (s : St) : Prop := ∀ p, s.pg.getLast? = some p → p.kind = 1
theorem prune_bt (s : St) : Bt (prune s) := by
  induction s using prune.induct with
  | case1 s h1 =>
    rw [prune_none (List.getLast?_eq_none_iff.1 h1)]
    intro p hp; rw [h1] at hp; cases hp
  | case2 s p h1 hk =>
    rw [prune_hot h1 hk]
    intro p' hp; rw [h1] at hp; cases hp; exact hk
  | case3 s p h1 hk ih => rw [prune_step h1 hk]; exact ih
theorem prune_len (s : St) : (prune s).pg.length ≤ s.pg.length :=
  prune_ind (P := fun t => t.pg.length ≤ s.pg.length) (fun t p _ _ h => Nat.le_trans (wo_len _ _) h) s (Nat.le_refl _)
def loS (s : St) (p : Pg) : St := prune { s with pg := wo s.pg p.key, qu := s.qu ++ [p.key], ct := { s.ct with lo := up s.ct.lo } }
def lower (s : St) : St :=
  if (many s.pg 1 : Int) > s.cf.c - s.cf.q then
    match h : s.pg.getLast? with
    | none => s
    | some p => lower (loS s p)
  else s
  termination_by s.pg.length
  decreasing_by exact Nat.lt_of_le_of_lt (prune_len _) (wo_lt (List.mem_of_getLast? h))
theorem lower_done {s : St} (h : ¬ (many s.pg 1 : Int) > s.cf.c - s.cf.q) : lower s = s := by rw [lower, if_neg h]
theorem lower_step {s : St} {p : Pg} (hm : (many s.pg 1 : Int) > s.cf.c - s.cf.q) (h : s.pg.getLast? = some p) : lower s = lower (loS s p) := by
  rw [lower, if_pos hm]; split
  · rename_i h1; rw [h] at h1; cases h1
  · rename_i p' h1; rw [h] at h1; cases h1; rfl
theorem lower_ind {P : St → Prop} (step : ∀ s p, (many s.pg 1 : Int) > s.cf.c - s.cf.q → s.pg.getLast? = some p → P s → P (loS s p)) (s : St) (h : P s) : P (lower s) := by
  induction s using lower.induct with
  | case1 s hm h1 =>
    rw [lower, if_pos hm]; split
    · exact h
    · rename_i p' h2; rw [h1] at h2; cases h2
  | case2 s hm p h1 ih => rw [lower_step hm h1]; exact ih (step s p hm h1 h)
  | case3 s hm => rw [lower_done hm]; exact h
theorem prune_cf (s : St) : (prune s).cf = s.cf := prune_ind (P := fun t => t.cf = s.cf) (fun t p _ _ h => h) s rfl
theorem loS_cf (s : St) (p : Pg) : (loS s p).cf = s.cf := prune_cf _
theorem lower_room (s : St) (h0 : 0 ≤ s.cf.c - s.cf.q) : (many (lower s).pg 1 : Int) ≤ s.cf.c - s.cf.q := by
  induction s using lower.induct with
  | case1 s hm h1 =>
    have : s.pg = [] := List.getLast?_eq_none_iff.1 h1
    rw [this] at hm
    simp [many] at hm
    omega
  | case2 s hm p h1 ih =>
    rw [lower_step hm h1]
    have := ih (by rw [loS_cf]; exact h0)
    rw [loS_cf] at this
    exact this
  | case3 s hm => rw [lower_done hm]; omega
def spS (s : St) (k : Int) : St :=
  match fnd s.pg k with
  | some i => { s with qu := ls s.qu k, pg := s.pg.set i ⟨k, 3, false, false⟩, gh := s.gh ++ [k], ct := { s.ct with ev := up s.ct.ev } }
  | none => { s with qu := ls s.qu k, ct := { s.ct with ev := up s.ct.ev } }
theorem spS_qu (s : St) (k : Int) : (spS s k).qu = ls s.qu k := by unfold spS; split <;> rfl
theorem spS_cf (s : St) (k : Int) : (spS s k).cf = s.cf := by unfold spS; split <;> rfl
def spill (most : Int) (s : St) : St × List Int :=
  if (many s.pg 1 : Int) + s.qu.length > most then
    match h : s.qu with
    | [] => (s, [])
    | k :: r => ((spill most (spS s k)).1, k :: (spill most (spS s k)).2)
  else (s, [])
  termination_by s.qu.length
  decreasing_by all_goals (rw [spS_qu]; exact ls_lt (by rw [h]; simp))
theorem spill_done {most : Int} {s : St} (h : ¬ (many s.pg 1 : Int) + s.qu.length > most) : spill most s = (s, []) := by rw [spill, if_neg h]
theorem spill_step {most : Int} {s : St} {k : Int} {r : List Int} (hm : (many s.pg 1 : Int) + s.qu.length > most) (h : s.qu = k :: r) : spill most s = ((spill most (spS s k)).1, k :: (spill most (spS s k)).2) := by
  rw [spill, if_pos hm]; split
  · rename_i h1; rw [h] at h1; cases h1
  · rename_i k' r' h1; rw [h] at h1; cases h1; rfl
theorem spill_ind {most : Int} {P : St → Prop} (step : ∀ s k r, (many s.pg 1 : Int) + s.qu.length > most → s.qu = k :: r → P s → P (spS s k)) (s : St) (h : P s) : P (spill most s).1 := by
  induction s using spill.induct most with
  | case1 s hm h1 =>
    rw [spill, if_pos hm]; split
    · exact h
    · rename_i k' r' h2; rw [h1] at h2; cases h2
  | case2 s hm k r h1 ih1 => rw [spill_step hm h1]; exact ih1 (step s k r hm h1 h)
  | case3 s hm => rw [spill_done hm]; exact h
def trS (s : St) (k : Int) : St := { s with gh := ls s.gh k, pg := wo s.pg k, ct := { s.ct with fo := up s.ct.fo } }
def trim (s : St) : St :=
  if (s.gh.length : Int) > s.cf.g then
    match h : s.gh with
    | [] => s
    | k :: r => trim (trS s k)
  else s
  termination_by s.gh.length
  decreasing_by exact ls_lt (by rw [h]; simp)
theorem trim_done {s : St} (h : ¬ (s.gh.length : Int) > s.cf.g) : trim s = s := by rw [trim, if_neg h]
theorem trim_step {s : St} {k : Int} {r : List Int} (hm : (s.gh.length : Int) > s.cf.g) (h : s.gh = k :: r) : trim s = trim (trS s k) := by
  rw [trim, if_pos hm]; split
  · rename_i h1; rw [h] at h1; cases h1
  · rename_i k' r' h1; rw [h] at h1; cases h1; rfl
theorem trim_ind {P : St → Prop} (step : ∀ s k r, (s.gh.length : Int) > s.cf.g → s.gh = k :: r → P s → P (trS s k)) (s : St) (h : P s) : P (trim s) := by
  induction s using trim.induct with
  | case1 s hm h1 =>
    rw [trim, if_pos hm]; split
    · exact h
    · rename_i k' r' h2; rw [h1] at h2; cases h2
  | case2 s hm k r h1 ih => rw [trim_step hm h1]; exact ih (step s k r hm h1 h)
  | case3 s hm => rw [trim_done hm]; exact h
theorem trim_gh (s : St) (h0 : 0 ≤ s.cf.g) : ((trim s).gh.length : Int) ≤ s.cf.g := by
  induction s using trim.induct with
  | case1 s hm h1 => rw [h1] at hm; simp at hm; omega
  | case2 s hm k r h1 ih => rw [trim_step hm h1]; exact ih h0
  | case3 s hm => rw [trim_done hm]; omega
theorem spill_most (most : Int) (s : St) : (many (spill most s).1.pg 1 : Int) + (spill most s).1.qu.length ≤ most ∨ (spill most s).1.qu = [] := by
  induction s using spill.induct most with
  | case1 s hm h1 =>
    right
    rw [spill, if_pos hm]; split
    · exact h1
    · rename_i k' r' h2; rw [h1] at h2; cases h2
  | case2 s hm k r h1 ih1 => rw [spill_step hm h1]; exact ih1
  | case3 s hm => rw [spill_done hm]; left; show (many s.pg 1 : Int) + s.qu.length ≤ most; omega
def gone (s : St) (k : Int) : St := { s with pg := wo s.pg k, qu := ls s.qu k, gh := ls s.gh k }
def top (s : St) (k d : Int) : St := { s with pg := ⟨k, d, false, false⟩ :: s.pg }
def raise (s : St) (k : Int) : St := lower { top (gone s k) k 1 with ct := { s.ct with ra := up s.ct.ra } }
def cool (s : St) (k : Int) : St := { top (gone s k) k 2 with qu := ls s.qu k ++ [k] }
def kOf (s : St) (k : Int) : Int :=
  match s.pg.find? fun p => decide (p.key = k) with
  | some p => p.kind
  | none => if k ∈ s.qu then 2 else 0
def Kpt (s : St) (k : Int) : Prop := kOf s k = 1 ∨ kOf s k = 2
instance (s : St) (k : Int) : Decidable (Kpt s k) := by unfold Kpt; infer_instance
def Rm (s : St) : Prop := (many s.pg 1 : Int) < s.cf.c - s.cf.q
instance (s : St) : Decidable (Rm s) := by unfold Rm; infer_instance
def Hs (s : St) (k : Int) : Prop := ∃ p ∈ s.pg, p.key = k
instance (s : St) (k : Int) : Decidable (Hs s k) := by unfold Hs; infer_instance
def hit (s : St) : St := { s with ct := { s.ct with hi := up s.ct.hi } }
def mis (s : St) : St := { s with ct := { s.ct with mi := up s.ct.mi } }
def touch (s : St) (k : Int) : St :=
  if Kpt s k then
    (if kOf s k = 1 then prune { hit s with pg := ⟨k, 1, false, false⟩ :: wo s.pg k }
     else if Hs s k ∨ Rm s then prune (raise (hit s) k) else prune (cool (hit s) k))
  else s
def adm (s : St) (k : Int) : St × List Int := spill (s.cf.c - 1) (gone (mis s) k)
def admit (s : St) (k : Int) : St :=
  if Kpt s k then s
  else if kOf s k = 3 ∨ Rm (trim (adm s k).1) then prune (raise (trim (adm s k).1) k) else prune (cool (trim (adm s k).1) k)
def admOut (s : St) (k : Int) : List Int := if Kpt s k then [] else (adm s k).2
def drop (s : St) (k : Int) : St := prune (gone s k)
def rsz (s : St) (c : Cf) : St × List Int := spill c.c (lower { s with cf := c })
def resize (s : St) (c : Cf) : St := trim (rsz s c).1
end Go.Proofs.StackM
namespace Go.Proofs.StackM
set_option linter.unusedVariables false
/-- keys once, pages of their kinds, the queue's keys just the cold ones' or strangers', the ghosts just the gone ones' -/
structure Wk (s : St) : Prop where
  nk : (s.pg.map Pg.key).Nodup
  nq : s.qu.Nodup
  ng : s.gh.Nodup
  pk : ∀ p ∈ s.pg, p.test = false ∧ p.mark = false ∧ (p.kind = 1 ∨ p.kind = 2 ∨ p.kind = 3) ∧ (p.key ∈ s.qu ↔ p.kind = 2) ∧ (p.key ∈ s.gh ↔ p.kind = 3)
  gg : ∀ k ∈ s.gh, ∃ p ∈ s.pg, p.key = k
theorem nodup_wo {l : List Pg} (k : Int) (h : (l.map Pg.key).Nodup) : ((wo l k).map Pg.key).Nodup := h.sublist (List.filter_sublist.map _)
theorem nodup_ls {l : List Int} (k : Int) (h : l.Nodup) : (ls l k).Nodup := h.sublist List.filter_sublist
theorem Wk.gone {s : St} (h : Wk s) (k : Int) : Wk (gone s k) := by
  refine ⟨nodup_wo k h.nk, nodup_ls k h.nq, nodup_ls k h.ng, fun p hp => ?_, fun x hx => ?_⟩
  · obtain ⟨hp1, hp2⟩ := wo_mem.1 hp
    obtain ⟨a, b, c, d, e⟩ := h.pk p hp1
    exact ⟨a, b, c, ⟨fun m => d.1 (ls_mem.1 m).1, fun m => ls_mem.2 ⟨d.2 m, hp2⟩⟩, ⟨fun m => e.1 (ls_mem.1 m).1, fun m => ls_mem.2 ⟨e.2 m, hp2⟩⟩⟩
  · obtain ⟨hx1, hx2⟩ := ls_mem.1 hx
    obtain ⟨p, hp, hpk⟩ := h.gg x hx1
    exact ⟨p, wo_mem.2 ⟨hp, by rw [hpk]; exact hx2⟩, hpk⟩
theorem gone_key (s : St) (k : Int) : (∀ p ∈ (gone s k).pg, p.key ≠ k) ∧ k ∉ (gone s k).qu ∧ k ∉ (gone s k).gh :=
  ⟨fun p hp => (wo_mem.1 hp).2, fun h => (ls_mem.1 h).2 rfl, fun h => (ls_mem.1 h).2 rfl⟩
theorem Wk.hot {s : St} (h : Wk s) {k : Int} (h1 : ∀ p ∈ s.pg, p.key ≠ k) (h2 : k ∉ s.qu) (h3 : k ∉ s.gh) : Wk (top s k 1) := by
  refine ⟨?_, h.nq, h.ng, fun p hp => ?_, fun x hx => ?_⟩
  · show ((⟨k, 1, false, false⟩ :: s.pg : List Pg).map Pg.key).Nodup
    rw [List.map_cons, List.nodup_cons]
    refine ⟨fun hm => ?_, h.nk⟩
    obtain ⟨p, hp, e⟩ := List.mem_map.1 hm
    exact h1 p hp e
  · rcases List.mem_cons.1 hp with rfl | hp
    · exact ⟨rfl, rfl, .inl rfl, ⟨fun m => absurd m h2, fun m => absurd m (show ¬ ((1 : Int) = 2) by decide)⟩, ⟨fun m => absurd m h3, fun m => absurd m (show ¬ ((1 : Int) = 3) by decide)⟩⟩
    · exact h.pk p hp
  · obtain ⟨p, hp, e⟩ := h.gg x hx
    exact ⟨p, List.mem_cons_of_mem _ hp, e⟩
theorem Wk.cold {s : St} (h : Wk s) {k : Int} (h1 : ∀ p ∈ s.pg, p.key ≠ k) (h2 : k ∉ s.qu) (h3 : k ∉ s.gh) : Wk { top s k 2 with qu := s.qu ++ [k] } := by
  refine ⟨?_, ?_, h.ng, fun p hp => ?_, fun x hx => ?_⟩
  · show ((⟨k, 2, false, false⟩ :: s.pg : List Pg).map Pg.key).Nodup
    rw [List.map_cons, List.nodup_cons]
    refine ⟨fun hm => ?_, h.nk⟩
    obtain ⟨p, hp, e⟩ := List.mem_map.1 hm
    exact h1 p hp e
  · show (s.qu ++ [k]).Nodup
    rw [List.nodup_append]
    exact ⟨h.nq, by simp, fun a ha b hb e => h2 (by simp at hb; rw [← hb, ← e]; exact ha)⟩
  · rcases List.mem_cons.1 hp with rfl | hp
    · exact ⟨rfl, rfl, .inr (.inl rfl), ⟨fun _ => rfl, fun _ => by simp⟩, ⟨fun m => absurd m h3, fun m => absurd m (show ¬ ((2 : Int) = 3) by decide)⟩⟩
    · obtain ⟨a, b, c, d, e⟩ := h.pk p hp
      refine ⟨a, b, c, ⟨fun m => d.1 ?_, fun m => List.mem_append_left _ (d.2 m)⟩, e⟩
      rcases List.mem_append.1 m with m | m
      · exact m
      · exact absurd (by simpa using m) (h1 p hp)
  · obtain ⟨p, hp, e⟩ := h.gg x hx
    exact ⟨p, List.mem_cons_of_mem _ hp, e⟩
theorem Wk.ct {s : St} (h : Wk s) (c : Ct) : Wk { s with ct := c } := ⟨h.nk, h.nq, h.ng, h.pk, h.gg⟩
theorem Wk.cf {s : St} (h : Wk s) (c : Cf) : Wk { s with cf := c } := ⟨h.nk, h.nq, h.ng, h.pk, h.gg⟩
theorem Wk.prS {s : St} (h : Wk s) (p : Pg) : Wk (prS s p) := by
  refine ⟨nodup_wo _ h.nk, h.nq, nodup_ls _ h.ng, fun q hq => ?_, fun x hx => ?_⟩
  · obtain ⟨hq1, hq2⟩ := wo_mem.1 hq
    obtain ⟨a, b, c, d, e⟩ := h.pk q hq1
    exact ⟨a, b, c, d, ⟨fun m => e.1 (ls_mem.1 m).1, fun m => ls_mem.2 ⟨e.2 m, hq2⟩⟩⟩
  · obtain ⟨hx1, hx2⟩ := ls_mem.1 hx
    obtain ⟨q, hq, hqk⟩ := h.gg x hx1
    exact ⟨q, wo_mem.2 ⟨hq, by rw [hqk]; exact hx2⟩, hqk⟩
theorem Wk.prune {s : St} (h : Wk s) : Wk (prune s) := prune_ind (P := Wk) (fun t p _ _ ht => ht.prS p) s h
theorem Wk.lo0 {s : St} (h : Wk s) {p : Pg} (hp : p ∈ s.pg) (hk : p.kind = 1) (c : Ct) : Wk { s with pg := wo s.pg p.key, qu := s.qu ++ [p.key], ct := c } := by
  obtain ⟨_, _, _, hq, hg⟩ := h.pk p hp
  have hnq : p.key ∉ s.qu := fun m => absurd (hq.1 m) (by rw [hk]; decide)
  have hng : p.key ∉ s.gh := fun m => absurd (hg.1 m) (by rw [hk]; decide)
  refine ⟨nodup_wo _ h.nk, ?_, h.ng, fun q hq => ?_, fun x hx => ?_⟩
  · show (s.qu ++ [p.key]).Nodup
    rw [List.nodup_append]
    exact ⟨h.nq, by simp, fun a ha b hb e => hnq (by simp at hb; rw [← hb, ← e]; exact ha)⟩
  · obtain ⟨hq1, hq2⟩ := wo_mem.1 hq
    obtain ⟨a, b, c, d, e⟩ := h.pk q hq1
    refine ⟨a, b, c, ⟨fun m => d.1 ?_, fun m => List.mem_append_left _ (d.2 m)⟩, e⟩
    rcases List.mem_append.1 m with m | m
    · exact m
    · exact absurd (by simpa using m) hq2
  · obtain ⟨q, hq, hqk⟩ := h.gg x hx
    exact ⟨q, wo_mem.2 ⟨hq, fun e => hng (by rw [← e, hqk]; exact hx)⟩, hqk⟩
theorem Wk.lower {s : St} (h : Wk s) (hb : Bt s) : Wk (lower s) ∧ Bt (lower s) :=
  lower_ind (P := fun t => Wk t ∧ Bt t) (fun t p _ hp ht => ⟨(ht.1.lo0 (List.mem_of_getLast? hp) (ht.2 p hp) _).prune, prune_bt _⟩) s ⟨h, hb⟩
theorem key_inj {l : List Pg} (h : (l.map Pg.key).Nodup) {i j : Nat} (hi : i < l.length) (hj : j < l.length) (e : l[i].key = l[j].key) : i = j := by
  have hp := List.pairwise_iff_getElem.1 h
  rcases Nat.lt_trichotomy i j with h1 | h1 | h1
  · exact absurd (by rw [List.getElem_map, List.getElem_map]; exact e) (hp i j (by simpa using hi) (by simpa using hj) h1)
  · exact h1
  · exact absurd (by rw [List.getElem_map, List.getElem_map]; exact e.symm) (hp j i (by simpa using hj) (by simpa using hi) h1)
theorem fnd_at {l : List Pg} {k : Int} {i : Nat} (h : fnd l k = some i) : ∃ hi : i < l.length, l[i].key = k := by
  unfold fnd at h
  obtain ⟨hi, h3, _⟩ := List.findIdx?_eq_some_iff_getElem.1 h
  exact ⟨hi, by simpa using h3⟩
theorem fnd_no {l : List Pg} {k : Int} (h : fnd l k = none) : ∀ p ∈ l, p.key ≠ k := by
  unfold fnd at h
  rw [List.findIdx?_eq_none_iff] at h
  intro p hp
  simpa using h p hp
theorem Wk.spS {s : St} (h : Wk s) {k : Int} (hk : k ∈ s.qu) : Wk (spS s k) := by
  unfold StackM.spS
  split
  · rename_i i hi
    obtain ⟨hil, hik⟩ := fnd_at hi
    have hpi := h.pk s.pg[i] (List.getElem_mem hil)
    rw [hik] at hpi
    have hk2 := hpi.2.2.2.1.1 hk
    have hkg : k ∉ s.gh := fun m => absurd (hpi.2.2.2.2.1 m) (by rw [hk2]; decide)
    have hmap : (s.pg.set i ⟨k, 3, false, false⟩).map Pg.key = s.pg.map Pg.key := by
      rw [List.map_set]
      apply List.ext_getElem (by simp)
      intro j h1 h2
      rw [List.getElem_set]
      split
      · rename_i e; subst e; simp [hik]
      · rfl
    refine ⟨by show ((s.pg.set i ⟨k, 3, false, false⟩).map Pg.key).Nodup; rw [hmap]; exact h.nk, nodup_ls _ h.nq, ?_, fun q hq => ?_, fun x hx => ?_⟩
    · show (s.gh ++ [k]).Nodup
      rw [List.nodup_append]
      exact ⟨h.ng, by simp, fun a ha b hb e => hkg (by simp at hb; rw [← hb, ← e]; exact ha)⟩
    · obtain ⟨j, hj, rfl⟩ := List.getElem_of_mem hq
      have hjl : j < s.pg.length := by simpa using hj
      rw [List.getElem_set]
      split
      · exact ⟨rfl, rfl, .inr (.inr rfl), ⟨fun m => absurd rfl (ls_mem.1 m).2, fun m => absurd m (show ¬ ((3 : Int) = 2) by decide)⟩, ⟨fun _ => rfl, fun _ => by simp⟩⟩
      · rename_i hne
        have hkj : s.pg[j].key ≠ k := fun e => hne (key_inj h.nk hil hjl (by rw [hik, e]))
        obtain ⟨a, b, c, d, e⟩ := h.pk s.pg[j] (List.getElem_mem hjl)
        refine ⟨a, b, c, ⟨fun m => d.1 (ls_mem.1 m).1, fun m => ls_mem.2 ⟨d.2 m, hkj⟩⟩, ⟨fun m => e.1 ?_, fun m => List.mem_append_left _ (e.2 m)⟩⟩
        rcases List.mem_append.1 m with m | m
        · exact m
        · exact absurd (by simpa using m) hkj
    · have hx2 : x ∈ s.gh ∨ x = k := by
        rcases List.mem_append.1 hx with m | m
        · exact .inl m
        · exact .inr (by simpa using m)
      rcases hx2 with m | rfl
      · obtain ⟨q, hq, e⟩ := h.gg x m
        obtain ⟨j, hj, rfl⟩ := List.getElem_of_mem hq
        have hne : i ≠ j := fun e2 => by subst e2; rw [hik] at e; exact hkg (by rw [e]; exact m)
        refine ⟨s.pg[j], ?_, e⟩
        have : (s.pg.set i ⟨k, 3, false, false⟩)[j]'(by simpa using hj) = s.pg[j] := by rw [List.getElem_set]; rw [if_neg hne]
        rw [← this]
        exact List.getElem_mem _
      · exact ⟨⟨x, 3, false, false⟩, List.mem_set hil _, rfl⟩
  · rename_i hi
    have hno := fnd_no hi
    refine ⟨h.nk, nodup_ls _ h.nq, h.ng, fun q hq => ?_, h.gg⟩
    obtain ⟨a, b, c, d, e⟩ := h.pk q hq
    exact ⟨a, b, c, ⟨fun m => d.1 (ls_mem.1 m).1, fun m => ls_mem.2 ⟨d.2 m, hno q hq⟩⟩, e⟩
theorem bt_spS {s : St} (h : Wk s) (hb : Bt s) {k : Int} (hk : k ∈ s.qu) : Bt (spS s k) := by
  unfold StackM.spS
  split
  · rename_i i hi
    obtain ⟨hil, hik⟩ := fnd_at hi
    have hpi := h.pk s.pg[i] (List.getElem_mem hil)
    rw [hik] at hpi
    have hk2 := hpi.2.2.2.1.1 hk
    intro p hp
    dsimp only at hp
    rw [List.getLast?_eq_getElem?, List.length_set, List.getElem?_set] at hp
    split at hp
    · rename_i e
      have hl : s.pg.getLast? = some s.pg[i] := by rw [List.getLast?_eq_getElem?, ← e, List.getElem?_eq_getElem hil]
      have := hb _ hl
      rw [hk2] at this
      cases this
    · rw [← List.getLast?_eq_getElem?] at hp
      exact hb p hp
  · exact hb
theorem Wk.spill {s : St} (h : Wk s) (hb : Bt s) (most : Int) : Wk (spill most s).1 ∧ Bt (spill most s).1 :=
  spill_ind (P := fun t => Wk t ∧ Bt t) (fun t k r _ hq ht => by
    have hk : k ∈ t.qu := by rw [hq]; simp
    exact ⟨ht.1.spS hk, bt_spS ht.1 ht.2 hk⟩) s ⟨h, hb⟩
theorem last_wo {l : List Pg} {k : Int} {p : Pg} (h : l.getLast? = some p) (hk : p.key ≠ k) : (wo l k).getLast? = some p := by
  obtain ⟨ys, rfl⟩ := List.getLast?_eq_some_iff.1 h
  unfold wo
  rw [List.filter_append]
  simp [hk]
theorem bt_wo {s t : St} {k : Int} (hb : Bt s) (hpg : t.pg = wo s.pg k) (hk : ∀ p ∈ s.pg, p.key = k → p.kind ≠ 1) : Bt t := by
  intro p hp
  rw [hpg] at hp
  cases hl : s.pg.getLast? with
  | none =>
    have : s.pg = [] := List.getLast?_eq_none_iff.1 hl
    rw [this] at hp
    cases hp
  | some q =>
    have hq := hb q hl
    have hqk : q.key ≠ k := fun e => hk q (List.mem_of_getLast? hl) e hq
    rw [last_wo hl hqk] at hp
    cases hp
    exact hq
theorem Wk.trS {s : St} (h : Wk s) (hb : Bt s) {k : Int} (hk : k ∈ s.gh) : Wk (trS s k) ∧ Bt (trS s k) := by
  refine ⟨⟨nodup_wo _ h.nk, h.nq, nodup_ls _ h.ng, fun q hq => ?_, fun x hx => ?_⟩, ?_⟩
  · obtain ⟨hq1, hq2⟩ := wo_mem.1 hq
    obtain ⟨a, b, c, d, e⟩ := h.pk q hq1
    exact ⟨a, b, c, d, ⟨fun m => e.1 (ls_mem.1 m).1, fun m => ls_mem.2 ⟨e.2 m, hq2⟩⟩⟩
  · obtain ⟨hx1, hx2⟩ := ls_mem.1 hx
    obtain ⟨q, hq, hqk⟩ := h.gg x hx1
    exact ⟨q, wo_mem.2 ⟨hq, by rw [hqk]; exact hx2⟩, hqk⟩
  · refine bt_wo (k := k) hb rfl (fun p hp e => ?_)
    have := (h.pk p hp).2.2.2.2.1 (by rw [e]; exact hk)
    rw [this]; decide
theorem Wk.trim {s : St} (h : Wk s) (hb : Bt s) : Wk (trim s) ∧ Bt (trim s) :=
  trim_ind (P := fun t => Wk t ∧ Bt t) (fun t k r _ hq ht => ht.1.trS ht.2 (by rw [hq]; simp)) s ⟨h, hb⟩
theorem bt_top {s : St} (hb : Bt s) (k : Int) : Bt (top s k 1) := by
  intro p hp
  cases e : s.pg with
  | nil =>
    have : (top s k 1).pg = [⟨k, 1, false, false⟩] := by show _ :: s.pg = _; rw [e]
    rw [this] at hp
    cases hp
    rfl
  | cons a l =>
    have : (top s k 1).pg.getLast? = s.pg.getLast? := by show (_ :: s.pg).getLast? = _; rw [e, List.getLast?_cons_cons]
    rw [this] at hp
    exact hb p hp
theorem Wk.raise {s : St} (h : Wk s) (hb : Bt s) {k : Int} (hk : ∀ p ∈ s.pg, p.key = k → p.kind ≠ 1) : Wk (StackM.raise s k) ∧ Bt (StackM.raise s k) := by
  have hg := h.gone k
  obtain ⟨a, b, c⟩ := gone_key s k
  have hbg : Bt (StackM.gone s k) := bt_wo (k := k) hb rfl hk
  exact ((hg.hot a b c).ct _).lower (s := { top (StackM.gone s k) k 1 with ct := { s.ct with ra := up s.ct.ra } }) (bt_top hbg k)
theorem Wk.cool {s : St} (h : Wk s) (k : Int) : Wk (StackM.cool s k) := by
  have hg := h.gone k
  obtain ⟨a, b, c⟩ := gone_key s k
  exact hg.cold a b c
end Go.Proofs.StackM
namespace Go.Proofs.StackM
set_option linter.unusedVariables false
theorem many_wo (l : List Pg) (k d : Int) : many (wo l k) d ≤ many l d := by
  unfold many wo
  rw [List.countP_filter]
  exact List.countP_mono_left (fun p _ h => by simp at h; simpa using h.1)
theorem many_wo_lt {l : List Pg} {p : Pg} {d : Int} (hp : p ∈ l) (hd : p.kind = d) : many (wo l p.key) d < many l d := by
  induction l with
  | nil => cases hp
  | cons a l ih =>
    have hle := many_wo l p.key d
    by_cases hk : a.key = p.key
    · have e : wo (a :: l) p.key = wo l p.key := by simp [wo, hk]
      rw [e]
      rcases List.mem_cons.1 hp with rfl | hp
      · have : many (p :: l) d = many l d + 1 := by simp [many, hd]
        omega
      · have h1 := ih hp
        have : many l d ≤ many (a :: l) d := by unfold many; rw [List.countP_cons]; omega
        omega
    · rcases List.mem_cons.1 hp with rfl | hp
      · exact absurd rfl hk
      · have h1 := ih hp
        have e : wo (a :: l) p.key = a :: wo l p.key := by simp [wo, hk]
        rw [e]
        simp only [many, List.countP_cons] at h1 ⊢
        omega
theorem many_set (l : List Pg) (i : Nat) (k : Int) : many (l.set i ⟨k, 3, false, false⟩) 1 ≤ many l 1 := by
  induction l generalizing i with
  | nil => simp [many]
  | cons a l ih =>
    cases i with
    | zero => unfold many; rw [List.set_cons_zero, List.countP_cons, List.countP_cons]; simp
    | succ i =>
      have := ih i
      simp only [many, List.set_cons_succ, List.countP_cons] at this ⊢
      omega
/-- hot pages, and the kept ones -/
abbrev H (s : St) : Nat := many s.pg 1
theorem prune_H (s : St) : H (prune s) ≤ H s := prune_ind (P := fun t => H t ≤ H s) (fun t p _ _ h => Nat.le_trans (many_wo _ _ _) h) s (Nat.le_refl _)
theorem prune_q (s : St) : (prune s).qu = s.qu := prune_ind (P := fun t => t.qu = s.qu) (fun t p _ _ h => h) s rfl
theorem ls_le (l : List Int) (k : Int) : (ls l k).length ≤ l.length := List.length_filter_le _ _
theorem prune_g (s : St) : (prune s).gh.length ≤ s.gh.length := prune_ind (P := fun t => t.gh.length ≤ s.gh.length) (fun t p _ _ h => Nat.le_trans (ls_le _ _) h) s (Nat.le_refl _)
theorem loS_tot {s : St} {p : Pg} (hl : s.pg.getLast? = some p) (hb : Bt s) : H (loS s p) + (loS s p).qu.length ≤ H s + s.qu.length ∧ (loS s p).gh.length ≤ s.gh.length := by
  have h1 := many_wo_lt (List.mem_of_getLast? hl) (hb p hl)
  unfold loS
  have h2 := prune_H { s with pg := wo s.pg p.key, qu := s.qu ++ [p.key], ct := { s.ct with lo := up s.ct.lo } }
  have h3 := prune_q { s with pg := wo s.pg p.key, qu := s.qu ++ [p.key], ct := { s.ct with lo := up s.ct.lo } }
  have h4 := prune_g { s with pg := wo s.pg p.key, qu := s.qu ++ [p.key], ct := { s.ct with lo := up s.ct.lo } }
  rw [h3]
  dsimp only [H] at *
  simp only [List.length_append, List.length_singleton]
  exact ⟨by omega, h4⟩
theorem lower_tot {s : St} (hb : Bt s) : H (lower s) + (lower s).qu.length ≤ H s + s.qu.length ∧ (lower s).gh.length ≤ s.gh.length ∧ Bt (lower s) ∧ (lower s).cf = s.cf :=
  lower_ind (P := fun t => H t + t.qu.length ≤ H s + s.qu.length ∧ t.gh.length ≤ s.gh.length ∧ Bt t ∧ t.cf = s.cf) (fun t p _ hp ⟨h1, h2, h3, h4⟩ => by
    obtain ⟨a, b⟩ := loS_tot hp h3
    exact ⟨by omega, by omega, prune_bt _, by rw [loS_cf]; exact h4⟩) s ⟨Nat.le_refl _, Nat.le_refl _, hb, rfl⟩
theorem spS_H (s : St) (k : Int) : H (spS s k) ≤ H s := by
  unfold spS; split
  · exact many_set _ _ _
  · exact Nat.le_refl _
theorem spill_H (most : Int) (s : St) : H (spill most s).1 ≤ H s ∧ (spill most s).1.cf = s.cf :=
  spill_ind (P := fun t => H t ≤ H s ∧ t.cf = s.cf) (fun t k r _ _ h => ⟨Nat.le_trans (spS_H t k) h.1, by rw [spS_cf]; exact h.2⟩) s ⟨Nat.le_refl _, rfl⟩
theorem spill_q (most : Int) (s : St) : (spill most s).1.qu.length ≤ s.qu.length :=
  spill_ind (P := fun t => t.qu.length ≤ s.qu.length) (fun t k r _ hq h => by rw [spS_qu]; exact Nat.le_trans (ls_le _ _) h) s (Nat.le_refl _)
theorem trim_H (s : St) : H (trim s) ≤ H s ∧ (trim s).qu = s.qu ∧ (trim s).cf = s.cf ∧ (trim s).gh.length ≤ s.gh.length :=
  trim_ind (P := fun t => H t ≤ H s ∧ t.qu = s.qu ∧ t.cf = s.cf ∧ t.gh.length ≤ s.gh.length) (fun t k r _ _ h => ⟨Nat.le_trans (many_wo _ _ _) h.1, h.2.1, h.2.2.1, Nat.le_trans (ls_le _ _) h.2.2.2⟩) s ⟨Nat.le_refl _, rfl, rfl, Nat.le_refl _⟩
/-- a config of LIRS that may be -/
def Cl (c : Cf) : Prop := c.p = 1 ∧ (2 ≤ c.c ∧ c.c ≤ 256) ∧ (1 ≤ c.q ∧ c.q < c.c) ∧ (0 ≤ c.g ∧ c.g ≤ 512)
/-- a right state, with its keys told apart -/
structure Rg (s : St) : Prop where
  cl : Cl s.cf
  tg : s.tg = 0
  co : s.co = 0
  te : s.te = 0
  wk : Wk s
  bt : Bt s
  b1 : (H s : Int) ≤ s.cf.c - s.cf.q
  b2 : (H s : Int) + s.qu.length ≤ s.cf.c
  b3 : (s.gh.length : Int) ≤ s.cf.g
theorem kOf_find {s : St} {k : Int} (h : Wk s) : (∃ p ∈ s.pg, p.key = k ∧ kOf s k = p.kind) ∨ ((∀ p ∈ s.pg, p.key ≠ k) ∧ kOf s k = if k ∈ s.qu then 2 else 0) := by
  unfold kOf
  cases e : s.pg.find? fun p => decide (p.key = k) with
  | some p => exact .inl ⟨p, List.mem_of_find?_eq_some e, by simpa using List.find?_some e, rfl⟩
  | none =>
    right
    rw [List.find?_eq_none] at e
    exact ⟨fun p hp h2 => by simpa [h2] using e p hp, rfl⟩
theorem key_one {l : List Pg} (h : (l.map Pg.key).Nodup) {p q : Pg} (hp : p ∈ l) (hq : q ∈ l) (e : p.key = q.key) : p = q := by
  obtain ⟨i, hi, rfl⟩ := List.getElem_of_mem hp
  obtain ⟨j, hj, rfl⟩ := List.getElem_of_mem hq
  have := key_inj h hi hj e
  subst this
  rfl
theorem kOf_page {s : St} {k : Int} (h : Wk s) {p : Pg} (hp : p ∈ s.pg) (hk : p.key = k) : kOf s k = p.kind := by
  rcases kOf_find (k := k) h with ⟨q, hq, h1, h2⟩ | ⟨h1, _⟩
  · rw [h2, key_one h.nk hp hq (hk.trans h1.symm)]
  · exact absurd hk (h1 p hp)
theorem Rg.ct {s : St} (h : Rg s) (c : Ct) : Rg { s with ct := c } := ⟨h.cl, h.tg, h.co, h.te, h.wk.ct c, h.bt, h.b1, h.b2, h.b3⟩
/-- a pruned state whose bounds hold is right -/
theorem prune_rg {s : St} (cl : Cl s.cf) (tg : s.tg = 0) (co : s.co = 0) (te : s.te = 0) (wk : Wk s) (b1 : (H s : Int) ≤ s.cf.c - s.cf.q) (b2 : (H s : Int) + s.qu.length ≤ s.cf.c) (b3 : (s.gh.length : Int) ≤ s.cf.g) : Rg (prune s) := by
  have hT : (prune s).tg = s.tg ∧ (prune s).co = s.co ∧ (prune s).te = s.te := prune_ind (P := fun t => t.tg = s.tg ∧ t.co = s.co ∧ t.te = s.te) (fun t p _ _ h => h) s ⟨rfl, rfl, rfl⟩
  have hc := prune_cf s
  have h1 := prune_H s
  have h2 := prune_q s
  have h3 := prune_g s
  refine ⟨by rw [hc]; exact cl, hT.1.trans tg, hT.2.1.trans co, hT.2.2.trans te, wk.prune, prune_bt s, ?_, ?_, ?_⟩
  · rw [hc]; omega
  · rw [hc, h2]; omega
  · rw [hc]; omega
theorem zeros_lower (s : St) : (lower s).tg = s.tg ∧ (lower s).co = s.co ∧ (lower s).te = s.te :=
  lower_ind (P := fun t => t.tg = s.tg ∧ t.co = s.co ∧ t.te = s.te) (fun t p _ _ h => by
    have hT := prune_ind (P := fun u => u.tg = t.tg ∧ u.co = t.co ∧ u.te = t.te) (fun u p _ _ h => h) { t with pg := wo t.pg p.key, qu := t.qu ++ [p.key], ct := { t.ct with lo := up t.ct.lo } } ⟨rfl, rfl, rfl⟩
    exact ⟨hT.1.trans h.1, hT.2.1.trans h.2.1, hT.2.2.trans h.2.2⟩) s ⟨rfl, rfl, rfl⟩
theorem zeros_spill (most : Int) (s : St) : (spill most s).1.tg = s.tg ∧ (spill most s).1.co = s.co ∧ (spill most s).1.te = s.te :=
  spill_ind (P := fun t => t.tg = s.tg ∧ t.co = s.co ∧ t.te = s.te) (fun t k r _ _ h => by unfold spS; split <;> exact h) s ⟨rfl, rfl, rfl⟩
theorem zeros_trim (s : St) : (trim s).tg = s.tg ∧ (trim s).co = s.co ∧ (trim s).te = s.te :=
  trim_ind (P := fun t => t.tg = s.tg ∧ t.co = s.co ∧ t.te = s.te) (fun t k r _ _ h => h) s ⟨rfl, rfl, rfl⟩
/-- a key is raised where there is place for one more kept page -/
theorem raise_rg {s : St} {k : Int} (cl : Cl s.cf) (tg : s.tg = 0) (co : s.co = 0) (te : s.te = 0) (wk : Wk s) (bt : Bt s) (hk : ∀ p ∈ s.pg, p.key = k → p.kind ≠ 1) (b2 : (H s : Int) + (ls s.qu k).length + 1 ≤ s.cf.c) (b3 : (s.gh.length : Int) ≤ s.cf.g) : Rg (prune (raise s k)) := by
  have hw := wk.raise bt hk
  have hbg : Bt (gone s k) := bt_wo (k := k) bt rfl hk
  have hbt : Bt { top (gone s k) k 1 with ct := { s.ct with ra := up s.ct.ra } } := bt_top hbg k
  obtain ⟨t1, t2, _, t4⟩ := lower_tot hbt
  have hr := lower_room { top (gone s k) k 1 with ct := { s.ct with ra := up s.ct.ra } } (by have := cl.2.2.1.2; show 0 ≤ s.cf.c - s.cf.q; omega)
  have hz := zeros_lower { top (gone s k) k 1 with ct := { s.ct with ra := up s.ct.ra } }
  have hm : H { top (gone s k) k 1 with ct := { s.ct with ra := up s.ct.ra } } ≤ H s + 1 := by
    have := many_wo s.pg k 1
    show many (⟨k, 1, false, false⟩ :: wo s.pg k) 1 ≤ _
    simp only [many, List.countP_cons] at this ⊢
    simp
    exact this
  have hg := ls_le s.gh k
  have e : raise s k = lower { top (gone s k) k 1 with ct := { s.ct with ra := up s.ct.ra } } := rfl
  have hcf : (raise s k).cf = s.cf := t4
  refine prune_rg (by rw [hcf]; exact cl) (hz.1.trans tg) (hz.2.1.trans co) (hz.2.2.trans te) hw.1 ?_ ?_ ?_
  · rw [hcf]; exact hr
  · rw [hcf]
    rw [← e] at t1
    have t1' : H (raise s k) + (raise s k).qu.length ≤ H { top (gone s k) k 1 with ct := { s.ct with ra := up s.ct.ra } } + (ls s.qu k).length := t1
    omega
  · rw [hcf]
    have t2' : (raise s k).gh.length ≤ (ls s.gh k).length := t2
    omega
theorem cool_rg {s : St} {k : Int} (cl : Cl s.cf) (tg : s.tg = 0) (co : s.co = 0) (te : s.te = 0) (wk : Wk s) (b1 : (H s : Int) ≤ s.cf.c - s.cf.q) (b2 : (H s : Int) + (ls s.qu k).length + 1 ≤ s.cf.c) (b3 : (s.gh.length : Int) ≤ s.cf.g) : Rg (prune (cool s k)) := by
  have hm : H (cool s k) ≤ H s := by
    have := many_wo s.pg k 1
    show many (⟨k, 2, false, false⟩ :: wo s.pg k) 1 ≤ _
    simp only [many, List.countP_cons] at this ⊢
    simp
    exact this
  have hg := ls_le s.gh k
  refine prune_rg cl tg co te (wk.cool k) ?_ ?_ ?_
  · show (H (cool s k) : Int) ≤ s.cf.c - s.cf.q; omega
  · show (H (cool s k) : Int) + ((ls s.qu k ++ [k]).length : Nat) ≤ s.cf.c
    simp only [List.length_append, List.length_singleton]
    omega
  · show ((ls s.gh k).length : Int) ≤ s.cf.g; omega
theorem touch_rg {s : St} (h : Rg s) (k : Int) : Rg (touch s k) := by
  unfold touch
  split
  · rename_i hk
    have hh : Rg (hit s) := h.ct _
    split
    · rename_i h1
      rcases kOf_find (k := k) h.wk with ⟨p, hp, hpk, e⟩ | ⟨_, e⟩
      · have hp1 : p.kind = 1 := e.symm.trans h1
        have hlt := many_wo_lt hp hp1
        rw [hpk] at hlt
        have hpi := h.wk.pk p hp
        rw [hpk] at hpi
        have hnq : k ∉ s.qu := fun m => absurd (hpi.2.2.2.1.1 m) (by rw [hp1]; decide)
        have hng : k ∉ s.gh := fun m => absurd (hpi.2.2.2.2.1 m) (by rw [hp1]; decide)
        have hq : ls s.qu k = s.qu := by unfold ls; rw [List.filter_eq_self]; intro x hx; simp; exact fun e => hnq (e ▸ hx)
        have hgq : ls s.gh k = s.gh := by unfold ls; rw [List.filter_eq_self]; intro x hx; simp; exact fun e => hng (e ▸ hx)
        have hw : Wk { hit s with pg := ⟨k, 1, false, false⟩ :: wo s.pg k } := by
          obtain ⟨a, b, c⟩ := gone_key s k
          have h2 := ((h.wk.gone k).hot a b c).ct (hit s).ct
          have e2 : ({ top (gone s k) k 1 with ct := (hit s).ct } : St) = { hit s with pg := ⟨k, 1, false, false⟩ :: wo s.pg k } := by
            show (⟨s.cf, s.tg, _, ls s.qu k, ls s.gh k, s.co, s.te, _⟩ : St) = _
            rw [hq, hgq]
            rfl
          rw [← e2]; exact h2
        have hm : H { hit s with pg := ⟨k, 1, false, false⟩ :: wo s.pg k } ≤ H s := by
          show many (⟨k, 1, false, false⟩ :: wo s.pg k) 1 ≤ many s.pg 1
          have : many (⟨k, 1, false, false⟩ :: wo s.pg k) 1 = many (wo s.pg k) 1 + 1 := by simp [many]
          omega
        refine prune_rg h.cl h.tg h.co h.te hw ?_ ?_ ?_
        · have := h.b1; show (H { hit s with pg := ⟨k, 1, false, false⟩ :: wo s.pg k } : Int) ≤ s.cf.c - s.cf.q; omega
        · have := h.b2; show (H { hit s with pg := ⟨k, 1, false, false⟩ :: wo s.pg k } : Int) + s.qu.length ≤ s.cf.c; omega
        · exact h.b3
      · rw [h1] at e
        split at e <;> cases e
    · rename_i h1
      have hk2 : kOf s k = 2 := hk.resolve_left h1
      have hqk : k ∈ s.qu := by
        rcases kOf_find (k := k) h.wk with ⟨p, hp, hpk, e⟩ | ⟨_, e⟩
        · have := (h.wk.pk p hp).2.2.2.1.2 (e.symm.trans hk2)
          rw [hpk] at this; exact this
        · rw [hk2] at e
          split at e
          · assumption
          · cases e
      have hlt := ls_lt hqk
      have hnh : ∀ p ∈ s.pg, p.key = k → p.kind ≠ 1 := fun p hp e => by rw [← kOf_page h.wk hp e, hk2]; decide
      have hb2 : (H (hit s) : Int) + (ls (hit s).qu k).length + 1 ≤ (hit s).cf.c := by
        have := h.b2
        show (H s : Int) + (ls s.qu k).length + 1 ≤ s.cf.c
        omega
      split
      · exact raise_rg hh.cl hh.tg hh.co hh.te hh.wk hh.bt hnh hb2 hh.b3
      · exact cool_rg hh.cl hh.tg hh.co hh.te hh.wk hh.b1 hb2 hh.b3
  · exact h
theorem drop_rg {s : St} (h : Rg s) (k : Int) : Rg (drop s k) := by
  have h1 := many_wo s.pg k 1
  have h2 := ls_le s.qu k
  have h3 := ls_le s.gh k
  refine prune_rg (s := gone s k) h.cl h.tg h.co h.te (h.wk.gone k) ?_ ?_ ?_
  · have := h.b1; show (many (wo s.pg k) 1 : Int) ≤ s.cf.c - s.cf.q; dsimp only [H] at this; omega
  · have := h.b2; show (many (wo s.pg k) 1 : Int) + (ls s.qu k).length ≤ s.cf.c; dsimp only [H] at this; omega
  · have := h.b3; show ((ls s.gh k).length : Int) ≤ s.cf.g; omega
theorem admit_rg {s : St} (h : Rg s) (k : Int) : Rg (admit s k) := by
  unfold admit
  split
  · exact h
  · rename_i hk
    have hnh : ∀ p ∈ s.pg, p.key = k → p.kind ≠ 1 := fun p hp e hp1 => hk (.inl (by rw [kOf_page h.wk hp e]; exact hp1))
    have hg0 : Wk (gone (mis s) k) := (h.wk.ct (mis s).ct).gone k
    have hb0 : Bt (gone (mis s) k) := bt_wo (s := s) (k := k) h.bt rfl hnh
    obtain ⟨hw1, hb1⟩ := hg0.spill hb0 (s.cf.c - 1)
    obtain ⟨hw2, hb2⟩ := hw1.trim hb1
    have m0 := many_wo s.pg k 1
    obtain ⟨m1, c1⟩ := spill_H (s.cf.c - 1) (gone (mis s) k)
    obtain ⟨m2, q2, c2, g2⟩ := trim_H (adm s k).1
    have z1 := zeros_spill (s.cf.c - 1) (gone (mis s) k)
    have z2 := zeros_trim (adm s k).1
    have hcf : (trim (adm s k).1).cf = s.cf := c2.trans c1
    have hH : (H (trim (adm s k).1) : Int) ≤ s.cf.c - s.cf.q := by
      have := h.b1
      have e1 : H (adm s k).1 ≤ many (wo s.pg k) 1 := m1
      dsimp only [H] at *
      omega
    have htot : (H (trim (adm s k).1) : Int) + (trim (adm s k).1).qu.length + 1 ≤ s.cf.c := by
      rw [q2]
      rcases spill_most (s.cf.c - 1) (gone (mis s) k) with hs | hs
      · have e1 : (many (adm s k).1.pg 1 : Int) + (adm s k).1.qu.length ≤ s.cf.c - 1 := hs
        dsimp only [H] at *
        omega
      · have e1 : (adm s k).1.qu = [] := hs
        rw [e1]
        have := h.cl.2.2.1
        simp
        dsimp only [H] at *
        omega
    have htot2 : (H (trim (adm s k).1) : Int) + (ls (trim (adm s k).1).qu k).length + 1 ≤ (trim (adm s k).1).cf.c := by
      have := ls_le (trim (adm s k).1).qu k
      rw [hcf]
      omega
    have hgl : ((trim (adm s k).1).gh.length : Int) ≤ (trim (adm s k).1).cf.g := by
      have := trim_gh (adm s k).1 (by rw [show (adm s k).1.cf = s.cf from c1]; exact h.cl.2.2.2.1)
      rw [c2]; exact this
    have hcl : Cl (trim (adm s k).1).cf := by rw [hcf]; exact h.cl
    have t1 : (trim (adm s k).1).tg = 0 := z2.1.trans (z1.1.trans h.tg)
    have t2 : (trim (adm s k).1).co = 0 := z2.2.1.trans (z1.2.1.trans h.co)
    have t3 : (trim (adm s k).1).te = 0 := z2.2.2.trans (z1.2.2.trans h.te)
    split
    · refine raise_rg hcl t1 t2 t3 hw2 hb2 (fun p hp e => ?_) htot2 hgl
      exfalso
      have hno : ∀ p ∈ (trim (adm s k).1).pg, p.key ≠ k := by
        have s0 : ∀ p ∈ (gone (mis s) k).pg, p.key ≠ k := (gone_key (mis s) k).1
        have q0 : k ∉ (gone (mis s) k).qu := (gone_key (mis s) k).2.1
        have s1 : (∀ p ∈ (adm s k).1.pg, p.key ≠ k) ∧ k ∉ (adm s k).1.qu := spill_ind (P := fun t => (∀ p ∈ t.pg, p.key ≠ k) ∧ k ∉ t.qu) (fun t x r _ hq ht => by
          have hxk : x ≠ k := fun e => ht.2 (by rw [hq, e]; simp)
          unfold spS
          split
          · refine ⟨fun p hp => ?_, fun m => ht.2 (ls_mem.1 m).1⟩
            rcases List.mem_or_eq_of_mem_set hp with hp | rfl
            · exact ht.1 p hp
            · exact hxk
          · exact ⟨ht.1, fun m => ht.2 (ls_mem.1 m).1⟩) _ ⟨s0, q0⟩
        exact trim_ind (P := fun t => ∀ p ∈ t.pg, p.key ≠ k) (fun t x r _ _ ht p hp => ht p (wo_mem.1 hp).1) _ s1.1
      exact hno p hp e
    · exact cool_rg hcl t1 t2 t3 hw2 (by rw [hcf]; exact hH) htot2 hgl
theorem resize_rg {s : St} (h : Rg s) (c : Cf) (hc : Cl c) : Rg (resize s c) := by
  have hw0 : Wk { s with cf := c } := h.wk.cf c
  have hb0 : Bt { s with cf := c } := h.bt
  obtain ⟨hw1, hb1⟩ := hw0.lower hb0
  obtain ⟨hw2, hb2⟩ := hw1.spill hb1 c.c
  obtain ⟨hw3, hb3⟩ := hw2.trim hb2
  have hr := lower_room { s with cf := c } (by have := hc.2.2.1; show 0 ≤ c.c - c.q; omega)
  have c0 : (lower { s with cf := c }).cf = c := (lower_tot hb0).2.2.2
  obtain ⟨m1, c1⟩ := spill_H c.c (lower { s with cf := c })
  obtain ⟨m2, q2, c2, g2⟩ := trim_H (rsz s c).1
  have z0 := zeros_lower { s with cf := c }
  have z1 := zeros_spill c.c (lower { s with cf := c })
  have z2 := zeros_trim (rsz s c).1
  have hcf : (resize s c).cf = c := c2.trans (c1.trans c0)
  have hr' : (many (lower { s with cf := c }).pg 1 : Int) ≤ c.c - c.q := hr
  have e1 : H (rsz s c).1 ≤ many (lower { s with cf := c }).pg 1 := m1
  have e2 : H (resize s c) ≤ H (rsz s c).1 := m2
  refine ⟨by rw [hcf]; exact hc, z2.1.trans (z1.1.trans (z0.1.trans h.tg)), z2.2.1.trans (z1.2.1.trans (z0.2.1.trans h.co)), z2.2.2.trans (z1.2.2.trans (z0.2.2.trans h.te)), hw3, hb3, ?_, ?_, ?_⟩
  · rw [hcf]; omega
  · rw [hcf]
    have q2' : (resize s c).qu = (rsz s c).1.qu := q2
    rw [q2']
    rcases spill_most c.c (lower { s with cf := c }) with hs | hs
    · have e3 : (many (rsz s c).1.pg 1 : Int) + (rsz s c).1.qu.length ≤ c.c := hs
      dsimp only [H] at *
      omega
    · have e3 : (rsz s c).1.qu = [] := hs
      rw [e3]
      have := hc.2.2.1
      simp
      omega
  · have := trim_gh (rsz s c).1 (by rw [show (rsz s c).1.cf = c from c1.trans c0]; exact hc.2.2.2.1)
    rw [hcf]
    rw [show (rsz s c).1.cf = c from c1.trans c0] at this
    exact this
end Go.Proofs.StackM
namespace Go.Proofs.StackM
set_option linter.unusedVariables false
/-- hot pages stay, no matter what is pruned, spilled, trimmed -/
def Hot (s : St) (k : Int) : Prop := ∃ p ∈ s.pg, p.key = k ∧ p.kind = 1
theorem hot_prune {s : St} {k : Int} (hw : Wk s) (h : Hot s k) : Hot (prune s) k :=
  (prune_ind (P := fun t => Wk t ∧ Hot t k) (fun t p hl hk ht => ⟨ht.1.prS p, by
    obtain ⟨q, hq, e1, e2⟩ := ht.2
    exact ⟨q, wo_mem.2 ⟨hq, fun e => hk (by rw [← key_one ht.1.nk hq (List.mem_of_getLast? hl) e]; exact e2)⟩, e1, e2⟩⟩) s ⟨hw, h⟩).2
theorem hot_spill {s : St} {k : Int} (most : Int) (hw : Wk s) (hb : Bt s) (h : Hot s k) : Hot (spill most s).1 k :=
  (spill_ind (P := fun t => (Wk t ∧ Bt t) ∧ Hot t k) (fun t x r _ hq ht => by
    have hx : x ∈ t.qu := by rw [hq]; simp
    refine ⟨⟨ht.1.1.spS hx, bt_spS ht.1.1 ht.1.2 hx⟩, ?_⟩
    obtain ⟨q, hq, e1, e2⟩ := ht.2
    unfold spS
    split
    · rename_i i hi
      obtain ⟨hil, hik⟩ := fnd_at hi
      have hpi := ht.1.1.pk t.pg[i] (List.getElem_mem hil)
      rw [hik] at hpi
      have hk2 := hpi.2.2.2.1.1 hx
      obtain ⟨j, hj, rfl⟩ := List.getElem_of_mem hq
      have hne : i ≠ j := fun e => by subst e; rw [hk2] at e2; cases e2
      refine ⟨t.pg[j], ?_, e1, e2⟩
      have : (t.pg.set i ⟨x, 3, false, false⟩)[j]'(by simpa using hj) = t.pg[j] := by rw [List.getElem_set, if_neg hne]
      rw [← this]
      exact List.getElem_mem _
    · exact ⟨q, hq, e1, e2⟩) s ⟨⟨hw, hb⟩, h⟩).2
theorem hot_trim {s : St} {k : Int} (hw : Wk s) (hb : Bt s) (h : Hot s k) : Hot (trim s) k :=
  (trim_ind (P := fun t => (Wk t ∧ Bt t) ∧ Hot t k) (fun t x r _ hq ht => by
    have hx : x ∈ t.gh := by rw [hq]; simp
    refine ⟨ht.1.1.trS ht.1.2 hx, ?_⟩
    obtain ⟨q, hq, e1, e2⟩ := ht.2
    refine ⟨q, wo_mem.2 ⟨hq, fun e => ?_⟩, e1, e2⟩
    have := (ht.1.1.pk q hq).2.2.2.2.1 (by rw [e]; exact hx)
    rw [e2] at this
    cases this) s ⟨⟨hw, hb⟩, h⟩).2
theorem many_wo_eq {l : List Pg} {k : Int} (h : ∀ p ∈ l, p.key = k → p.kind ≠ 1) : many (wo l k) 1 = many l 1 := by
  unfold many wo
  rw [List.countP_filter]
  exact List.countP_congr (fun p hp => by
    by_cases e : p.key = k
    · simp [e, h p hp e]
    · simp [e])
theorem many_set_eq {l : List Pg} {i : Nat} (hi : i < l.length) (hk : l[i].kind ≠ 1) (k : Int) : many (l.set i ⟨k, 3, false, false⟩) 1 = many l 1 := by
  induction l generalizing i with
  | nil => cases hi
  | cons a l ih =>
    cases i with
    | zero =>
      have hk' : a.kind ≠ 1 := hk
      unfold many
      rw [List.set_cons_zero, List.countP_cons, List.countP_cons]
      simp [hk']
    | succ i =>
      have := ih (i := i) (by simpa using hi) (by simpa using hk)
      unfold many at this ⊢
      rw [List.set_cons_succ, List.countP_cons, List.countP_cons, this]
/-- the number of hot pages is kept, too -/
theorem prune_Heq {s : St} (hw : Wk s) : H (prune s) = H s :=
  (prune_ind (P := fun t => Wk t ∧ H t = H s) (fun t p hl hk h => ⟨h.1.prS p, by
    rw [← h.2]
    exact many_wo_eq (fun q hq e => by rw [key_one h.1.nk hq (List.mem_of_getLast? hl) e]; exact hk)⟩) s ⟨hw, rfl⟩).2
theorem spS_Heq {s : St} (hw : Wk s) {k : Int} (hk : k ∈ s.qu) : H (spS s k) = H s := by
  unfold spS
  split
  · rename_i i hi
    obtain ⟨hil, hik⟩ := fnd_at hi
    have hpi := hw.pk s.pg[i] (List.getElem_mem hil)
    rw [hik] at hpi
    exact many_set_eq hil (by rw [hpi.2.2.2.1.1 hk]; decide) k
  · rfl
theorem spill_Heq {s : St} (most : Int) (hw : Wk s) (hb : Bt s) : H (spill most s).1 = H s :=
  (spill_ind (P := fun t => (Wk t ∧ Bt t) ∧ H t = H s) (fun t x r _ hq ht => by
    have hx : x ∈ t.qu := by rw [hq]; simp
    exact ⟨⟨ht.1.1.spS hx, bt_spS ht.1.1 ht.1.2 hx⟩, (spS_Heq ht.1.1 hx).trans ht.2⟩) s ⟨⟨hw, hb⟩, rfl⟩).2
theorem trim_Heq {s : St} (hw : Wk s) (hb : Bt s) : H (trim s) = H s :=
  (trim_ind (P := fun t => (Wk t ∧ Bt t) ∧ H t = H s) (fun t x r _ hq ht => by
    have hx : x ∈ t.gh := by rw [hq]; simp
    refine ⟨ht.1.1.trS ht.1.2 hx, ?_⟩
    rw [← ht.2]
    exact many_wo_eq (fun q hq e => by rw [(ht.1.1.pk q hq).2.2.2.2.1 (by rw [e]; exact hx)]; decide)) s ⟨⟨hw, hb⟩, rfl⟩).2
theorem kOf_queue {s : St} (hw : Wk s) {k : Int} (hk : k ∈ s.qu) : kOf s k = 2 := by
  rcases kOf_find (k := k) hw with ⟨p, hp, e1, e2⟩ | ⟨_, e2⟩
  · rw [e2]
    have := (hw.pk p hp).2.2.2.1.1 (by rw [e1]; exact hk)
    exact this
  · rw [e2, if_pos hk]
theorem kOf_hot {s : St} (hw : Wk s) {k : Int} : kOf s k = 1 ↔ Hot s k := by
  constructor
  · intro h
    rcases kOf_find (k := k) hw with ⟨p, hp, e1, e2⟩ | ⟨_, e2⟩
    · exact ⟨p, hp, e1, e2.symm.trans h⟩
    · rw [h] at e2
      split at e2 <;> cases e2
  · rintro ⟨p, hp, e1, e2⟩
    rw [kOf_page hw hp e1, e2]
/-- one step of a scan -/
theorem scan_step {s : St} (h : Rg s) (hfull : ¬ Rm s) {k : Int} (hk : kOf s k = 0) :
    Rg (admit s k) ∧ kOf (admit s k) k = 2 ∧ H (admit s k) = H s ∧ (admit s k).cf = s.cf ∧ (admit s k).ct.ra = s.ct.ra ∧ (admit s k).ct.lo = s.ct.lo ∧ (∀ x, Hot s x → Hot (admit s k) x) := by
  have hrg := admit_rg h k
  have hnk : ¬ Kpt s k := by unfold Kpt; rw [hk]; decide
  have hnh : ∀ p ∈ s.pg, p.key = k → p.kind ≠ 1 := fun p hp e hp1 => hnk (.inl (by rw [kOf_page h.wk hp e]; exact hp1))
  have hg0 : Wk (gone (mis s) k) := (h.wk.ct (mis s).ct).gone k
  have hb0 : Bt (gone (mis s) k) := bt_wo (s := s) (k := k) h.bt rfl hnh
  obtain ⟨hw1, hb1⟩ := hg0.spill hb0 (s.cf.c - 1)
  obtain ⟨hw2, hb2⟩ := hw1.trim hb1
  have e0 : H (gone (mis s) k) = H s := many_wo_eq hnh
  have e1 : H (adm s k).1 = H s := (spill_Heq (s.cf.c - 1) hg0 hb0).trans e0
  have e2 : H (trim (adm s k).1) = H s := (trim_Heq hw1 hb1).trans e1
  have c1 := (spill_H (s.cf.c - 1) (gone (mis s) k)).2
  have c2 := (trim_H (adm s k).1).2.2.1
  have hcf : (trim (adm s k).1).cf = s.cf := c2.trans c1
  have hnr : ¬ Rm (trim (adm s k).1) := by
    unfold Rm at hfull ⊢
    rw [hcf]
    have : many (trim (adm s k).1).pg 1 = many s.pg 1 := e2
    rw [this]; exact hfull
  have ha : admit s k = prune (cool (trim (adm s k).1) k) := by
    unfold admit
    rw [if_neg hnk, if_neg (fun e => e.elim (fun e3 => by rw [hk] at e3; cases e3) hnr)]
  have hwc : Wk (cool (trim (adm s k).1) k) := hw2.cool k
  have hk1 : ∀ p ∈ (trim (adm s k).1).pg, p.key ≠ k ∨ p.kind ≠ 1 := fun p hp => by
    by_cases e : p.key = k
    · right
      intro e1
      have s0 : ∀ p ∈ (gone (mis s) k).pg, p.key ≠ k := (gone_key (mis s) k).1
      have q0 : k ∉ (gone (mis s) k).qu := (gone_key (mis s) k).2.1
      have s1 : (∀ p ∈ (adm s k).1.pg, p.key ≠ k) ∧ k ∉ (adm s k).1.qu := spill_ind (P := fun t => (∀ p ∈ t.pg, p.key ≠ k) ∧ k ∉ t.qu) (fun t x r _ hq ht => by
        have hxk : x ≠ k := fun e => ht.2 (by rw [hq, e]; simp)
        unfold spS
        split
        · refine ⟨fun p hp => ?_, fun m => ht.2 (ls_mem.1 m).1⟩
          rcases List.mem_or_eq_of_mem_set hp with hp | rfl
          · exact ht.1 p hp
          · exact hxk
        · exact ⟨ht.1, fun m => ht.2 (ls_mem.1 m).1⟩) _ ⟨s0, q0⟩
      exact (trim_ind (P := fun t => ∀ p ∈ t.pg, p.key ≠ k) (fun t x r _ _ ht p hp => ht p (wo_mem.1 hp).1) _ s1.1) p hp e
    · exact .inl e
  have eC : H (cool (trim (adm s k).1) k) = H s := by
    rw [← e2]
    have := many_wo_eq (l := (trim (adm s k).1).pg) (k := k) (fun p hp e => (hk1 p hp).resolve_left (fun h => h e))
    show many (⟨k, 2, false, false⟩ :: wo (trim (adm s k).1).pg k) 1 = _
    rw [show H (trim (adm s k).1) = many (trim (adm s k).1).pg 1 from rfl, ← this]
    unfold many
    rw [List.countP_cons]
    simp
  have hq : k ∈ (prune (cool (trim (adm s k).1) k)).qu := by
    rw [prune_q]
    show k ∈ ls (trim (adm s k).1).qu k ++ [k]
    simp
  have r1 : (prune (cool (trim (adm s k).1) k)).ct.ra = s.ct.ra ∧ (prune (cool (trim (adm s k).1) k)).ct.lo = s.ct.lo := by
    have a0 : (adm s k).1.ct.ra = s.ct.ra ∧ (adm s k).1.ct.lo = s.ct.lo := spill_ind (P := fun t => t.ct.ra = s.ct.ra ∧ t.ct.lo = s.ct.lo) (fun t x r _ _ ht => by unfold spS; split <;> exact ht) _ ⟨rfl, rfl⟩
    have a1 : (trim (adm s k).1).ct.ra = s.ct.ra ∧ (trim (adm s k).1).ct.lo = s.ct.lo := trim_ind (P := fun t => t.ct.ra = s.ct.ra ∧ t.ct.lo = s.ct.lo) (fun t x r _ _ ht => ht) _ a0
    exact prune_ind (P := fun t => t.ct.ra = s.ct.ra ∧ t.ct.lo = s.ct.lo) (fun t p _ _ ht => ht) _ a1
  refine ⟨hrg, ?_, ?_, ?_, ?_, ?_, fun x hx => ?_⟩
  · rw [ha]; exact kOf_queue hwc.prune hq
  · rw [ha, prune_Heq hwc, eC]
  · rw [ha, prune_cf]; exact hcf
  · rw [ha]; exact r1.1
  · rw [ha]; exact r1.2
  · rw [ha]
    have hxk : x ≠ k := fun e => by
      obtain ⟨p, hp, e3, e4⟩ := hx
      exact hnh p hp (e3.trans e) e4
    have h0 : Hot (gone (mis s) k) x := by
      obtain ⟨p, hp, e3, e4⟩ := hx
      exact ⟨p, wo_mem.2 ⟨hp, by rw [e3]; exact hxk⟩, e3, e4⟩
    have h1 := hot_trim hw1 hb1 (hot_spill (s.cf.c - 1) hg0 hb0 h0)
    refine hot_prune hwc ?_
    obtain ⟨p, hp, e3, e4⟩ := h1
    exact ⟨p, List.mem_cons_of_mem _ (wo_mem.2 ⟨hp, by rw [e3]; exact hxk⟩), e3, e4⟩
end Go.Proofs.StackM
namespace Go.Proofs.StackM
set_option linter.unusedVariables false
theorem up_small {n : Int} (h0 : 0 ≤ n) (h1 : n ≤ 1000000) : up n = n + 1 := by unfold up; omega
/-- what it cost so far: hits and misses are at most n -/
structure Cost (s : St) (n : Int) : Prop where
  z : 0 ≤ s.ct.hi ∧ 0 ≤ s.ct.mi ∧ 0 ≤ s.ct.ra ∧ 0 ≤ s.ct.lo ∧ 0 ≤ s.ct.pr ∧ 0 ≤ s.ct.ev ∧ 0 ≤ s.ct.fo
  hm : s.ct.hi + s.ct.mi ≤ n
  pr : s.ct.pr + s.pg.length ≤ s.ct.hi + s.ct.mi
  ra : s.ct.ra ≤ s.ct.hi + s.ct.mi
  lo : s.ct.lo + H s ≤ s.ct.ra
  ev : s.ct.ev + H s + s.qu.length ≤ s.ct.mi
  fo : s.ct.fo + s.gh.length ≤ s.ct.ev
theorem cost_prS {s : St} {n : Int} (hn : n ≤ 1000000) (h : Cost s n) {p : Pg} (hp : p ∈ s.pg) : Cost (prS s p) n := by
  obtain ⟨⟨z1, z2, z3, z4, z5, z6, z7⟩, hm, pr, ra, lo, ev, fo⟩ := h
  have h1 := wo_lt hp
  have h2 := many_wo s.pg p.key 1
  have h3 := ls_le s.gh p.key
  have hu : up s.ct.pr = s.ct.pr + 1 := up_small z5 (by omega)
  dsimp only [H] at *
  refine ⟨⟨z1, z2, z3, z4, ?_, z6, z7⟩, hm, ?_, ra, ?_, ?_, ?_⟩
  · show 0 ≤ up s.ct.pr; omega
  · show up s.ct.pr + (wo s.pg p.key).length ≤ s.ct.hi + s.ct.mi; omega
  · show s.ct.lo + many (wo s.pg p.key) 1 ≤ s.ct.ra; omega
  · show s.ct.ev + many (wo s.pg p.key) 1 + s.qu.length ≤ s.ct.mi; omega
  · show s.ct.fo + (ls s.gh p.key).length ≤ s.ct.ev; omega
theorem cost_prune {s : St} {n : Int} (hn : n ≤ 1000000) (h : Cost s n) : Cost (prune s) n :=
  prune_ind (P := fun t => Cost t n) (fun t p hl _ ht => cost_prS hn ht (List.mem_of_getLast? hl)) s h
theorem cost_lower {s : St} {n : Int} (hn : n ≤ 1000000) (h : Cost s n) (hb : Bt s) : Cost (lower s) n :=
  (lower_ind (P := fun t => Cost t n ∧ Bt t) (fun t p _ hl ht => by
    obtain ⟨⟨⟨z1, z2, z3, z4, z5, z6, z7⟩, hm, pr, ra, lo, ev, fo⟩, hb⟩ := ht
    have hp := List.mem_of_getLast? hl
    have h1 := wo_lt hp
    have h2 := many_wo_lt hp (hb p hl)
    have hu : up t.ct.lo = t.ct.lo + 1 := up_small z4 (by dsimp only [H] at *; omega)
    dsimp only [H] at *
    refine ⟨cost_prune hn ⟨⟨z1, z2, z3, ?_, z5, z6, z7⟩, hm, ?_, ra, ?_, ?_, fo⟩, prune_bt _⟩
    · show 0 ≤ up t.ct.lo; omega
    · show t.ct.pr + (wo t.pg p.key).length ≤ t.ct.hi + t.ct.mi; omega
    · show up t.ct.lo + many (wo t.pg p.key) 1 ≤ t.ct.ra; omega
    · show t.ct.ev + many (wo t.pg p.key) 1 + ((t.qu ++ [p.key]).length : Nat) ≤ t.ct.mi
      simp only [List.length_append, List.length_singleton]
      omega) s ⟨h, hb⟩).1
theorem cost_spill {s : St} {n : Int} (hn : n ≤ 1000000) (most : Int) (h : Cost s n) : Cost (spill most s).1 n :=
  spill_ind (P := fun t => Cost t n) (fun t x r _ hq ht => by
    obtain ⟨⟨z1, z2, z3, z4, z5, z6, z7⟩, hm, pr, ra, lo, ev, fo⟩ := ht
    have hx : x ∈ t.qu := by rw [hq]; simp
    have h1 := ls_lt hx
    have hu : up t.ct.ev = t.ct.ev + 1 := up_small z6 (by dsimp only [H] at *; omega)
    dsimp only [H] at *
    unfold spS
    split
    · rename_i i hi
      have hH := many_set t.pg i x
      refine ⟨⟨z1, z2, z3, z4, z5, ?_, z7⟩, hm, ?_, ra, ?_, ?_, ?_⟩
      · show 0 ≤ up t.ct.ev; omega
      · show t.ct.pr + ((t.pg.set i ⟨x, 3, false, false⟩).length : Nat) ≤ _; rw [List.length_set]; exact pr
      · show t.ct.lo + many (t.pg.set i ⟨x, 3, false, false⟩) 1 ≤ t.ct.ra; omega
      · show up t.ct.ev + many (t.pg.set i ⟨x, 3, false, false⟩) 1 + (ls t.qu x).length ≤ t.ct.mi; omega
      · show t.ct.fo + ((t.gh ++ [x]).length : Nat) ≤ up t.ct.ev
        simp only [List.length_append, List.length_singleton]
        omega
    · refine ⟨⟨z1, z2, z3, z4, z5, ?_, z7⟩, hm, pr, ra, lo, ?_, ?_⟩
      · show 0 ≤ up t.ct.ev; omega
      · show up t.ct.ev + many t.pg 1 + (ls t.qu x).length ≤ t.ct.mi; omega
      · show t.ct.fo + t.gh.length ≤ up t.ct.ev; omega) s h
theorem cost_trim {s : St} {n : Int} (hn : n ≤ 1000000) (h : Cost s n) : Cost (trim s) n :=
  trim_ind (P := fun t => Cost t n) (fun t x r _ hq ht => by
    obtain ⟨⟨z1, z2, z3, z4, z5, z6, z7⟩, hm, pr, ra, lo, ev, fo⟩ := ht
    have hx : x ∈ t.gh := by rw [hq]; simp
    have h1 := ls_lt hx
    have h2 := many_wo t.pg x 1
    have h3 := wo_len t.pg x
    have hu : up t.ct.fo = t.ct.fo + 1 := up_small z7 (by dsimp only [H] at *; omega)
    dsimp only [H] at *
    refine ⟨⟨z1, z2, z3, z4, z5, z6, ?_⟩, hm, ?_, ra, ?_, ?_, ?_⟩
    · show 0 ≤ up t.ct.fo; omega
    · show t.ct.pr + (wo t.pg x).length ≤ t.ct.hi + t.ct.mi; omega
    · show t.ct.lo + many (wo t.pg x) 1 ≤ t.ct.ra; omega
    · show t.ct.ev + many (wo t.pg x) 1 + t.qu.length ≤ t.ct.mi; omega
    · show up t.ct.fo + (ls t.gh x).length ≤ t.ct.ev; omega) s h
theorem cost_gone {s : St} {n : Int} (h : Cost s n) (k : Int) : Cost (gone s k) n := by
  obtain ⟨z, hm, pr, ra, lo, ev, fo⟩ := h
  have h1 := wo_len s.pg k
  have h2 := many_wo s.pg k 1
  have h3 := ls_le s.gh k
  have h4 := ls_le s.qu k
  dsimp only [H] at *
  refine ⟨z, hm, ?_, ra, ?_, ?_, ?_⟩
  · show s.ct.pr + (wo s.pg k).length ≤ s.ct.hi + s.ct.mi; omega
  · show s.ct.lo + many (wo s.pg k) 1 ≤ s.ct.ra; omega
  · show s.ct.ev + many (wo s.pg k) 1 + (ls s.qu k).length ≤ s.ct.mi; omega
  · show s.ct.fo + (ls s.gh k).length ≤ s.ct.ev; omega
/-- what it cost ahead of a key that is raised or stands cold: one more is at hand -/
structure Pre (s : St) (n : Int) (k : Int) : Prop where
  z : 0 ≤ s.ct.hi ∧ 0 ≤ s.ct.mi ∧ 0 ≤ s.ct.ra ∧ 0 ≤ s.ct.lo ∧ 0 ≤ s.ct.pr ∧ 0 ≤ s.ct.ev ∧ 0 ≤ s.ct.fo
  hm : s.ct.hi + s.ct.mi ≤ n
  pr : s.ct.pr + s.pg.length + 1 ≤ s.ct.hi + s.ct.mi
  ra : s.ct.ra + 1 ≤ s.ct.hi + s.ct.mi
  lo : s.ct.lo + H s ≤ s.ct.ra
  ev : s.ct.ev + H s + (ls s.qu k).length + 1 ≤ s.ct.mi
  fo : s.ct.fo + s.gh.length ≤ s.ct.ev
theorem cost_raise {s : St} {n k : Int} (hn : n ≤ 1000000) (h : Pre s n k) (bt : Bt s) (hk : ∀ p ∈ s.pg, p.key = k → p.kind ≠ 1) : Cost (prune (raise s k)) n := by
  obtain ⟨⟨z1, z2, z3, z4, z5, z6, z7⟩, hm, pr, ra, lo, ev, fo⟩ := h
  have hbg : Bt (gone s k) := bt_wo (k := k) bt rfl hk
  have hbt : Bt { top (gone s k) k 1 with ct := { s.ct with ra := up s.ct.ra } } := bt_top hbg k
  have h1 := wo_len s.pg k
  have h2 := many_wo s.pg k 1
  have h3 := ls_le s.gh k
  have hu : up s.ct.ra = s.ct.ra + 1 := up_small z3 (by omega)
  have hc : many (⟨k, 1, false, false⟩ :: wo s.pg k) 1 = many (wo s.pg k) 1 + 1 := by simp [many]
  dsimp only [H] at *
  refine cost_prune hn (cost_lower hn (s := { top (gone s k) k 1 with ct := { s.ct with ra := up s.ct.ra } }) ⟨⟨z1, z2, ?_, z4, z5, z6, z7⟩, hm, ?_, ?_, ?_, ?_, ?_⟩ hbt)
  · show 0 ≤ up s.ct.ra; omega
  · show s.ct.pr + ((⟨k, 1, false, false⟩ :: wo s.pg k : List Pg).length : Nat) ≤ s.ct.hi + s.ct.mi
    simp only [List.length_cons]
    omega
  · show up s.ct.ra ≤ s.ct.hi + s.ct.mi; omega
  · show s.ct.lo + many (⟨k, 1, false, false⟩ :: wo s.pg k) 1 ≤ up s.ct.ra; omega
  · show s.ct.ev + many (⟨k, 1, false, false⟩ :: wo s.pg k) 1 + (ls s.qu k).length ≤ s.ct.mi; omega
  · show s.ct.fo + (ls s.gh k).length ≤ s.ct.ev; omega
theorem cost_cool {s : St} {n k : Int} (hn : n ≤ 1000000) (h : Pre s n k) : Cost (prune (cool s k)) n := by
  obtain ⟨z, hm, pr, ra, lo, ev, fo⟩ := h
  have h1 := wo_len s.pg k
  have h2 := many_wo s.pg k 1
  have h3 := ls_le s.gh k
  have hc : many (⟨k, 2, false, false⟩ :: wo s.pg k) 1 = many (wo s.pg k) 1 := by simp [many]
  dsimp only [H] at *
  refine cost_prune hn ⟨z, hm, ?_, ?_, ?_, ?_, ?_⟩
  · show s.ct.pr + ((⟨k, 2, false, false⟩ :: wo s.pg k : List Pg).length : Nat) ≤ s.ct.hi + s.ct.mi
    simp only [List.length_cons]
    omega
  · show s.ct.ra ≤ s.ct.hi + s.ct.mi; omega
  · show s.ct.lo + many (⟨k, 2, false, false⟩ :: wo s.pg k) 1 ≤ s.ct.ra; omega
  · show s.ct.ev + many (⟨k, 2, false, false⟩ :: wo s.pg k) 1 + ((ls s.qu k ++ [k]).length : Nat) ≤ s.ct.mi
    simp only [List.length_append, List.length_singleton]
    omega
  · show s.ct.fo + (ls s.gh k).length ≤ s.ct.ev; omega
theorem Cost.mono {s : St} {m n : Int} (h : Cost s m) (hmn : m ≤ n) : Cost s n := ⟨h.z, by have := h.hm; omega, h.pr, h.ra, h.lo, h.ev, h.fo⟩
theorem cost_touch {s : St} {n : Int} (hn : n + 1 ≤ 1000000) (hr : Rg s) (h : Cost s n) (k : Int) : Cost (touch s k) (n + 1) := by
  unfold touch
  split
  · rename_i hk
    obtain ⟨⟨z1, z2, z3, z4, z5, z6, z7⟩, hm, pr, ra, lo, ev, fo⟩ := h
    have hu : up s.ct.hi = s.ct.hi + 1 := up_small z1 (by omega)
    split
    · rename_i h1
      obtain ⟨p, hp, e1, e2⟩ := (kOf_hot hr.wk).1 h1
      have hlt := wo_lt hp
      have hH := many_wo_lt hp e2
      rw [e1] at hlt hH
      have hc : many (⟨k, 1, false, false⟩ :: wo s.pg k) 1 = many (wo s.pg k) 1 + 1 := by simp [many]
      dsimp only [H] at *
      refine cost_prune hn ⟨⟨?_, z2, z3, z4, z5, z6, z7⟩, ?_, ?_, ?_, ?_, ?_, fo⟩
      · show 0 ≤ up s.ct.hi; omega
      · show up s.ct.hi + s.ct.mi ≤ n + 1; omega
      · show s.ct.pr + ((⟨k, 1, false, false⟩ :: wo s.pg k : List Pg).length : Nat) ≤ up s.ct.hi + s.ct.mi
        simp only [List.length_cons]
        omega
      · show s.ct.ra ≤ up s.ct.hi + s.ct.mi; omega
      · show s.ct.lo + many (⟨k, 1, false, false⟩ :: wo s.pg k) 1 ≤ s.ct.ra; omega
      · show s.ct.ev + many (⟨k, 1, false, false⟩ :: wo s.pg k) 1 + s.qu.length ≤ s.ct.mi; omega
    · rename_i h1
      have hk2 : kOf s k = 2 := hk.resolve_left h1
      have hqk : k ∈ s.qu := by
        rcases kOf_find (k := k) hr.wk with ⟨p, hp, hpk, e⟩ | ⟨_, e⟩
        · have := (hr.wk.pk p hp).2.2.2.1.2 (e.symm.trans hk2)
          rw [hpk] at this; exact this
        · rw [hk2] at e
          split at e
          · assumption
          · cases e
      have hlt := ls_lt hqk
      have hnh : ∀ p ∈ s.pg, p.key = k → p.kind ≠ 1 := fun p hp e => by rw [← kOf_page hr.wk hp e, hk2]; decide
      have hpre : Pre (hit s) (n + 1) k := by
        dsimp only [H] at *
        refine ⟨⟨?_, z2, z3, z4, z5, z6, z7⟩, ?_, ?_, ?_, lo, ?_, fo⟩
        · show 0 ≤ up s.ct.hi; omega
        · show up s.ct.hi + s.ct.mi ≤ n + 1; omega
        · show s.ct.pr + s.pg.length + 1 ≤ up s.ct.hi + s.ct.mi; omega
        · show s.ct.ra + 1 ≤ up s.ct.hi + s.ct.mi; omega
        · show s.ct.ev + many s.pg 1 + (ls s.qu k).length + 1 ≤ s.ct.mi; omega
      split
      · exact cost_raise hn hpre hr.bt hnh
      · exact cost_cool hn hpre
  · exact h.mono (by omega)
theorem cost_drop {s : St} {n : Int} (hn : n + 1 ≤ 1000000) (h : Cost s n) (k : Int) : Cost (drop s k) (n + 1) :=
  (cost_prune (by omega) (cost_gone h k)).mono (by omega)
theorem cost_resize {s : St} {n : Int} (hn : n + 1 ≤ 1000000) (hr : Rg s) (h : Cost s n) (c : Cf) : Cost (resize s c) (n + 1) := by
  have h0 : Cost { s with cf := c } n := ⟨h.z, h.hm, h.pr, h.ra, h.lo, h.ev, h.fo⟩
  exact (cost_trim (by omega) (cost_spill (by omega) c.c (cost_lower (by omega) h0 hr.bt))).mono (by omega)
/-- the same with 'a' more at hand -/
structure CostA (a : Int) (s : St) (n : Int) : Prop where
  z : 0 ≤ s.ct.hi ∧ 0 ≤ s.ct.mi ∧ 0 ≤ s.ct.ra ∧ 0 ≤ s.ct.lo ∧ 0 ≤ s.ct.pr ∧ 0 ≤ s.ct.ev ∧ 0 ≤ s.ct.fo
  hm : s.ct.hi + s.ct.mi ≤ n
  pr : s.ct.pr + s.pg.length + a ≤ s.ct.hi + s.ct.mi
  ra : s.ct.ra + a ≤ s.ct.hi + s.ct.mi
  lo : s.ct.lo + H s ≤ s.ct.ra
  ev : s.ct.ev + H s + s.qu.length + a ≤ s.ct.mi
  fo : s.ct.fo + s.gh.length ≤ s.ct.ev
theorem costA_prS {s : St} {n a : Int} (ha : 0 ≤ a) (hn : n ≤ 1000000) (h : CostA a s n) {p : Pg} (hp : p ∈ s.pg) : CostA a (prS s p) n := by
  obtain ⟨⟨z1, z2, z3, z4, z5, z6, z7⟩, hm, pr, ra, lo, ev, fo⟩ := h
  have h1 := wo_lt hp
  have h2 := many_wo s.pg p.key 1
  have h3 := ls_le s.gh p.key
  have hu : up s.ct.pr = s.ct.pr + 1 := up_small z5 (by omega)
  dsimp only [H] at *
  refine ⟨⟨z1, z2, z3, z4, ?_, z6, z7⟩, hm, ?_, ra, ?_, ?_, ?_⟩
  · show 0 ≤ up s.ct.pr; omega
  · show up s.ct.pr + (wo s.pg p.key).length + a ≤ s.ct.hi + s.ct.mi; omega
  · show s.ct.lo + many (wo s.pg p.key) 1 ≤ s.ct.ra; omega
  · show s.ct.ev + many (wo s.pg p.key) 1 + s.qu.length + a ≤ s.ct.mi; omega
  · show s.ct.fo + (ls s.gh p.key).length ≤ s.ct.ev; omega
theorem costA_prune {s : St} {n a : Int} (ha : 0 ≤ a) (hn : n ≤ 1000000) (h : CostA a s n) : CostA a (prune s) n :=
  prune_ind (P := fun t => CostA a t n) (fun t p hl _ ht => costA_prS ha hn ht (List.mem_of_getLast? hl)) s h
theorem costA_lower {s : St} {n a : Int} (ha : 0 ≤ a) (hn : n ≤ 1000000) (h : CostA a s n) (hb : Bt s) : CostA a (lower s) n :=
  (lower_ind (P := fun t => CostA a t n ∧ Bt t) (fun t p _ hl ht => by
    obtain ⟨⟨⟨z1, z2, z3, z4, z5, z6, z7⟩, hm, pr, ra, lo, ev, fo⟩, hb⟩ := ht
    have hp := List.mem_of_getLast? hl
    have h1 := wo_lt hp
    have h2 := many_wo_lt hp (hb p hl)
    have hu : up t.ct.lo = t.ct.lo + 1 := up_small z4 (by dsimp only [H] at *; omega)
    dsimp only [H] at *
    refine ⟨costA_prune ha hn ⟨⟨z1, z2, z3, ?_, z5, z6, z7⟩, hm, ?_, ra, ?_, ?_, fo⟩, prune_bt _⟩
    · show 0 ≤ up t.ct.lo; omega
    · show t.ct.pr + (wo t.pg p.key).length + a ≤ t.ct.hi + t.ct.mi; omega
    · show up t.ct.lo + many (wo t.pg p.key) 1 ≤ t.ct.ra; omega
    · show t.ct.ev + many (wo t.pg p.key) 1 + ((t.qu ++ [p.key]).length : Nat) + a ≤ t.ct.mi
      simp only [List.length_append, List.length_singleton]
      omega) s ⟨h, hb⟩).1
theorem costA_spill {s : St} {n a : Int} (ha : 0 ≤ a) (hn : n ≤ 1000000) (most : Int) (h : CostA a s n) : CostA a (spill most s).1 n :=
  spill_ind (P := fun t => CostA a t n) (fun t x r _ hq ht => by
    obtain ⟨⟨z1, z2, z3, z4, z5, z6, z7⟩, hm, pr, ra, lo, ev, fo⟩ := ht
    have hx : x ∈ t.qu := by rw [hq]; simp
    have h1 := ls_lt hx
    have hu : up t.ct.ev = t.ct.ev + 1 := up_small z6 (by dsimp only [H] at *; omega)
    dsimp only [H] at *
    unfold spS
    split
    · rename_i i hi
      have hH := many_set t.pg i x
      refine ⟨⟨z1, z2, z3, z4, z5, ?_, z7⟩, hm, ?_, ra, ?_, ?_, ?_⟩
      · show 0 ≤ up t.ct.ev; omega
      · show t.ct.pr + ((t.pg.set i ⟨x, 3, false, false⟩).length : Nat) + a ≤ t.ct.hi + t.ct.mi; rw [List.length_set]; exact pr
      · show t.ct.lo + many (t.pg.set i ⟨x, 3, false, false⟩) 1 ≤ t.ct.ra; omega
      · show up t.ct.ev + many (t.pg.set i ⟨x, 3, false, false⟩) 1 + (ls t.qu x).length + a ≤ t.ct.mi; omega
      · show t.ct.fo + ((t.gh ++ [x]).length : Nat) ≤ up t.ct.ev
        simp only [List.length_append, List.length_singleton]
        omega
    · refine ⟨⟨z1, z2, z3, z4, z5, ?_, z7⟩, hm, pr, ra, lo, ?_, ?_⟩
      · show 0 ≤ up t.ct.ev; omega
      · show up t.ct.ev + many t.pg 1 + (ls t.qu x).length + a ≤ t.ct.mi; omega
      · show t.ct.fo + t.gh.length ≤ up t.ct.ev; omega) s h
theorem costA_trim {s : St} {n a : Int} (ha : 0 ≤ a) (hn : n ≤ 1000000) (h : CostA a s n) : CostA a (trim s) n :=
  trim_ind (P := fun t => CostA a t n) (fun t x r _ hq ht => by
    obtain ⟨⟨z1, z2, z3, z4, z5, z6, z7⟩, hm, pr, ra, lo, ev, fo⟩ := ht
    have hx : x ∈ t.gh := by rw [hq]; simp
    have h1 := ls_lt hx
    have h2 := many_wo t.pg x 1
    have h3 := wo_len t.pg x
    have hu : up t.ct.fo = t.ct.fo + 1 := up_small z7 (by dsimp only [H] at *; omega)
    dsimp only [H] at *
    refine ⟨⟨z1, z2, z3, z4, z5, z6, ?_⟩, hm, ?_, ra, ?_, ?_, ?_⟩
    · show 0 ≤ up t.ct.fo; omega
    · show t.ct.pr + (wo t.pg x).length + a ≤ t.ct.hi + t.ct.mi; omega
    · show t.ct.lo + many (wo t.pg x) 1 ≤ t.ct.ra; omega
    · show t.ct.ev + many (wo t.pg x) 1 + t.qu.length + a ≤ t.ct.mi; omega
    · show up t.ct.fo + (ls t.gh x).length ≤ t.ct.ev; omega) s h
theorem costA_gone {s : St} {n a : Int} (h : CostA a s n) (k : Int) : CostA a (gone s k) n := by
  obtain ⟨z, hm, pr, ra, lo, ev, fo⟩ := h
  have h1 := wo_len s.pg k
  have h2 := many_wo s.pg k 1
  have h3 := ls_le s.gh k
  have h4 := ls_le s.qu k
  dsimp only [H] at *
  refine ⟨z, hm, ?_, ra, ?_, ?_, ?_⟩
  · show s.ct.pr + (wo s.pg k).length + a ≤ s.ct.hi + s.ct.mi; omega
  · show s.ct.lo + many (wo s.pg k) 1 ≤ s.ct.ra; omega
  · show s.ct.ev + many (wo s.pg k) 1 + (ls s.qu k).length + a ≤ s.ct.mi; omega
  · show s.ct.fo + (ls s.gh k).length ≤ s.ct.ev; omega
/-- the same with one miss more at hand -/
theorem cost_admit {s : St} {n : Int} (hn : n + 1 ≤ 1000000) (hr : Rg s) (h : Cost s n) (k : Int) : Cost (admit s k) (n + 1) := by
  unfold admit
  split
  · exact h.mono (by omega)
  · rename_i hk
    have hnh : ∀ p ∈ s.pg, p.key = k → p.kind ≠ 1 := fun p hp e hp1 => hk (.inl (by rw [kOf_page hr.wk hp e]; exact hp1))
    -- the inner steps, on counts without the new miss
    have hm1 : ∀ t : St, Cost t n → t.ct.mi ≤ 1000000 → 0 ≤ t.ct.mi → up t.ct.mi = t.ct.mi + 1 := fun t ht h1 h2 => up_small h2 h1
    have hmi : s.ct.mi ≤ 1000000 := by have := h.hm; have := h.z.1; omega
    have hu : up s.ct.mi = s.ct.mi + 1 := up_small h.z.2.1 hmi
    have c0 : CostA 1 (gone (mis s) k) (n + 1) := by
      have := cost_gone h k
      obtain ⟨⟨z1, z2, z3, z4, z5, z6, z7⟩, hm, pr, ra, lo, ev, fo⟩ := this
      dsimp only [H] at *
      refine ⟨⟨z1, ?_, z3, z4, z5, z6, z7⟩, ?_, ?_, ?_, lo, ?_, fo⟩
      · show 0 ≤ up s.ct.mi; have := h.z.2.1; omega
      · show s.ct.hi + up s.ct.mi ≤ n + 1; have := h.hm; omega
      · show s.ct.pr + (wo s.pg k).length + 1 ≤ s.ct.hi + up s.ct.mi
        have e : s.ct.pr + (wo s.pg k).length ≤ s.ct.hi + s.ct.mi := pr
        omega
      · show s.ct.ra + 1 ≤ s.ct.hi + up s.ct.mi; have := h.ra; omega
      · show s.ct.ev + many (wo s.pg k) 1 + (ls s.qu k).length + 1 ≤ up s.ct.mi
        have e : s.ct.ev + many (wo s.pg k) 1 + (ls s.qu k).length ≤ s.ct.mi := ev
        omega
    have hg0 : Wk (gone (mis s) k) := (hr.wk.ct (mis s).ct).gone k
    have hb0 : Bt (gone (mis s) k) := bt_wo (s := s) (k := k) hr.bt rfl hnh
    obtain ⟨hw1, hb1⟩ := hg0.spill hb0 (s.cf.c - 1)
    obtain ⟨hw2, hb2⟩ := hw1.trim hb1
    have c2 := costA_trim (by omega) hn (costA_spill (by omega) hn (s.cf.c - 1) c0)
    have hpre : Pre (trim (adm s k).1) (n + 1) k := by
      have h4 := ls_le (trim (adm s k).1).qu k
      obtain ⟨z, hm, pr, ra, lo, ev, fo⟩ := c2
      refine ⟨z, hm, pr, ra, lo, ?_, fo⟩
      have e : (trim (adm s k).1).ct.ev + H (trim (adm s k).1) + (trim (adm s k).1).qu.length + 1 ≤ (trim (adm s k).1).ct.mi := ev
      omega
    have hno : ∀ p ∈ (trim (adm s k).1).pg, p.key ≠ k := by
      have s1 : (∀ p ∈ (adm s k).1.pg, p.key ≠ k) ∧ k ∉ (adm s k).1.qu := spill_ind (P := fun t => (∀ p ∈ t.pg, p.key ≠ k) ∧ k ∉ t.qu) (fun t x r _ hq ht => by
        have hxk : x ≠ k := fun e => ht.2 (by rw [hq, e]; simp)
        unfold spS
        split
        · refine ⟨fun p hp => ?_, fun m => ht.2 (ls_mem.1 m).1⟩
          rcases List.mem_or_eq_of_mem_set hp with hp | rfl
          · exact ht.1 p hp
          · exact hxk
        · exact ⟨ht.1, fun m => ht.2 (ls_mem.1 m).1⟩) _ ⟨(gone_key (mis s) k).1, (gone_key (mis s) k).2.1⟩
      exact trim_ind (P := fun t => ∀ p ∈ t.pg, p.key ≠ k) (fun t x r _ _ ht p hp => ht p (wo_mem.1 hp).1) _ s1.1
    split
    · exact cost_raise hn hpre hb2 (fun p hp e => absurd e (hno p hp))
    · exact cost_cool hn hpre
end Go.Proofs.StackM
