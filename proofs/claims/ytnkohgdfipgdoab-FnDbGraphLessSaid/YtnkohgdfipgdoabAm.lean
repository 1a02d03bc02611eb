/-
  Plain facts: lists of announcements: merged, and what is missing.
-/
import Derived.Test.YtnkohgdfipgdoabAn
namespace Go.Proofs.Ytnkohgdfipgdoab

section
variable {db other : List La} {l : La}
theorem mergeL_cons (db : List La) (l : La) (r : List La) : mergeL db (l :: r) = mergeL (putL db l) r := rfl
theorem mergeL_srt : ∀ {other db : List La}, Srt db → Srt (mergeL db other)
  | [], _, h => h
  | l :: r, _, h => mergeL_srt (other := r) (putL_srt (l := l) h)
theorem mergeL_val : ∀ {other db : List La}, Srt db → (∀ x ∈ db, laB x = true) → (∀ x ∈ other, laB x = true) → ∀ x ∈ mergeL db other, laB x = true
  | [], _, _, h, _ => h
  | l :: r, _, hs, h, h2 => mergeL_val (other := r) (putL_srt (l := l) hs) (putL_val hs h (h2 l (List.mem_cons_self ..))) (fun x hx => h2 x (List.mem_cons_of_mem _ hx))
theorem mergeL_get (o : Int) : ∀ {other db : List La}, Srt db → Srt other → getL (mergeL db other) o = match getL other o with
    | some l => some (best (getL db o) l)
    | none => getL db o
  | [], _, _, _ => rfl
  | l :: r, db, hs, ho => by
    have ho' := ho
    unfold Srt at ho
    rw [List.pairwise_cons] at ho
    rw [mergeL_cons, mergeL_get o (putL_srt (l := l) hs) ho.2, putL_get hs]
    by_cases hlo : o = l.o
    · have e1 : getL r o = none := getL_none.2 fun z hz => by have := ho.1 z hz; omega
      have e2 : getL (l :: r) o = some l := by rw [hlo]; exact getL_mem ho' (List.mem_cons_self ..)
      rw [e1, e2, if_pos hlo, hlo]
    · have e2 : getL (l :: r) o = getL r o := by
        unfold getL
        rw [List.find?_cons, decide_eq_false (fun e => hlo e.symm)]
      rw [e2, if_neg hlo]
theorem seqL_val (hv : ∀ x ∈ db, laB x = true) (o : Int) : 0 ≤ seqL db o := by
  unfold seqL
  cases hg : getL db o with
  | none => exact Int.le_refl _
  | some x => have := laB_rng (hv x (getL_some hg).1); dsimp only; omega
/-- P74: the sequence number of each origin is the greater one. -/
theorem seqL_merge (hs : Srt db) (ho : Srt other) (hv : ∀ x ∈ db, laB x = true) (hw : ∀ x ∈ other, laB x = true) (o : Int) : seqL (mergeL db other) o = max (seqL db o) (seqL other o) := by
  have h1 := seqL_val hv o
  have h2 := seqL_val hw o
  unfold seqL at h1 h2 ⊢
  rw [mergeL_get o hs ho]
  cases hg : getL other o with
  | none => rw [hg] at h2; dsimp only at *; omega
  | some l =>
    rw [hg] at h2
    dsimp only at *
    cases hd : getL db o with
    | none => rw [hd] at h1; dsimp only [best] at *; omega
    | some x => rw [hd] at h1; dsimp only at *; rw [best_max]
theorem best_keep {x l : La} (h : l.q ≤ x.q) : best (some x) l = x := by unfold best; dsimp only; rw [if_pos h]
theorem best_self (x : La) : best (some x) x = x := best_keep (Int.le_refl _)
theorem best_twice (x : Option La) (l : La) : best (some (best x l)) l = best x l := best_keep (best_ge x l)
/-- P75: merging is idempotent. -/
theorem merge_self (hs : Srt db) : mergeL db db = db := by
  refine srt_ext (mergeL_srt hs) hs fun o => ?_
  rw [mergeL_get o hs hs]
  cases hg : getL db o with
  | none => rfl
  | some x => dsimp only; rw [best_self]
theorem merge_again (hs : Srt db) (ho : Srt other) : mergeL (mergeL db other) other = mergeL db other := by
  refine srt_ext (mergeL_srt (mergeL_srt hs)) (mergeL_srt hs) fun o => ?_
  rw [mergeL_get o (mergeL_srt hs) ho, mergeL_get o hs ho]
  cases hg : getL other o with
  | none => rfl
  | some x => dsimp only; rw [best_twice]
/-- P77: what is missing. -/
theorem missL_mem (ho : Srt other) (hv : ∀ x ∈ db, laB x = true) (hw : ∀ x ∈ other, laB x = true) (o : Int) : o ∈ missL db other ↔ seqL db o < seqL other o := by
  unfold missL
  rw [List.mem_map]
  constructor
  · rintro ⟨l, hl, rfl⟩
    obtain ⟨hl, hm⟩ := List.mem_filter.1 hl
    have hg := getL_mem ho hl
    have hr := laB_rng (hw l hl)
    unfold missB at hm
    unfold seqL
    rw [hg]
    cases hd : getL db l.o with
    | none => dsimp only; omega
    | some x => rw [hd] at hm; simpa using hm
  · intro h
    unfold seqL at h
    cases hg : getL other o with
    | none =>
      have h1 := seqL_val hv o
      unfold seqL at h1
      rw [hg] at h
      dsimp only at h
      omega
    | some l =>
      obtain ⟨hl, rfl⟩ := getL_some hg
      refine ⟨l, List.mem_filter.2 ⟨hl, ?_⟩, rfl⟩
      unfold missB
      rw [hg] at h
      cases hd : getL db l.o with
      | none => rfl
      | some x => rw [hd] at h; simpa using h
theorem missL_asc (ho : Srt other) : (missL db other).Pairwise (· < ·) := by
  unfold missL
  rw [List.pairwise_map]
  exact ho.sublist List.filter_sublist
theorem missL_nil (h : ∀ l ∈ other, missB db l = false) : missL db other = [] := by
  unfold missL
  rw [List.filter_eq_nil_iff.2 (fun l hl => by rw [h l hl]; exact Bool.false_ne_true)]
  rfl
/-- P76: after merging nothing is missing. -/
theorem miss_merge (hs : Srt db) (ho : Srt other) : missL (mergeL db other) other = [] ∧ missL (mergeL db other) db = [] := by
  refine ⟨missL_nil fun l hl => ?_, missL_nil fun l hl => ?_⟩
  · unfold missB
    rw [mergeL_get l.o hs ho, getL_mem ho hl]
    dsimp only
    rw [decide_eq_false_iff_not]
    have := best_ge (getL db l.o) l
    omega
  · unfold missB
    rw [mergeL_get l.o hs ho, getL_mem hs hl]
    cases getL other l.o with
    | none => dsimp only; rw [decide_eq_false_iff_not]; omega
    | some x => dsimp only; rw [decide_eq_false_iff_not, best_max]; omega
/-- P82. -/
theorem miss_none (db : List La) : missL db [] = [] := rfl
theorem miss_self (hs : Srt db) : missL db db = [] := missL_nil fun l hl => by
  unfold missB
  rw [getL_mem hs hl]
  dsimp only
  rw [decide_eq_false_iff_not]
  omega
theorem miss_all (other : List La) : missL [] other = other.map La.o := by
  unfold missL
  have e : other.filter (missB []) = other := List.filter_eq_self.2 (fun l _ => rfl)
  rw [e]
/-- Rows of numbers that ascend and have the same ones are the same. -/
theorem up_ext : ∀ {a b : List Int}, a.Pairwise (· < ·) → b.Pairwise (· < ·) → (∀ x, x ∈ a ↔ x ∈ b) → a = b
  | [], [], _, _, _ => rfl
  | [], y :: b, _, _, h => absurd ((h y).2 (List.mem_cons_self ..)) (by simp)
  | x :: a, [], _, _, h => absurd ((h x).1 (List.mem_cons_self ..)) (by simp)
  | x :: a, y :: b, ha, hb, h => by
    rw [List.pairwise_cons] at ha hb
    have hxy : x = y := by
      rcases List.mem_cons.1 ((h x).1 (List.mem_cons_self ..)) with e | h1
      · exact e
      · rcases List.mem_cons.1 ((h y).2 (List.mem_cons_self ..)) with e | h2
        · exact e.symm
        · have := hb.1 x h1
          have := ha.1 y h2
          omega
    subst hxy
    congr 1
    refine up_ext ha.2 hb.2 fun z => ?_
    have hz := h z
    rw [List.mem_cons, List.mem_cons] at hz
    constructor
    · intro h1
      rcases hz.1 (.inr h1) with e | h2
      · have := ha.1 z h1; omega
      · exact h2
    · intro h1
      rcases hz.2 (.inr h1) with e | h2
      · have := hb.1 z h1; omega
      · exact h2
theorem map_o_mem {o : Int} : o ∈ db.map La.o ↔ (getL db o).isSome = true := by
  rw [List.mem_map]
  constructor
  · rintro ⟨l, hl, rfl⟩
    cases hg : getL db l.o with
    | none => exact absurd rfl (getL_none.1 hg l hl)
    | some x => rfl
  · intro h
    cases hg : getL db o with
    | none => rw [hg] at h; cases h
    | some x => exact ⟨x, (getL_some hg).1, (getL_some hg).2⟩
theorem srt_map (hs : Srt db) : (db.map La.o).Pairwise (· < ·) := by rw [List.pairwise_map]; exact hs
/-- P81: both directions have the same origins. -/
theorem merge_back (hs : Srt db) (ho : Srt other) : (mergeL other db).length = (mergeL db other).length := by
  have e : (mergeL other db).map La.o = (mergeL db other).map La.o := by
    refine up_ext (srt_map (mergeL_srt ho)) (srt_map (mergeL_srt hs)) fun o => ?_
    rw [map_o_mem, map_o_mem, mergeL_get o ho hs, mergeL_get o hs ho]
    cases getL db o <;> cases getL other o <;> simp
  rw [← List.length_map (f := La.o), e, List.length_map]
/-- P70: what is stored is newer, the others are as they were. -/
theorem put_new (hs : Srt db) (h : putC db l = 0) : l ∈ putL db l ∧ (∀ o, o ≠ l.o → seqL (putL db l) o = seqL db o) := by
  refine ⟨?_, fun o ho => by unfold seqL; rw [putL_get hs, if_neg ho]⟩
  have hi : putL db l = insL db l := by
    unfold putC at h
    unfold putL
    cases hg : getL db l.o with
    | none => rfl
    | some x =>
      rw [hg] at h
      dsimp only at h ⊢
      rw [if_neg]
      intro hq
      by_cases h1 : x.q = l.q
      · rw [if_pos h1] at h; omega
      · rw [if_neg h1] at h
        by_cases h2 : l.q < x.q
        · rw [if_pos h2] at h; omega
        · omega
  rw [hi]
  exact (insL_mem hs).2 (.inl rfl)
end

end Go.Proofs.Ytnkohgdfipgdoab
