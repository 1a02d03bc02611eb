/-
  Plain facts: stacks of labels: the way of each label, where a packet ends, its nodes and its cost.
-/
import Derived.Test.YtblmmmeeljidiabPg
namespace Go.Proofs.Ytblmmmeeljidiab

/-- A label as two numbers. -/
structure Lb where
  k : Int
  a : Int

/-- The nodes over which a label leads, both ends among them; none where it leads nowhere. -/
def legP (nn : Int) (ls : List Lk) (s : Int) (l : Lb) : List Int :=
  if l.k = 1 then pathI nn ls s l.a
  else if l.k = 2 then (if 0 ≤ l.a then match ls[l.a.toNat]? with
    | some x => if touchB x s = true then [s, acrossI x s] else []
    | none => [] else [])
  else []
def stepO (nn : Int) (ls : List Lk) (s : Int) (l : Lb) : Option Int := (legP nn ls s l).getLast?
/-- Where labels lead, one after the other. -/
def endO (nn : Int) (ls : List Lk) : Int → List Lb → Option Int
  | s, [] => some s
  | s, l :: st => match stepO nn ls s l with
    | some z => endO nn ls z st
    | none => none
/-- The nodes of a packet without the first one. -/
def pthO (nn : Int) (ls : List Lk) : Int → List Lb → List Int
  | _, [] => []
  | s, l :: st => match stepO nn ls s l with
    | some z => (legP nn ls s l).drop 1 ++ pthO nn ls z st
    | none => []
theorem endO_append (nn : Int) (ls : List Lk) (s : Int) (x y : List Lb) : endO nn ls s (x ++ y) = (endO nn ls s x).bind fun z => endO nn ls z y := by
  induction x generalizing s with
  | nil => rfl
  | cons l x ih =>
    simp only [List.cons_append, endO]
    cases stepO nn ls s l with
    | none => rfl
    | some z => exact ih z
theorem pthO_append {nn : Int} {ls : List Lk} {s z : Int} {x : List Lb} (y : List Lb) (h : endO nn ls s x = some z) : pthO nn ls s (x ++ y) = pthO nn ls s x ++ pthO nn ls z y := by
  induction x generalizing s with
  | nil => simp only [endO, Option.some.injEq] at h; subst h; rfl
  | cons l x ih =>
    simp only [endO] at h
    simp only [List.cons_append, pthO]
    cases hs : stepO nn ls s l with
    | none => rw [hs] at h; cases h
    | some u =>
      rw [hs] at h
      dsimp only at h ⊢
      rw [ih h, List.append_assoc]
theorem take_succ' {st : List Lb} {k : Nat} {l : Lb} (h : st[k]? = some l) : st.take (k + 1) = st.take k ++ [l] := by
  rw [List.take_add_one, h]; rfl
theorem endO_one (nn : Int) (ls : List Lk) (s : Int) (l : Lb) : endO nn ls s [l] = stepO nn ls s l := by
  simp only [endO]; cases stepO nn ls s l <;> rfl
theorem endO_next {nn : Int} {ls : List Lk} {s x : Int} {st : List Lb} {k : Nat} {l : Lb} (h : endO nn ls s (st.take k) = some x) (hl : st[k]? = some l) : endO nn ls s (st.take (k + 1)) = stepO nn ls x l := by
  rw [take_succ' hl, endO_append, h]
  exact endO_one nn ls x l
theorem pthO_next {nn : Int} {ls : List Lk} {s x z : Int} {st : List Lb} {k : Nat} {l : Lb} (h : endO nn ls s (st.take k) = some x) (hl : st[k]? = some l) (hz : stepO nn ls x l = some z) :
    pthO nn ls s (st.take (k + 1)) = pthO nn ls s (st.take k) ++ (legP nn ls x l).drop 1 := by
  rw [take_succ' hl, pthO_append _ h]
  simp [pthO, hz]
/-- A stack that fails at a label fails. -/
theorem endO_fail {nn : Int} {ls : List Lk} {s x : Int} {st : List Lb} {k : Nat} {l : Lb} (h : endO nn ls s (st.take k) = some x) (hl : st[k]? = some l) (hz : stepO nn ls x l = none) : endO nn ls s st = none := by
  have h1 := endO_next h hl
  rw [hz] at h1
  have h2 := endO_append nn ls s (st.take (k + 1)) (st.drop (k + 1))
  rw [List.take_append_drop, h1] at h2
  exact h2
theorem endO_upto {nn : Int} {ls : List Lk} {s z : Int} {st : List Lb} (h : endO nn ls s st = some z) (k : Nat) : ∃ x, endO nn ls s (st.take k) = some x := by
  have h2 := endO_append nn ls s (st.take k) (st.drop k)
  rw [List.take_append_drop, h] at h2
  cases hx : endO nn ls s (st.take k) with
  | none => rw [hx] at h2; cases h2
  | some x => exact ⟨x, rfl⟩

def stB (nn : Int) (ls : List Lk) (s : Int) (st : List Lb) : Bool := vwB nn ls [s] && decide (st.length ≤ 8)
/-- Where a stack leads. -/
def endI (nn : Int) (ls : List Lk) (s : Int) (st : List Lb) : Option Int := if stB nn ls s st = true then endO nn ls s st else none
def pathS (nn : Int) (ls : List Lk) (s : Int) (st : List Lb) : List Int := if (endI nn ls s st).isSome = true then s :: pthO nn ls s st else []

/-- The cost of a way. -/
def along (nn : Int) (ls : List Lk) : List Int → Int
  | a :: b :: r => lcost nn ls a b + along nn ls (b :: r)
  | _ => 0
theorem along_join (nn : Int) (ls : List Lk) (xs : List Int) (z : Int) (ys : List Int) : along nn ls (xs ++ z :: ys) = along nn ls (xs ++ [z]) + along nn ls (z :: ys) := by
  induction xs with
  | nil => simp [along]
  | cons a r ih =>
    cases r with
    | nil => simp [along]
    | cons b r =>
      simp only [List.cons_append, along] at ih ⊢
      omega
theorem along_next (nn : Int) (ls : List Lk) {xs : List Int} {k : Nat} {a b : Int} (ha : xs[k]? = some a) (hb : xs[k + 1]? = some b) : along nn ls (xs.take (k + 2)) = along nn ls (xs.take (k + 1)) + lcost nn ls a b := by
  have h1 : xs.take (k + 2) = xs.take k ++ a :: [b] := by
    rw [List.take_add_one, hb, List.take_add_one, ha]
    simp
  have h2 : xs.take (k + 1) = xs.take k ++ [a] := by rw [List.take_add_one, ha]; rfl
  rw [h1, h2, along_join]
  simp [along]
theorem along_one (nn : Int) (ls : List Lk) (xs : List Int) : along nn ls (xs.take 1) = 0 := by
  cases xs <;> simp [along]

def costS (nn : Int) (ls : List Lk) (s : Int) (st : List Lb) : Int := if (endI nn ls s st).isSome = true then along nn ls (s :: pthO nn ls s st) else -1

/-! ### A way over links -/
def Way (ls : List Lk) (p : List Int) : Prop := ∀ (k : Nat) (a b : Int), p[k]? = some a → p[k + 1]? = some b → ∃ e, Adj ls a b e

section
variable {n : Nat} {ls : List Lk} {s : Int}
theorem IsP.way {t : Int} (hv : gvB (n : Int) ls = true) (ht : 0 ≤ t ∧ t < (n : Int)) {p : List Int} (h : IsP n ls t s p) : Way ls p := fun k a b ha hb => by
  obtain ⟨j, l, _, _, _, _, _, hadj, _⟩ := h.link hv ht ha hb
  exact ⟨_, hadj⟩
theorem leg_link {l : Lb} (h2 : l.k = 2) (h : legP (n : Int) ls s l ≠ []) : ∃ (j : Nat) (x : Lk), l.a = (j : Int) ∧ ls[j]? = some x ∧ touchB x s = true ∧ legP (n : Int) ls s l = [s, acrossI x s] := by
  unfold legP at h ⊢
  rw [if_neg (by omega), if_pos h2] at h ⊢
  by_cases h0 : 0 ≤ l.a
  · rw [if_pos h0] at h ⊢
    cases hx : ls[l.a.toNat]? with
    | none => rw [hx] at h; exact absurd rfl h
    | some x =>
      rw [hx] at h
      dsimp only at h ⊢
      by_cases ht : touchB x s = true
      · rw [if_pos ht]; exact ⟨l.a.toNat, x, by omega, hx, ht, rfl⟩
      · rw [if_neg ht] at h; exact absurd rfl h
  · rw [if_neg h0] at h; exact absurd rfl h
theorem leg_kind {nn : Int} {l : Lb} (h : legP nn ls s l ≠ []) : l.k = 1 ∨ l.k = 2 := by
  unfold legP at h
  by_cases h1 : l.k = 1
  · exact .inl h1
  · rw [if_neg h1] at h
    by_cases h2 : l.k = 2
    · exact .inr h2
    · rw [if_neg h2] at h; exact absurd rfl h
theorem link_adj {x : Lk} {j : Nat} (hx : ls[j]? = some x) (ht : touchB x s = true) : Adj ls s (acrossI x s) x.c := by
  refine ⟨x, List.mem_of_getElem? hx, ?_, rfl⟩
  unfold touchB at ht
  unfold acrossI
  simp only [Bool.or_eq_true, decide_eq_true_eq] at ht
  split <;> omega
/-- What the way of a label is like. -/
theorem leg_fact (hv : gvB (n : Int) ls = true) (hs : 0 ≤ s ∧ s < (n : Int)) {l : Lb} (h : legP (n : Int) ls s l ≠ []) :
    ∃ (z : Int), stepO (n : Int) ls s l = some z ∧ (0 ≤ z ∧ z < (n : Int)) ∧ (legP (n : Int) ls s l)[0]? = some s ∧ Way ls (legP (n : Int) ls s l) ∧ (legP (n : Int) ls s l).length ≤ 8 ∧ (legP (n : Int) ls s l)[(legP (n : Int) ls s l).length - 1]? = some z ∧
      (l.k = 1 → z = l.a ∧ 0 ≤ bf (n : Int) ls s z ∧ IsP n ls z s (legP (n : Int) ls s l)) := by
  obtain ⟨hf, hn1, hn8, hl⟩ := gvB_fit hv
  rcases leg_kind h with h1 | h2
  · have e : legP (n : Int) ls s l = pathI (n : Int) ls s l.a := by unfold legP; rw [if_pos h1]
    unfold stepO
    rw [e] at h ⊢
    obtain ⟨m, hm, hvw, h0, hp⟩ := pathI_some h
    obtain rfl : n = m := by omega
    obtain ⟨_, _, ht⟩ := vwB_two hvw
    have h0' : 0 ≤ bf (n : Int) ls s l.a := by rw [bf_symm hf hs ht]; exact h0
    refine ⟨l.a, ?_, ht, hp.head.1, hp.way hv ht, pathI_len _ _ _ _, hp.end, fun _ => ⟨rfl, h0', hp⟩⟩
    rw [List.getLast?_eq_getElem?]
    exact hp.end
  · obtain ⟨j, x, ha, hx, ht, e⟩ := leg_link h2 h
    have hadj := link_adj hx ht
    have hr := hf.adj hadj
    unfold stepO
    rw [e]
    refine ⟨acrossI x s, by simp, by omega, by simp, ?_, by simp, by simp, fun h => by omega⟩
    intro k a b ha hb
    have hk := (List.getElem?_eq_some_iff.1 hb).1
    obtain rfl : k = 0 := by simp at hk; omega
    simp at ha hb
    subst ha; subst hb
    exact ⟨_, hadj⟩
theorem stepO_leg {nn : Int} {l : Lb} {z : Int} (h : stepO nn ls s l = some z) : legP nn ls s l ≠ [] := by
  intro e; unfold stepO at h; rw [e] at h; cases h
theorem stepO_none {nn : Int} {l : Lb} : stepO nn ls s l = none ↔ legP nn ls s l = [] := by
  unfold stepO; exact List.getLast?_eq_none_iff
theorem stepO_node (hv : gvB (n : Int) ls = true) (hs : 0 ≤ s ∧ s < (n : Int)) {l : Lb} {z : Int} (h : stepO (n : Int) ls s l = some z) : 0 ≤ z ∧ z < (n : Int) := by
  obtain ⟨z', h1, h2, _⟩ := leg_fact hv hs (stepO_leg h)
  rw [h1] at h; cases h
  exact h2
theorem endO_node (hv : gvB (n : Int) ls = true) {st : List Lb} {z : Int} (hs : 0 ≤ s ∧ s < (n : Int)) (h : endO (n : Int) ls s st = some z) : 0 ≤ z ∧ z < (n : Int) := by
  induction st generalizing s with
  | nil => simp only [endO, Option.some.injEq] at h; subst h; exact hs
  | cons l st ih =>
    simp only [endO] at h
    cases hz : stepO (n : Int) ls s l with
    | none => rw [hz] at h; cases h
    | some u => rw [hz] at h; exact ih (stepO_node hv hs hz) h
/-- A label's way begins at its node: a way is its first node and the rest. -/
theorem leg_cons (hv : gvB (n : Int) ls = true) (hs : 0 ≤ s ∧ s < (n : Int)) {l : Lb} (h : legP (n : Int) ls s l ≠ []) : legP (n : Int) ls s l = s :: (legP (n : Int) ls s l).drop 1 := by
  obtain ⟨z, _, _, h0, _⟩ := leg_fact hv hs h
  cases hp : legP (n : Int) ls s l with
  | nil => exact absurd hp h
  | cons a r => rw [hp] at h0; simp at h0; subst h0; rfl
theorem leg_snoc {l : Lb} {z : Int} (h : stepO (n : Int) ls s l = some z) : ∃ q, legP (n : Int) ls s l = q ++ [z] := by
  unfold stepO at h
  obtain ⟨q, hq⟩ := List.getLast?_eq_some_iff.1 h
  exact ⟨q, hq⟩
/-- The cost of a label's way. -/
theorem isP_along (hv : gvB (n : Int) ls = true) {t : Int} (ht : 0 ≤ t ∧ t < (n : Int)) {p : List Int} (h : IsP n ls t s p) : along (n : Int) ls p = bf (n : Int) ls t s := by
  obtain ⟨hf, _⟩ := gvB_fit hv
  induction h with
  | last => simp [along, bf_self hf ht]
  | @step s z zs p h1 h2 h3 h4 hp ih =>
    have hh := hp.head
    cases p with
    | nil => simp at hh
    | cons b r =>
      simp at hh
      subst hh
      simp only [along]
      rw [ih]
      have hm : b ∈ hopsL (n : Int) ls s t := by rw [h2]; simp
      obtain ⟨e, ha, h0, he⟩ := (hops_mem (vwB_of hv h3 ht)).1 hm
      rw [lcost_eq hv ha]
      omega
def legC (nn : Int) (ls : List Lk) (s z : Int) (l : Lb) : Int := if l.k = 2 then costAt ls l.a.toNat else bf nn ls s z
theorem leg_along (hv : gvB (n : Int) ls = true) (hs : 0 ≤ s ∧ s < (n : Int)) {l : Lb} {z : Int} (h : stepO (n : Int) ls s l = some z) : along (n : Int) ls (legP (n : Int) ls s l) = legC (n : Int) ls s z l := by
  have hne := stepO_leg h
  obtain ⟨z', h1, h2, _, _, _, _, h3⟩ := leg_fact hv hs hne
  rw [h1] at h; cases h
  unfold legC
  rcases leg_kind hne with hk | hk
  · obtain ⟨rfl, h0, hp⟩ := h3 hk
    rw [if_neg (by omega), isP_along hv h2 hp, bf_symm (gvB_fit hv).1 h2 hs]
  · obtain ⟨j, x, ha, hx, ht, e⟩ := leg_link hk hne
    rw [if_pos hk, e, ha, Int.toNat_natCast, costAt_at hx]
    simp only [along]
    rw [lcost_eq hv (link_adj hx ht)]
    omega
def legsC (nn : Int) (ls : List Lk) : Int → List Lb → Int
  | _, [] => 0
  | s, l :: st => match stepO nn ls s l with
    | some z => legC nn ls s z l + legsC nn ls z st
    | none => 0
theorem along_legs (hv : gvB (n : Int) ls = true) {st : List Lb} {z : Int} (hs : 0 ≤ s ∧ s < (n : Int)) (h : endO (n : Int) ls s st = some z) : along (n : Int) ls (s :: pthO (n : Int) ls s st) = legsC (n : Int) ls s st := by
  induction st generalizing s with
  | nil => simp [pthO, along, legsC]
  | cons l st ih =>
    simp only [endO] at h
    simp only [pthO, legsC]
    cases hz : stepO (n : Int) ls s l with
    | none => rw [hz] at h; cases h
    | some u =>
      rw [hz] at h
      dsimp only at h ⊢
      have hu := stepO_node hv hs hz
      obtain ⟨q, hq⟩ := leg_snoc hz
      have hc := leg_cons hv hs (stepO_leg hz)
      have e : s :: ((legP (n : Int) ls s l).drop 1 ++ pthO (n : Int) ls u st) = q ++ u :: pthO (n : Int) ls u st := by
        rw [← List.cons_append, ← hc, hq]; simp
      rw [e, along_join, ← hq, ih hu h, leg_along hv hs hz]
theorem legsC_append {nn : Int} {z : Int} {x : List Lb} (y : List Lb) (h : endO nn ls s x = some z) : legsC nn ls s (x ++ y) = legsC nn ls s x + legsC nn ls z y := by
  induction x generalizing s with
  | nil => simp only [endO, Option.some.injEq] at h; subst h; simp [legsC]
  | cons l x ih =>
    simp only [endO] at h
    simp only [List.cons_append, legsC]
    cases hs : stepO nn ls s l with
    | none => rw [hs] at h; cases h
    | some u =>
      rw [hs] at h
      dsimp only at h ⊢
      rw [ih h]; omega
theorem legsC_next {nn : Int} {x z : Int} {st : List Lb} {k : Nat} {l : Lb} (h : endO nn ls s (st.take k) = some x) (hl : st[k]? = some l) (hz : stepO nn ls x l = some z) :
    legsC nn ls s (st.take (k + 1)) = legsC nn ls s (st.take k) + legC nn ls x z l := by
  rw [take_succ' hl, legsC_append _ h]
  simp [legsC, hz]
theorem Way.join {xs ys : List Int} {z : Int} (h1 : Way ls (xs ++ [z])) (h2 : Way ls (z :: ys)) : Way ls (xs ++ z :: ys) := fun k a b ha hb => by
  by_cases h : k + 1 ≤ xs.length
  · have e : ∀ i, i ≤ xs.length → (xs ++ z :: ys)[i]? = (xs ++ [z])[i]? := fun i hi => by
      by_cases hh : i < xs.length
      · rw [List.getElem?_append_left hh, List.getElem?_append_left hh]
      · obtain rfl : i = xs.length := by omega
        rw [List.getElem?_append_right (Nat.le_refl _), List.getElem?_append_right (Nat.le_refl _)]
        simp
    exact h1 k a b (by rw [← e k (by omega)]; exact ha) (by rw [← e (k + 1) h]; exact hb)
  · rw [List.getElem?_append_right (by omega)] at ha hb
    refine h2 (k - xs.length) a b ha ?_
    rw [← hb]; congr 1; omega
theorem Way.single (ls : List Lk) (z : Int) : Way ls [z] := fun k a b _ hb => by
  have := (List.getElem?_eq_some_iff.1 hb).1
  simp at this
/-- The nodes of a packet: a way from its first node to its end. -/
theorem pth_way (hv : gvB (n : Int) ls = true) {st : List Lb} {z : Int} (hs : 0 ≤ s ∧ s < (n : Int)) (h : endO (n : Int) ls s st = some z) :
    Way ls (s :: pthO (n : Int) ls s st) ∧ (s :: pthO (n : Int) ls s st).getLast? = some z ∧ (pthO (n : Int) ls s st).length ≤ 7 * st.length := by
  induction st generalizing s with
  | nil => simp only [endO, Option.some.injEq] at h; subst h; exact ⟨Way.single _ _, rfl, by simp [pthO]⟩
  | cons l st ih =>
    simp only [endO] at h
    simp only [pthO]
    cases hz : stepO (n : Int) ls s l with
    | none => rw [hz] at h; cases h
    | some u =>
      rw [hz] at h
      dsimp only at h ⊢
      have hu := stepO_node hv hs hz
      have hne := stepO_leg hz
      obtain ⟨q, hq⟩ := leg_snoc hz
      have hc := leg_cons hv hs hne
      obtain ⟨_, _, _, _, hw, h8, _⟩ := leg_fact hv hs hne
      have e : s :: ((legP (n : Int) ls s l).drop 1 ++ pthO (n : Int) ls u st) = q ++ u :: pthO (n : Int) ls u st := by
        rw [← List.cons_append, ← hc, hq]; simp
      obtain ⟨i1, i2, i3⟩ := ih hu h
      rw [e]
      refine ⟨Way.join (by rw [← hq]; exact hw) i1, ?_, ?_⟩
      · rw [List.getLast?_append, i2]; rfl
      · simp only [List.length_append, List.length_drop, List.length_cons]
        omega
end
theorem pathS_len (nn : Int) (ls : List Lk) (s : Int) (st : List Lb) : (pathS nn ls s st).length ≤ 57 := by
  unfold pathS endI
  by_cases h : stB nn ls s st = true
  · rw [if_pos h]
    cases he : endO nn ls s st with
    | none => simp
    | some z =>
      simp only [Option.isSome_some, if_true, List.length_cons]
      unfold stB at h
      simp only [Bool.and_eq_true, decide_eq_true_eq] at h
      obtain ⟨hg, hs⟩ := vwB_inv h.1
      obtain ⟨n, rfl⟩ : ∃ q : Nat, nn = (q : Int) := ⟨nn.toNat, by omega⟩
      have := (pth_way hg hs he).2.2
      omega
  · rw [if_neg h]; simp

end Go.Proofs.Ytblmmmeeljidiab
