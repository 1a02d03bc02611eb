/-
  Plain facts: the way back of a packet, and packets that have no choice.
-/
import Derived.Test.YtblmmmeeljidiabLd
namespace Go.Proofs.Ytblmmmeeljidiab

/-! ### The way back -/
/-- The labels for the way back. -/
def rev (s : Int) : List Lb → List Lb
  | [] => []
  | l :: st => match st with
    | [] => [⟨1, s⟩]
    | _ :: _ => rev l.a st ++ [⟨1, s⟩]
theorem rev_eq : ∀ (st : List Lb) (s : Int), st ≠ [] → (∀ l ∈ st, l.k = 1) → rev s st = st.dropLast.reverse ++ [⟨1, s⟩] := by
  intro st
  induction st with
  | nil => intro s h; exact absurd rfl h
  | cons l st ih =>
    intro s _ hk
    cases st with
    | nil => rfl
    | cons l2 st2 =>
      have h1 := ih l.a (by simp) (fun y hy => hk y (List.mem_cons_of_mem _ hy))
      have hl : l = ⟨1, l.a⟩ := by
        obtain ⟨k, a⟩ := l
        have := hk ⟨k, a⟩ List.mem_cons_self
        dsimp only at this
        rw [this]
      show rev l.a (l2 :: st2) ++ [⟨1, s⟩] = _
      have h2 : (l :: l2 :: st2).dropLast = l :: (l2 :: st2).dropLast := rfl
      rw [h1, h2, List.reverse_cons, ← hl]
theorem step_back {n : Nat} {ls : List Lk} (hg : gvB (n : Int) ls = true) {s z : Int} (hs : 0 ≤ s ∧ s < (n : Int)) {l : Lb} (hk : l.k = 1) (h : stepO (n : Int) ls s l = some z) : z = l.a ∧ (0 ≤ z ∧ z < (n : Int)) ∧ stepO (n : Int) ls z ⟨1, s⟩ = some s ∧ legC (n : Int) ls z s ⟨1, s⟩ = legC (n : Int) ls s z l := by
  obtain ⟨z', h1, h2, _, _, _, _, h7⟩ := leg_fact hg hs (stepO_leg h)
  rw [h1] at h; cases h
  obtain ⟨he, h0, _⟩ := h7 hk
  have hf := (gvB_fit hg).1
  refine ⟨he, h2, ?_, ?_⟩
  · rw [stepO_node1 hg h2, if_pos ⟨hs, by rw [bf_symm hf h2 hs]; exact h0⟩]
  · unfold legC
    dsimp only
    rw [if_neg (by decide), if_neg (by omega), bf_symm hf h2 hs]
theorem rev_facts {n : Nat} {ls : List Lk} (hg : gvB (n : Int) ls = true) : ∀ (st : List Lb) {s z : Int}, 0 ≤ s ∧ s < (n : Int) → st ≠ [] → (∀ l ∈ st, l.k = 1) → endO (n : Int) ls s st = some z → endO (n : Int) ls z (rev s st) = some s ∧ legsC (n : Int) ls z (rev s st) = legsC (n : Int) ls s st := by
  intro st
  induction st with
  | nil => intro s z _ h; exact absurd rfl h
  | cons l st ih =>
    intro s z hs _ hk he
    simp only [endO] at he
    cases hz : stepO (n : Int) ls s l with
    | none => rw [hz] at he; cases he
    | some u =>
      rw [hz] at he
      dsimp only at he
      obtain ⟨hua, hu, hb1, hb2⟩ := step_back hg hs (hk l List.mem_cons_self) hz
      cases st with
      | nil =>
        simp only [endO, Option.some.injEq] at he
        subst he
        have h1 : rev s [l] = [⟨1, s⟩] := rfl
        rw [h1, endO_one]
        refine ⟨hb1, ?_⟩
        simp only [legsC, hz, hb1]
        omega
      | cons l2 st2 =>
        obtain ⟨h1, h2⟩ := ih hu (by simp) (fun y hy => hk y (List.mem_cons_of_mem _ hy)) he
        have h3 : rev s (l :: l2 :: st2) = rev u (l2 :: st2) ++ [⟨1, s⟩] := by rw [hua]; rfl
        rw [h3]
        constructor
        · rw [endO_append, h1]
          show endO (n : Int) ls u [⟨1, s⟩] = some s
          rw [endO_one]
          exact hb1
        · rw [legsC_append _ h1, h2]
          simp only [legsC, hz, hb1]
          omega
theorem back_facts {n : Int} {ls : List Lk} {x z : Int} {st : List Lb} (h : endI n ls x st = some z) (hne : st ≠ []) (hk : ∀ l ∈ st, l.k = 1) :
    endI n ls z (st.dropLast.reverse ++ [⟨1, x⟩]) = some x ∧ costS n ls z (st.dropLast.reverse ++ [⟨1, x⟩]) = costS n ls x st := by
  obtain ⟨m, z', rfl, hg, hx, h8, he, hi⟩ := endI_inv (by rw [h]; rfl)
  rw [hi] at h; cases h
  have hz := endO_node hg hx he
  obtain ⟨h1, h2⟩ := rev_facts hg st hx hne hk he
  rw [← rev_eq st x hne hk]
  have hl : (rev x st).length ≤ 8 := by
    rw [rev_eq st x hne hk]
    have : 0 < st.length := List.length_pos_iff.2 hne
    simp
    omega
  have h3 : endI (m : Int) ls z (rev x st) = some x := by
    unfold endI
    rw [if_pos (by unfold stB; rw [vwB_one hg hz]; simp [hl]), h1]
  refine ⟨h3, ?_⟩
  unfold costS
  rw [h3, hi, Option.isSome_some, Option.isSome_some, if_pos rfl, if_pos rfl, along_legs hg hz h1, along_legs hg hx he, h2]

/-! ### No choice -/
theorem endI_one {n : Nat} {ls : List Lk} (hg : gvB (n : Int) ls = true) {s : Int} (hs : 0 ≤ s ∧ s < (n : Int)) (l : Lb) : endI (n : Int) ls s [l] = stepO (n : Int) ls s l := by
  unfold endI
  rw [if_pos (by unfold stB; rw [vwB_one hg hs]; simp), endO_one]
theorem endI_invalid {n : Int} {ls : List Lk} {s : Int} (h : vwB n ls [s] = false) (st : List Lb) : endI n ls s st = none := by
  unfold endI
  rw [if_neg (by unfold stB; rw [h]; simp)]
/-- Where no label of a node has more than one path, a packet that arrives has one way. -/
theorem ways_done {n : Nat} {ls : List Lk} (hg : gvB (n : Int) ls = true) {x : Int} (hx : 0 ≤ x ∧ x < (n : Int)) {st : List Lb}
    (hall : ∀ (j : Nat) (u z : Int) (l : Lb), st[j]? = some l → endO (n : Int) ls x (st.take j) = some u → stepO (n : Int) ls u l = some z → l.k = 1 → ¬ 1 < countI (n : Int) ls u z) (hu : uniqS (n : Int) ls x st = false) : endI (n : Int) ls x st = none := by
  cases hi : endI (n : Int) ls x st with
  | none => rfl
  | some z =>
    exfalso
    obtain ⟨m, z', e, _, _, _, he, _⟩ := endI_inv (by rw [hi]; rfl)
    obtain rfl : n = m := by omega
    unfold uniqS at hu
    rw [hi] at hu
    simp only [Option.isSome_some, Bool.true_and, Bool.not_eq_false', List.any_eq_true] at hu
    obtain ⟨y, hy, hyu⟩ := hu
    obtain ⟨j, hj⟩ := List.getElem?_of_mem hy
    have hjl : j < st.length := by
      have := (List.getElem?_eq_some_iff.1 hj).1
      have := legsO_full he
      omega
    obtain ⟨l, hl⟩ : ∃ l, st[j]? = some l := ⟨_, List.getElem?_eq_getElem hjl⟩
    obtain ⟨u, hu⟩ := endO_upto he j
    obtain ⟨v, hv⟩ := endO_upto he (j + 1)
    have hst : stepO (n : Int) ls u l = some v := by rw [← endO_next hu hl]; exact hv
    have hat := legsO_at he hu hl
    rw [hat] at hj
    cases hj
    have hun := endO_node hg hx hu
    have hne := stepO_leg hst
    obtain ⟨v', h1, h2, h0, _, _, _, h7⟩ := leg_fact hg hun hne
    rw [hst] at h1; cases h1
    unfold legU at hyu
    by_cases hk : l.k = 1
    · rw [if_pos hk] at hyu
      have hhd : (legP (n : Int) ls u l).headD 0 = u := by
        cases hp : legP (n : Int) ls u l with
        | nil => exact absurd hp hne
        | cons w r => rw [hp] at h0; simpa using h0
      dsimp only at hyu
      rw [hhd, ← (h7 hk).1] at hyu
      exact hall j u v l hl hu hst hk (by simpa using hyu)
    · rw [if_neg hk] at hyu
      cases hyu

/-! ### The links of a path -/
def onT (n : Int) (ls : List Lk) (xs : List Int) (k : Int) (i : Nat) : Bool := (List.range i).any fun j => decide (linkI n ls ((xs[j]?).getD 0) ((xs[j + 1]?).getD 0) = k)
theorem onT_succ {n : Int} {ls : List Lk} {xs : List Int} {k : Int} {i : Nat} {a b : Int} (ha : xs[i]? = some a) (hb : xs[i + 1]? = some b) : onT n ls xs k (i + 1) = (onT n ls xs k i || decide (linkI n ls a b = k)) := by
  unfold onT
  rw [List.range_succ, List.any_append]
  simp [ha, hb]
theorem onT_all {n : Int} {ls : List Lk} {x : Int} {st : List Lb} (hu : uniqS n ls x st = true) (k : Nat) : crossS n ls x st (k : Int) = onT n ls (pathS n ls x st) (k : Int) ((pathS n ls x st).length - 1) := by
  rw [Bool.eq_iff_iff]
  constructor
  · intro hc
    obtain ⟨i, a, b, h1, h2, h3⟩ := unique_on hu hc
    have hi := (List.getElem?_eq_some_iff.1 h2).1
    unfold onT
    rw [List.any_eq_true]
    exact ⟨i, by simp; omega, by simp [h1, h2, h3]⟩
  · intro h
    unfold onT at h
    rw [List.any_eq_true] at h
    obtain ⟨i, hi, he⟩ := h
    have hi' : i < (pathS n ls x st).length - 1 := by simpa using hi
    obtain ⟨a, ha⟩ : ∃ a, (pathS n ls x st)[i]? = some a := ⟨_, List.getElem?_eq_getElem (by omega)⟩
    obtain ⟨b, hb⟩ : ∃ b, (pathS n ls x st)[i + 1]? = some b := ⟨_, List.getElem?_eq_getElem (by omega)⟩
    have := path_crosses ha hb
    simp only [ha, hb, Option.getD_some, decide_eq_true_eq] at he
    rw [he] at this
    exact this
theorem bk_at (st : List Lb) {j p : Nat} (h : p + j + 2 = st.length) : st.dropLast.reverse[j]? = st[p]? := by
  rw [List.getElem?_reverse (by simp; omega), List.length_dropLast, List.getElem?_dropLast]
  rw [if_pos (by omega)]
  congr 1
  omega

end Go.Proofs.Ytblmmmeeljidiab
