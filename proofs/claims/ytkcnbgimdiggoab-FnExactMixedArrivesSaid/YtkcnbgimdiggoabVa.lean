/-
  Plain facts: repairs: safe nodes, the nodes that need a link, the stack of a repair.
-/
import Derived.Test.YtkcnbgimdiggoabC4
import Derived.Test.YtkcnbgimdiggoabC6
namespace Go.Proofs.Ytkcnbgimdiggoab

def idxB (ls : List Lk) (x : Int) : Bool := decide (0 ≤ x) && decide (x < (ls.length : Int))
/-- The node and the link exist in a valid graph. -/
def rokB (nn : Int) (ls : List Lk) (s x : Int) : Bool := vwB nn ls [s] && idxB ls x
def nodL (n : Nat) : List Int := (List.range n).map (fun i : Nat => (i : Int))
def safeB (nn : Int) (ls : List Lk) (s x t : Int) : Bool := decide (0 ≤ bf nn ls s t) && !usedB nn ls s t x
def safeA (nn : Int) (ls : List Lk) (s x : Int) : List Int := if rokB nn ls s x then (nodL nn.toNat).filter (safeB nn ls s x) else []
def needA (nn : Int) (ls : List Lk) (s x : Int) : List Int := if rokB nn ls s x then (nodL nn.toNat).filter (fun t => usedB nn ls s t x) else []
theorem mem_nodL {n : Nat} {t : Int} : t ∈ nodL n ↔ 0 ≤ t ∧ t < (n : Int) := by
  unfold nodL
  rw [List.mem_map]
  constructor
  · rintro ⟨i, hi, rfl⟩
    rw [List.mem_range] at hi
    omega
  · rintro ⟨h0, h1⟩
    exact ⟨t.toNat, by rw [List.mem_range]; omega, by omega⟩
theorem nodL_asc (n : Nat) : (nodL n).Pairwise (· < ·) := by
  unfold nodL
  rw [List.pairwise_map]
  exact List.pairwise_lt_range.imp (fun h => by omega)
theorem vwB_single {n : Int} {ls : List Lk} {s : Int} : vwB n ls [s] = true ↔ gvB n ls = true ∧ 0 ≤ s ∧ s < n := by
  unfold vwB inB
  simp only [List.all_cons, List.all_nil, Bool.and_true, Bool.and_eq_true, decide_eq_true_eq]
  constructor
  · rintro ⟨h0, h1, h2⟩
    exact ⟨h0, h1, by omega⟩
  · rintro ⟨h0, h1, h2⟩
    exact ⟨h0, h1, by omega⟩
section
variable {n : Int} {ls : List Lk} {s t x : Int}
theorem used_reach (h : usedB n ls s t x = true) : 0 ≤ bf n ls s t := by
  unfold usedB at h
  rw [Bool.and_eq_true] at h
  obtain ⟨_, h⟩ := h
  split at h
  · split at h
    · unfold usedL at h
      simp only [Bool.and_eq_true, decide_eq_true_eq] at h
      exact h.1.1
    · cases h
  · cases h
theorem used_self (n : Int) (ls : List Lk) (s x : Int) : usedB n ls s s x = false := by
  cases hu : usedB n ls s s x with
  | false => rfl
  | true =>
    exfalso
    unfold usedB at hu
    rw [Bool.and_eq_true] at hu
    obtain ⟨hvv, hu⟩ := hu
    obtain ⟨hg, hs, _⟩ := vwB_two hvv
    obtain ⟨hf, _⟩ := gvB_fit hg
    split at hu
    · cases hx : ls[x.toNat]? with
      | none => rw [hx] at hu; cases hu
      | some l =>
        rw [hx] at hu
        have hb := bf_self hf hs
        have hl := gvB_at hg hx
        unfold usedL at hu
        simp only [Bool.and_eq_true, Bool.or_eq_true, decide_eq_true_eq] at hu
        have htri := bf_link_tri hf hs hs (List.mem_of_getElem? hx) (by omega) hu.1.2
        omega
    · cases hu
theorem safe_mem (h : rokB n ls s x = true) : t ∈ safeA n ls s x ↔ (0 ≤ t ∧ t < n) ∧ 0 ≤ bf n ls s t ∧ usedB n ls s t x = false := by
  unfold safeA
  rw [if_pos h, List.mem_filter, mem_nodL]
  unfold rokB at h
  rw [Bool.and_eq_true] at h
  have hn := vwB_single.1 h.1
  have e : ((n.toNat : Nat) : Int) = n := by omega
  rw [e]
  unfold safeB
  simp only [Bool.and_eq_true, decide_eq_true_eq, Bool.not_eq_true']
theorem safe_some (h : safeA n ls s x ≠ []) : rokB n ls s x = true := by
  unfold safeA at h
  by_cases hr : rokB n ls s x = true
  · exact hr
  · rw [if_neg hr] at h
    exact absurd rfl h
theorem need_mem (h : rokB n ls s x = true) : t ∈ needA n ls s x ↔ (0 ≤ t ∧ t < n) ∧ usedB n ls s t x = true := by
  unfold needA
  rw [if_pos h, List.mem_filter, mem_nodL]
  unfold rokB at h
  rw [Bool.and_eq_true] at h
  have hn := vwB_single.1 h.1
  have e : ((n.toNat : Nat) : Int) = n := by omega
  rw [e]
theorem safe_asc (n : Int) (ls : List Lk) (s x : Int) : (safeA n ls s x).Pairwise (· < ·) := by
  unfold safeA
  split
  · exact (nodL_asc _).sublist (List.filter_sublist ..)
  · exact List.Pairwise.nil
theorem safe_self (h : rokB n ls s x = true) : s ∈ safeA n ls s x := by
  rw [safe_mem h]
  unfold rokB at h
  rw [Bool.and_eq_true] at h
  obtain ⟨hg, hs⟩ := vwB_single.1 h.1
  have hb := bf_self (gvB_fit hg).1 hs
  exact ⟨hs, by omega, used_self n ls s x⟩
end
theorem rTo_cnt (ds : List Int) (k : Nat) : (rTo ds k).length = ((List.range k).filter fun i => match ds[i]? with | some d => decide (d ≠ -1) | none => false).length := by
  induction k with
  | zero => simp [rTo]
  | succ k ih =>
    simp only [rTo, List.range_succ, List.filter_append, List.length_append, ih]
    congr 1
    cases hd : ds[k]? with
    | none => simp [hd]
    | some d => by_cases h : d = -1 <;> simp [hd, h]
theorem reach_cnt {n : Nat} {ls : List Lk} {s : Int} (hg : gvB (n : Int) ls = true) (hs : 0 ≤ s ∧ s < (n : Int)) : (reachL (n : Int) ls s).length = ((List.range n).filter fun i : Nat => decide (0 ≤ bf (n : Int) ls s (i : Int))).length := by
  unfold reachL
  rw [rTo_cnt, distL_fl (vwB_one hg hs), fl_len]
  congr 1
  refine List.filter_congr fun i hi => ?_
  rw [fl_at (by simpa using hi)]
  dsimp only
  have := bf_sg (gvB_fit hg).1 hs (i : Int)
  rw [Bool.eq_iff_iff]
  simp only [decide_eq_true_eq, ne_eq]
  omega
/-- P98. -/
theorem safe_nodes {n : Nat} {ls : List Lk} {s x : Int} (h : rokB (n : Int) ls s x = true) : ∀ t : Int, 0 ≤ t → t < (n : Int) → (t ∈ safeA (n : Int) ls s x ↔ t ∈ reachL (n : Int) ls s ∧ usedB (n : Int) ls s t x = false) := by
  intro t h0 h1
  rw [safe_mem h]
  unfold rokB at h
  rw [Bool.and_eq_true] at h
  obtain ⟨hg, hs⟩ := vwB_single.1 h.1
  rw [reach_mem h.1 (gvB_fit hg).1 hs]
  exact and_assoc.symm
/-- P100. -/
theorem need_safe {n : Nat} {ls : List Lk} {s x : Int} (h : rokB (n : Int) ls s x = true) : ∀ t : Int, 0 ≤ t → t < (n : Int) → (t ∈ reachL (n : Int) ls s ↔ ¬ (t ∈ needA (n : Int) ls s x ↔ t ∈ safeA (n : Int) ls s x)) := by
  intro t h0 h1
  rw [safe_mem h, need_mem h]
  unfold rokB at h
  rw [Bool.and_eq_true] at h
  obtain ⟨hg, hs⟩ := vwB_single.1 h.1
  rw [reach_mem h.1 (gvB_fit hg).1 hs]
  have := used_reach (n := (n : Int)) (ls := ls) (s := s) (t := t) (x := x)
  cases hu : usedB (n : Int) ls s t x with
  | false => simp [h0, h1]
  | true => have := this hu; simp [h0, h1, this]
theorem filter_two {p q r : Int → Bool} : ∀ l : List Int, (∀ t ∈ l, r t = (p t || q t) ∧ (p t && q t) = false) → (l.filter p).length + (l.filter q).length = (l.filter r).length
  | [], _ => rfl
  | t :: l, h => by
    have ih := filter_two l fun t ht => h t (List.mem_cons_of_mem _ ht)
    obtain ⟨h1, h2⟩ := h t (List.mem_cons_self ..)
    rw [List.filter_cons, List.filter_cons, List.filter_cons, h1]
    cases hp : p t <;> cases hq : q t <;> rw [hp, hq] at h2 <;> simp at h2 ⊢ <;> omega
theorem need_count {n : Nat} {ls : List Lk} {s x : Int} (h : rokB (n : Int) ls s x = true) : (needA (n : Int) ls s x).length + (safeA (n : Int) ls s x).length = (reachL (n : Int) ls s).length := by
  have hh := h
  unfold rokB at hh
  rw [Bool.and_eq_true] at hh
  obtain ⟨hg, hs⟩ := vwB_single.1 hh.1
  rw [reach_cnt hg hs]
  unfold needA safeA
  rw [if_pos h, if_pos h, filter_two (r := fun t => decide (0 ≤ bf (n : Int) ls s t))]
  · unfold nodL
    rw [List.filter_map, List.length_map]
    rfl
  · intro t _
    have := used_reach (n := (n : Int)) (ls := ls) (s := s) (t := t) (x := x)
    unfold safeB
    cases hu : usedB (n : Int) ls s t x with
    | false => simp
    | true => have := this hu; simp [this]
/-- P109. -/
theorem need_back {n : Int} {ls : List Lk} {s t x : Int} (hg : gvB n ls = true) (hs : 0 ≤ s ∧ s < n) (ht : 0 ≤ t ∧ t < n) : t ∈ needA n ls s x ↔ s ∈ needA n ls t x := by
  by_cases hx : idxB ls x = true
  · rw [need_mem (by unfold rokB; rw [vwB_single.2 ⟨hg, hs⟩, hx]; rfl), need_mem (by unfold rokB; rw [vwB_single.2 ⟨hg, ht⟩, hx]; rfl), usedB_back]
    simp [hs, ht]
  · have e : ∀ u, needA n ls u x = [] := fun u => by
      unfold needA rokB
      rw [if_neg (by simp [hx])]
    rw [e, e]
    simp

/-! ### The stack -/
/-- One more than the place of the last of a list. -/
def lastS (p : Int → Bool) : List Int → Nat
  | [] => 0
  | y :: r => if 0 < lastS p r then lastS p r + 1 else if p y then 1 else 0
theorem lastS_spec (p : Int → Bool) : ∀ l : List Int, lastS p l ≤ l.length ∧ (∀ j, lastS p l = j + 1 → ∃ y, l[j]? = some y ∧ p y = true) ∧ ∀ i y, lastS p l ≤ i → l[i]? = some y → p y = false
  | [] => ⟨Nat.le_refl _, fun j h => by simp [lastS] at h, fun i y _ h => by simp at h⟩
  | y :: r => by
    obtain ⟨h1, h2, h3⟩ := lastS_spec p r
    unfold lastS
    by_cases h0 : 0 < lastS p r
    · rw [if_pos h0]
      refine ⟨by simp; omega, fun j hj => ?_, fun i z hi hz => ?_⟩
      · obtain ⟨z, hz, hp⟩ := h2 (j - 1) (by omega)
        exact ⟨z, by rw [show j = j - 1 + 1 by omega]; simpa using hz, hp⟩
      · rw [show i = i - 1 + 1 by omega, List.getElem?_cons_succ] at hz
        exact h3 (i - 1) z (by omega) hz
    · rw [if_neg h0]
      have h4 : ∀ i z, r[i]? = some z → p z = false := fun i z hz => h3 i z (by omega) hz
      by_cases hp : p y = true
      · rw [if_pos hp]
        refine ⟨by simp, fun j hj => ⟨y, by rw [show j = 0 by omega]; rfl, hp⟩, fun i z hi hz => ?_⟩
        rw [show i = i - 1 + 1 by omega, List.getElem?_cons_succ] at hz
        exact h4 (i - 1) z hz
      · rw [if_neg hp]
        refine ⟨Nat.zero_le _, fun j hj => by omega, fun i z _ hz => ?_⟩
        cases i with
        | zero => cases hz; simpa using hp
        | succ i => exact h4 i z (by simpa using hz)
/-- The labels along a path. -/
def repU (nn : Int) (ls : List Lk) (x : Int) : Nat → List Int → List Lb
  | k + 1, a :: b :: r => match lastS (safeB nn ls a x) (b :: r) with
    | 0 => ⟨2, linkI nn ls a b⟩ :: repU nn ls x k (b :: r)
    | j + 1 => ⟨1, ((b :: r)[j]?).getD 0⟩ :: repU nn ls x k ((b :: r).drop j)
  | _, _ => []
/-- P105. -/
theorem repU_len (nn : Int) (ls : List Lk) (x : Int) : ∀ (k : Nat) (p : List Int), (repU nn ls x k p).length ≤ p.length - 1
  | 0, p => by simp [repU]
  | k + 1, [] => by simp [repU]
  | k + 1, [a] => by simp [repU]
  | k + 1, a :: b :: r => by
    unfold repU
    split
    · have := repU_len nn ls x k (b :: r)
      simp at this ⊢
      omega
    · rename_i j hj
      have h1 := (lastS_spec (safeB nn ls a x) (b :: r)).1
      have := repU_len nn ls x k ((b :: r).drop j)
      simp at this h1 ⊢
      omega
section
variable {n : Nat} {ls : List Lk} {k : Nat} {l : Lk}
/-- P102, P108: the labels of a repair lead along its path, each node label names a safe node, no link label is the link. -/
theorem repU_end (hv : gvB (n : Int) ls = true) (h : ls[k]? = some l) : ∀ (m : Nat) (p : List Int) (s : Int), p.length ≤ m + 1 → p[0]? = some s → (∀ z ∈ p, 0 ≤ z ∧ z < (n : Int)) → Way (ls.eraseIdx k) p →
    endO (n : Int) ls s (repU (n : Int) ls (k : Int) m p) = p[p.length - 1]? ∧ (legsO (n : Int) ls s (repU (n : Int) ls (k : Int) m p)).any (legX (n : Int) ls (k : Int)) = false := by
  intro m
  induction m with
  | zero =>
    intro p s hl hp _ _
    match p, hl, hp with
    | [a], _, hp => exact ⟨by simp [repU, endO] at hp ⊢; exact hp.symm, by simp [repU, legsO]⟩
    | _ :: _ :: _, hl, _ => simp at hl
  | succ m ih =>
    intro p s hl hp hr hw
    match p, hl, hp, hr, hw with
    | [a], _, hp, _, _ => exact ⟨by simp [repU, endO] at hp ⊢; exact hp.symm, by simp [repU, legsO]⟩
    | a :: b :: r, hl, hp, hr, hw =>
      obtain rfl : a = s := by simpa using hp
      have hs := hr a (List.mem_cons_self ..)
      obtain ⟨hS1, hS2, hS3⟩ := lastS_spec (safeB (n : Int) ls a (k : Int)) (b :: r)
      unfold repU
      split
      · obtain ⟨e, hadj⟩ := hw 0 a b rfl rfl
        obtain ⟨hadj', hne⟩ := (er_adj hv h).1 hadj
        obtain ⟨j, y, hj, hy, -, -, -⟩ := way_link hv ⟨e, hadj'⟩
        have hends := adj_link hv hadj' hj hy
        have hjk : j ≠ k := fun e => by
          subst e
          rw [h] at hy
          cases hy
          exact hne hends
        have hpr := gvB_at hv hy
        have hleg : legP (n : Int) ls a ⟨2, linkI (n : Int) ls a b⟩ = [a, b] := by
          unfold legP
          dsimp only
          rw [if_neg (by omega), if_pos rfl, if_pos (by omega), hj, show ((j : Int)).toNat = j by omega, hy]
          dsimp only
          unfold touchB acrossI
          rcases hends with ⟨e1, e2⟩ | ⟨e1, e2⟩
          · rw [if_pos (by simp [e1]), if_pos e1, e2]
          · rw [if_pos (by simp [e1]), if_neg (by omega), e2]
        have hst : stepO (n : Int) ls a ⟨2, linkI (n : Int) ls a b⟩ = some b := by unfold stepO; rw [hleg]; rfl
        obtain ⟨i1, i2⟩ := ih (b :: r) b (by simp at hl ⊢; omega) rfl (fun z hz => hr z (List.mem_cons_of_mem _ hz)) (fun i u v hu hv => hw (i + 1) u v (by simpa using hu) (by simpa using hv))
        simp only [endO, legsO, hst]
        refine ⟨?_, ?_⟩
        · rw [i1]
          simp
        · rw [List.any_cons, i2, Bool.or_false]
          unfold legX
          rw [if_neg (by show ¬ (2 : Int) = 1; omega), hj]
          exact decide_eq_false (by show ¬ (j : Int) = (k : Int); omega)
      · rename_i j hj
        obtain ⟨y, hy, hsafe⟩ := hS2 j hj
        have hym := List.mem_of_getElem? hy
        have hyr := hr y (List.mem_cons_of_mem _ hym)
        unfold safeB at hsafe
        simp only [Bool.and_eq_true, decide_eq_true_eq, Bool.not_eq_true'] at hsafe
        obtain ⟨hf, _⟩ := gvB_fit hv
        have hP := path_isP (n := n) (vwB_of hv hs hyr) (by rw [bf_symm hf hyr hs]; exact hsafe.1)
        have hleg : legP (n : Int) ls a ⟨1, y⟩ = pathL n ls a y := by
          unfold legP pathI
          dsimp only
          rw [if_pos rfl]
          rfl
        have hst : stepO (n : Int) ls a ⟨1, y⟩ = some y := by
          unfold stepO
          rw [hleg, List.getLast?_eq_getElem?]
          exact hP.end
        have hyj : ((b :: r)[j]?).getD 0 = y := by rw [hy]; rfl
        rw [hyj]
        have hdl : j < (b :: r).length := (List.getElem?_eq_some_iff.1 hy).1
        obtain ⟨i1, i2⟩ := ih ((b :: r).drop j) y (by rw [List.length_drop]; simp at hl ⊢; omega) (by rw [List.getElem?_drop]; exact hy) (fun z hz => hr z (List.mem_cons_of_mem _ (List.mem_of_mem_drop hz)))
          (fun i u v hu hv => by
            rw [List.getElem?_drop] at hu hv
            exact hw (j + i + 1) u v (by rw [List.getElem?_cons_succ]; exact hu) (by rw [List.getElem?_cons_succ, show j + i + 1 = j + (i + 1) by omega]; exact hv))
        simp only [endO, legsO, hst]
        refine ⟨?_, ?_⟩
        · rw [i1, List.getElem?_drop, List.length_drop]
          have e : j + ((b :: r).length - j - 1) + 1 = (a :: b :: r).length - 1 := by simp at hdl ⊢; omega
          rw [← e, List.getElem?_cons_succ]
        · rw [List.any_cons, i2, Bool.or_false]
          unfold legX
          rw [if_pos (by rfl), hleg]
          have hh := hP.head.1
          rw [show (pathL n ls a y).headD 0 = a by
            match hq : pathL n ls a y with
            | [] => rw [hq] at hh; simp at hh
            | u :: _ => rw [hq] at hh; simp at hh; simpa using hh]
          exact hsafe.2
end
end Go.Proofs.Ytkcnbgimdiggoab
