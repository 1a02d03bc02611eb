/-
  Plain facts: neighbours, links between them, and the equation of shortest paths.
-/
import Derived.Test.YtigamnnboojiiaaDm
import Derived.Test.YtigamnnboojiiaaFnNbw
import Derived.Test.YtigamnnboojiiaaIsoM
namespace Go.Proofs.Ytigamnnboojiiaa

theorem nbTo_all {n : Int} {ls : List Lk} {k j : Nat} {l : Lk} (hj : j < k) (hl : ls[j]? = some l) (ht : touchB l n = true) : (acrossI l n, j) ∈ nbTo n ls k := by
  induction k with
  | zero => omega
  | succ k ih =>
    simp only [nbTo, List.mem_append]
    by_cases h : j < k
    · exact .inl (ih h)
    · obtain rfl : j = k := by omega
      right
      rw [hl]
      simp [ht]
theorem nbI_adj {n : Int} {ls : List Lk} (hv : gvB n ls = true) {y z : Int} : z ∈ nbI n ls y ↔ ∃ e, Adj ls y z e := by
  unfold nbI
  rw [if_pos hv, List.mem_map]
  constructor
  · rintro ⟨p, hp, rfl⟩
    obtain ⟨j, l, hj, hl, ht, rfl⟩ := nbTo_mem hp
    unfold touchB at ht
    simp only [Bool.or_eq_true, decide_eq_true_eq] at ht
    refine ⟨l.c, l, List.mem_of_getElem? hl, ?_, rfl⟩
    unfold acrossI
    by_cases h : l.a = y
    · exact .inl ⟨h, by simp [h]⟩
    · exact .inr ⟨by omega, by simp [h]⟩
  · rintro ⟨e, l, hl, h, rfl⟩
    obtain ⟨j, hj⟩ := List.getElem?_of_mem hl
    have hlt := (List.getElem?_eq_some_iff.1 hj).1
    have hb := gvB_at hv hj
    refine ⟨_, nbTo_all hlt hj (n := y) ?_, ?_⟩
    · unfold touchB
      simp only [Bool.or_eq_true, decide_eq_true_eq]
      omega
    · unfold acrossI
      dsimp only
      split <;> omega
/-- The link to a neighbour. -/
theorem nbI_link {n : Int} {ls : List Lk} (hv : gvB n ls = true) {y z : Int} (hz : z ∈ nbI n ls y) : ∃ (k : Nat) (l : Lk), linkI n ls y z = k ∧ ls[k]? = some l ∧ Adj ls y z l.c ∧ l.a = min y z ∧ l.b = max y z := by
  obtain ⟨hf, _⟩ := gvB_fit hv
  obtain ⟨e, ha⟩ := (nbI_adj hv).1 hz
  have hfa := hf.adj ha
  obtain ⟨m, rfl⟩ : ∃ m : Nat, z = (m : Int) := ⟨z.toNat, by omega⟩
  have := nbI_has hv y m hfa.2.2.2.1
  rw [decide_eq_decide] at this
  obtain ⟨k, l, h1, h2, h3, h4⟩ := linkI_at (this.1 hz)
  refine ⟨k, l, h1, h2, ⟨l, List.mem_of_getElem? h2, ?_, rfl⟩, h3, h4⟩
  omega
theorem adj_uniq {n : Int} {ls : List Lk} (hv : gvB n ls = true) {y z e e' : Int} (h : Adj ls y z e) (h' : Adj ls y z e') : e = e' := by
  rw [gvB_iff] at hv
  obtain ⟨_, _, h3, h4⟩ := hv
  obtain ⟨l, hl, hh, rfl⟩ := h
  obtain ⟨l', hl', hh', rfl⟩ := h'
  have a1 := h3 l hl
  have a2 := h3 l' hl'
  unfold allowsB inB at a1 a2
  simp at a1 a2
  obtain ⟨i, hi, rfl⟩ := List.getElem_of_mem hl
  obtain ⟨j, hj, rfl⟩ := List.getElem_of_mem hl'
  rw [List.pairwise_iff_getElem] at h4
  have key : i = j := by
    rcases Nat.lt_trichotomy i j with h | h | h
    · have := h4 i j hi hj h
      unfold beforeB at this
      simp at this
      omega
    · exact h
    · have := h4 j i hj hi h
      unfold beforeB at this
      simp at this
      omega
  subst key
  rfl
theorem vwB_one {n : Nat} {ls : List Lk} (hg : gvB (n : Int) ls = true) {y : Int} (hy : 0 ≤ y ∧ y < (n : Int)) : vwB (n : Int) ls [y] = true := by
  unfold vwB inB
  simp [hg]
  omega
theorem vwB_inv {n : Int} {ls : List Lk} {y : Int} (h : vwB n ls [y] = true) : gvB n ls = true ∧ 0 ≤ y ∧ y < n := by
  unfold vwB inB at h
  simp at h
  exact ⟨h.1, by omega, by omega⟩
theorem reachL_some {n : Int} {ls : List Lk} {s : Int} (h : reachL n ls s ≠ []) : vwB n ls [s] = true := by
  cases hv : vwB n ls [s] with
  | true => rfl
  | false =>
    exfalso
    apply h
    unfold reachL distL
    rw [hv]
    rfl
theorem distL_some {n : Int} {ls : List Lk} {s : Int} (h : distL n ls s ≠ []) : vwB n ls [s] = true := by
  cases hv : vwB n ls [s] with
  | true => rfl
  | false =>
    exfalso
    apply h
    unfold distL
    rw [hv]
    rfl
theorem reachL_asc (n : Int) (ls : List Lk) (s : Int) : (reachL n ls s).Pairwise (· < ·) := rTo_asc _ _
/-- Reached nodes are closed under links. -/
theorem reach_closed {n : Nat} {ls : List Lk} {s y z : Int} (hg : gvB (n : Int) ls = true) (hs : 0 ≤ s ∧ s < (n : Int)) (hy : y ∈ reachL (n : Int) ls s) (hz : z ∈ nbI (n : Int) ls y) : z ∈ reachL (n : Int) ls s := by
  obtain ⟨hf, _⟩ := gvB_fit hg
  obtain ⟨e, ha⟩ := (nbI_adj hg).1 hz
  rw [reach_mem (vwB_one hg hs) hf hs] at hy ⊢
  have := hf.adj ha
  exact ⟨by omega, (bf_edge hf hs ha hy.2).1⟩
theorem reach_self {n : Nat} {ls : List Lk} {s : Int} (hg : gvB (n : Int) ls = true) (hs : 0 ≤ s ∧ s < (n : Int)) : s ∈ reachL (n : Int) ls s := by
  obtain ⟨hf, _⟩ := gvB_fit hg
  rw [reach_mem (vwB_one hg hs) hf hs]
  exact ⟨hs, by rw [bf_self hf hs]; omega⟩

/-- The least so far: over the first k of the neighbours zs of y. -/
def BestI (n : Int) (ls : List Lk) (s y : Int) (zs : List Int) (k : Nat) (b : Int) : Prop :=
  (b = -1 ∨ (0 ≤ b ∧ ((b = 0 ∧ y = s) ∨ ∃ (z e : Int), z ∈ zs.take k ∧ Adj ls y z e ∧ 0 ≤ bf n ls s z ∧ b = bf n ls s z + e))) ∧
  (y = s → 0 ≤ b ∧ b ≤ 0) ∧ ∀ z e, z ∈ zs.take k → Adj ls y z e → 0 ≤ bf n ls s z → 0 ≤ b ∧ b ≤ bf n ls s z + e
section
variable {n : Int} {ls : List Lk} {s y : Int} {zs : List Int}
theorem BestI.start0 (h : y = s) : BestI n ls s y zs 0 0 := ⟨.inr ⟨by omega, .inl ⟨rfl, h⟩⟩, fun _ => by omega, fun z e h => by simp at h⟩
theorem BestI.start1 (h : y ≠ s) : BestI n ls s y zs 0 (-1) := ⟨.inl rfl, fun e => absurd e h, fun z e h => by simp at h⟩
theorem BestI.next (hv : gvB n ls = true) {k : Nat} {b z e : Int} (h : BestI n ls s y zs k b) (hz : zs[k]? = some z) (ha : Adj ls y z e) :
    BestI n ls s y zs (k + 1) (if 0 ≤ bf n ls s z ∧ (b < 0 ∨ bf n ls s z + e < b) then bf n ls s z + e else b) := by
  have hf := (gvB_fit hv).1
  have he := hf.adj ha
  obtain ⟨h1, h2, h3⟩ := h
  have hm : ∀ x, x ∈ zs.take (k + 1) ↔ x ∈ zs.take k ∨ x = z := fun x => by
    rw [List.take_add_one, List.mem_append, hz]
    simp
  by_cases hc : 0 ≤ bf n ls s z ∧ (b < 0 ∨ bf n ls s z + e < b)
  · rw [if_pos hc]
    refine ⟨.inr ⟨by omega, .inr ⟨z, e, (hm z).2 (.inr rfl), ha, hc.1, rfl⟩⟩, fun hy => ?_, fun x d hx hd h0 => ?_⟩
    · have := h2 hy
      omega
    · rcases (hm x).1 hx with hx | rfl
      · have := h3 x d hx hd h0
        omega
      · rw [adj_uniq hv ha hd]
        have := hf.adj hd
        omega
  · rw [if_neg hc]
    refine ⟨?_, h2, fun x d hx hd h0 => ?_⟩
    · rcases h1 with h1 | ⟨h0, h1⟩
      · exact .inl h1
      · refine .inr ⟨h0, ?_⟩
        rcases h1 with h1 | ⟨x, d, hx, r⟩
        · exact .inl h1
        · exact .inr ⟨x, d, (hm x).2 (.inl hx), r⟩
    · rcases (hm x).1 hx with hx | rfl
      · exact h3 x d hx hd h0
      · rw [adj_uniq hv hd ha]
        omega
theorem BestI.bound (hv : gvB n ls = true) (hs : 0 ≤ s ∧ s < n) {k : Nat} {b : Int} (h : BestI n ls s y zs k b) : -1 ≤ b ∧ b ≤ 200 := by
  obtain ⟨hf, _, h8, _⟩ := gvB_fit hv
  rcases h.1 with h1 | ⟨h0, ⟨h1, _⟩ | ⟨z, e, _, ha, _, h1⟩⟩
  · omega
  · omega
  · have := bf_bound hf hs h8 z
    have := hf.adj ha
    omega
theorem BestI.done {n : Nat} (hv : gvB (n : Int) ls = true) (hs : 0 ≤ s ∧ s < (n : Int)) {b : Int} (h : BestI (n : Int) ls s y (nbI (n : Int) ls y) (nbI (n : Int) ls y).length b) : b = bf (n : Int) ls s y := by
  obtain ⟨hf, _⟩ := gvB_fit hv
  obtain ⟨h1, h2, h3⟩ := h
  rw [List.take_length] at h1 h3
  rcases bf_sign hf hs y with hd | hd
  · by_cases hys : y = s
    · have := h2 hys
      subst hys
      rw [bf_self hf hs]
      omega
    · obtain ⟨u, e, ha, h0, he⟩ := bf_pred hf hs hys hd
      have h4 := h3 u e ((nbI_adj hv).2 ⟨e, ha.symm⟩) ha.symm h0
      rcases h1 with h1 | ⟨_, ⟨_, h1⟩ | ⟨z, e', _, hz, hz0, h1⟩⟩
      · omega
      · exact absurd h1 hys
      · have := bf_edge hf hs hz.symm hz0
        omega
  · rcases h1 with h1 | ⟨_, ⟨_, h1⟩ | ⟨z, e', _, hz, hz0, h1⟩⟩
    · omega
    · subst h1
      rw [bf_self hf hs] at hd
      omega
    · have := bf_edge hf hs hz.symm hz0
      omega
end

end Go.Proofs.Ytigamnnboojiiaa
