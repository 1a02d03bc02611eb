/-
  Plain facts: a node that no shortest path uses can be isolated.
-/
import Derived.Test.YtbhipfidkfnlpaaPf
namespace Go.Proofs.Ytbhipfidkfnlpaa

def isoLs (ls : List Lk) (z : Int) : List Lk := ls.filter (fun l => !decide (l.a = z) && !decide (l.b = z))
theorem iso_adj {ls : List Lk} {z u v e : Int} : Adj (isoLs ls z) u v e ↔ Adj ls u v e ∧ u ≠ z ∧ v ≠ z := by
  unfold isoLs
  constructor
  · rintro ⟨l, hl, hh, hc⟩
    obtain ⟨h1, h2⟩ := List.mem_filter.1 hl
    simp at h2
    exact ⟨⟨l, h1, hh, hc⟩, by omega, by omega⟩
  · rintro ⟨⟨l, hl, hh, hc⟩, h1, h2⟩
    refine ⟨l, List.mem_filter.2 ⟨hl, ?_⟩, hh, hc⟩
    simp
    omega
theorem iso_wk {ls : List Lk} {z s v c : Int} {k : Nat} (hw : Wk (isoLs ls z) s v c k) : Wk ls s v c k := by
  induction hw with
  | nil => exact .nil
  | snoc _ ha ih => exact ih.snoc (iso_adj.1 ha).1
section
variable {n : Nat} {ls : List Lk} {t z : Int}
theorem iso_path (hv : gvB (n : Int) ls = true) (ht : 0 ≤ t ∧ t < (n : Int)) {s : Int} {p : List Int} (h : IsP n ls t s p) (hz : ∀ x ∈ p, x ≠ z) : ∃ k, Wk (isoLs ls z) s t (bf (n : Int) ls t s) k := by
  induction h with
  | last => rw [bf_self (gvB_fit hv).1 ht]; exact ⟨0, .nil⟩
  | @step s y zs p hst hh hs h0 hp ih =>
    obtain ⟨k, hk⟩ := ih fun x hx => hz x (by simp [hx])
    obtain ⟨e, ha, _, he⟩ := (hops_mem (vwB_of hv hs ht)).1 (show y ∈ hopsL (n : Int) ls s t by rw [hh]; simp)
    have hy : y ∈ p := List.mem_of_getElem? hp.head.1
    have := (Wk.one (iso_adj.2 ⟨ha, hz s (by simp), hz y (by simp [hy])⟩)).trans hk
    rw [show e + bf (n : Int) ls t y = bf (n : Int) ls t s by omega] at this
    exact ⟨_, this⟩
theorem iso_bf (hv : gvB (n : Int) ls = true) (ht : 0 ≤ t ∧ t < (n : Int)) {s : Int} (hs : 0 ≤ s ∧ s < (n : Int)) (hnu : nodeL (n : Int) ls s t z = false) : bf (n : Int) (isoLs ls z) t s = bf (n : Int) ls t s := by
  obtain ⟨hf, _⟩ := gvB_fit hv
  have hv' : gvB (n : Int) (isoLs ls z) = true := gvB_filter _ hv
  obtain ⟨hf', _⟩ := gvB_fit hv'
  have hge : 0 ≤ bf (n : Int) (isoLs ls z) t s → 0 ≤ bf (n : Int) ls t s ∧ bf (n : Int) ls t s ≤ bf (n : Int) (isoLs ls z) t s := fun h => by
    obtain ⟨k, hk⟩ := bf_walk hf' ht h
    exact bf_le hf ht (iso_wk hk)
  rcases bf_sg hf ht s with h0 | h0
  · have hp := pathL_isP hv ht _ s hs h0 (Nat.le_refl _)
    obtain ⟨k, hk⟩ := iso_path (z := z) hv ht hp fun x hx e => by
      subst e
      obtain ⟨i, hi⟩ := List.getElem?_of_mem hx
      obtain ⟨u1, u2, u3, _⟩ := hp.used hv ht hi
      have : nodeL (n : Int) ls s t x = true := by
        unfold nodeL
        simp only [Bool.and_eq_true, decide_eq_true_eq]
        omega
      rw [hnu] at this
      cases this
    have h1 := bf_le hf' ht hk.symm
    have h2 := hge h1.1
    omega
  · rcases bf_sg hf' ht s with h1 | h1
    · have := hge h1
      omega
    · omega
theorem iso_hop (hv : gvB (n : Int) ls = true) (ht : 0 ≤ t ∧ t < (n : Int)) (hz : 0 ≤ z ∧ z < (n : Int)) {s y : Int} (hs : 0 ≤ s ∧ s < (n : Int)) (hnu : nodeL (n : Int) ls s t z = false) (hy : y ∈ hopsL (n : Int) ls s t) : y ≠ z ∧ nodeL (n : Int) ls y t z = false := by
  obtain ⟨hf, _⟩ := gvB_fit hv
  have hvw := vwB_of hv hs ht
  obtain ⟨hyr, _, hy0, _⟩ := hops_node hvw hy
  obtain ⟨e, ha, _, he⟩ := (hops_mem hvw).1 hy
  constructor
  · rintro rfl
    have h := (hop_used hvw hy).1
    unfold nodeB at h
    rw [hnu, Bool.and_false] at h
    cases h
  · cases hc : nodeL (n : Int) ls y t z with
    | false => rfl
    | true =>
      exfalso
      have hnt : nodeL (n : Int) ls s t z = true := by
        unfold nodeL at hc ⊢
        simp only [Bool.and_eq_true, decide_eq_true_eq] at hc ⊢
        have e1 : bf (n : Int) ls y t = bf (n : Int) ls t y := bf_symm hf hyr ht
        have e2 : bf (n : Int) ls s t = bf (n : Int) ls t s := bf_symm hf hs ht
        have e3 : bf (n : Int) ls y z = bf (n : Int) ls z y := bf_symm hf hyr hz
        have e4 : bf (n : Int) ls s z = bf (n : Int) ls z s := bf_symm hf hs hz
        have h1 := bf_edge hf hz ha.symm (by omega)
        have h2 := bf_node_tri hf hs ht hz (by omega) hc.1.2
        omega
      rw [hnu] at hnt
      cases hnt
theorem iso_hops (hv : gvB (n : Int) ls = true) (ht : 0 ≤ t ∧ t < (n : Int)) (hz : 0 ≤ z ∧ z < (n : Int)) {s : Int} (hs : 0 ≤ s ∧ s < (n : Int)) (hsz : s ≠ z) (hnu : nodeL (n : Int) ls s t z = false) : hopsL (n : Int) (isoLs ls z) s t = hopsL (n : Int) ls s t := by
  obtain ⟨hf, _⟩ := gvB_fit hv
  have hv' : gvB (n : Int) (isoLs ls z) = true := gvB_filter _ hv
  obtain ⟨hf', _⟩ := gvB_fit hv'
  have hbs := iso_bf hv ht hs hnu
  refine asc_ext _ _ (hops_asc _ _ _ _) (hops_asc _ _ _ _) fun y => ?_
  rw [hops_mem (vwB_of hv' hs ht), hops_mem (vwB_of hv hs ht)]
  constructor
  · rintro ⟨e, ha, h0, he⟩
    obtain ⟨ha2, _, hyz⟩ := iso_adj.1 ha
    obtain ⟨k, hk⟩ := bf_walk hf' ht h0
    have h1 := bf_le hf ht (iso_wk hk)
    have h2 := bf_edge hf ht ha2.symm h1.1
    exact ⟨e, ha2, h1.1, by omega⟩
  · rintro ⟨e, ha, h0, he⟩
    obtain ⟨hyz, hny⟩ := iso_hop hv ht hz hs hnu ((hops_mem (vwB_of hv hs ht)).2 ⟨e, ha, h0, he⟩)
    have hr := hf.adj ha
    have hby := iso_bf hv ht (s := y) (by omega) hny
    exact ⟨e, iso_adj.2 ⟨ha, hsz, hyz⟩, by omega, by omega⟩
theorem iso_cnt (hv : gvB (n : Int) ls = true) (ht : 0 ≤ t ∧ t < (n : Int)) (hz : 0 ≤ z ∧ z < (n : Int)) : ∀ (r : Nat) (s : Int), 0 ≤ s ∧ s < (n : Int) → rk n ls t s ≤ r → s ≠ z → nodeL (n : Int) ls s t z = false → cntL n (isoLs ls z) s t = cntL n ls s t := by
  have hv' : gvB (n : Int) (isoLs ls z) = true := gvB_filter _ hv
  intro r
  induction r using Nat.strongRecOn with
  | _ r ih =>
  intro s hs hr hsz hnu
  by_cases hst : s = t
  · subst hst
    rw [cntL_self, cntL_self]
  · rw [cntL_step hv' ht hs hst, cntL_step hv ht hs hst, iso_hops hv ht hz hs hsz hnu]
    congr 1
    refine List.map_congr_left fun y hy => ?_
    obtain ⟨hyr, _, h3, h4⟩ := hops_node (vwB_of hv hs ht) hy
    obtain ⟨hyz, hny⟩ := iso_hop hv ht hz hs hnu hy
    have := rk_lt hyr h3 h4
    exact ih (rk n ls t y) (by omega) y hyr (Nat.le_refl _) hyz hny
end
end Go.Proofs.Ytbhipfidkfnlpaa
