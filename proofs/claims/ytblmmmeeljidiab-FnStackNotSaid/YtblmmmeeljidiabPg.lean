/-
  Plain facts: the shortest path as the functions answer it.
-/
import Derived.Test.YtblmmmeeljidiabPf
namespace Go.Proofs.Ytblmmmeeljidiab

def pathI (nn : Int) (ls : List Lk) (s t : Int) : List Int := pathL nn.toNat ls s t
section
variable {n : Nat} {ls : List Lk} {s t : Int}
theorem rk_self (hs : 0 ≤ s ∧ s < (n : Int)) : rk n ls t s < n := by
  have h := filter_lt (p := fun i : Nat => decide (0 ≤ bf (n : Int) ls t (i : Int)) && decide (bf (n : Int) ls t (i : Int) < bf (n : Int) ls t s)) (q := fun _ => true) (xs := List.range n) (fun _ _ _ => rfl) (y := s.toNat) (by simp; omega) (by
    rw [show ((s.toNat : Nat) : Int) = s by omega]
    simp) rfl
  unfold rk
  refine Nat.lt_of_lt_of_le h ?_
  exact Nat.le_trans (List.length_filter_le _ _) (by simp)
theorem path_isP (hv : vwB (n : Int) ls [s, t] = true) (h0 : 0 ≤ bf (n : Int) ls t s) : IsP n ls t s (pathL n ls s t) := by
  obtain ⟨hg, hs, ht⟩ := vwB_two hv
  exact pathL_isP hg ht _ s hs h0 (Nat.le_refl _)
theorem isP_path (hg : gvB (n : Int) ls = true) (ht : 0 ≤ t ∧ t < (n : Int)) {p : List Int} (h : IsP n ls t s p) : p = pathL n ls s t :=
  h.uniq (path_isP (vwB_of hg (h.node ht) ht) (h.dist hg ht))
end
theorem pathI_some {nn : Int} {ls : List Lk} {s t : Int} (h : pathI nn ls s t ≠ []) : ∃ n : Nat, nn = (n : Int) ∧ vwB (n : Int) ls [s, t] = true ∧ 0 ≤ bf (n : Int) ls t s ∧ IsP n ls t s (pathI nn ls s t) := by
  unfold pathI at h ⊢
  obtain ⟨hv, h0⟩ := pathL_some h
  obtain ⟨hg, hs, ht⟩ := vwB_two hv
  have h1 := (gvB_fit hg).2.1
  refine ⟨nn.toNat, by omega, hv, h0, path_isP hv h0⟩
theorem pathI_len (nn : Int) (ls : List Lk) (s t : Int) : (pathI nn ls s t).length ≤ 8 := by
  by_cases h : pathI nn ls s t = []
  · rw [h]; simp
  · obtain ⟨n, rfl, hv, h0, hp⟩ := pathI_some h
    obtain ⟨hg, hs, ht⟩ := vwB_two hv
    have h1 := hp.len hg ht
    have h2 := rk_self (n := n) (ls := ls) (t := t) hs
    have h3 := (gvB_fit hg).2.2.1
    omega
theorem pathI_nil {n : Nat} {ls : List Lk} {s t : Int} (h : ¬ (vwB (n : Int) ls [s, t] = true ∧ 0 ≤ bf (n : Int) ls t s)) : pathI (n : Int) ls s t = [] := by
  unfold pathI
  rw [Int.toNat_natCast]
  exact pathL_none h
theorem pathI_bad {nn : Int} {ls : List Lk} {s t : Int} (h : vwB nn ls [s, t] = false) : pathI nn ls s t = [] := by
  apply Classical.byContradiction
  intro hn
  obtain ⟨n, rfl, hv, _⟩ := pathI_some hn
  rw [hv] at h
  cases h
/-- When the program finds a path. -/
theorem reach_path {nn : Int} {ls : List Lk} {s t : Int} : t ∈ reachL nn ls s ↔ pathI nn ls s t ≠ [] := by
  constructor
  · intro h
    have hne : reachL nn ls s ≠ [] := fun e => by rw [e] at h; simp at h
    obtain ⟨hg, hs⟩ := vwB_inv (reachL_some hne)
    obtain ⟨n, rfl⟩ : ∃ q : Nat, nn = (q : Int) := ⟨nn.toNat, by omega⟩
    obtain ⟨ht, h0⟩ := (reach_mem (vwB_one hg hs) (gvB_fit hg).1 hs).1 h
    have hp := path_isP (vwB_of hg hs ht) (by rw [bf_symm (gvB_fit hg).1 ht hs]; exact h0)
    unfold pathI
    rw [Int.toNat_natCast]
    intro e
    have := hp.head.2
    rw [e] at this
    simp at this
  · intro h
    obtain ⟨n, rfl, hv, h0, _⟩ := pathI_some h
    obtain ⟨hg, hs, ht⟩ := vwB_two hv
    exact (reach_mem (vwB_one hg hs) (gvB_fit hg).1 hs).2 ⟨ht, by rw [bf_symm (gvB_fit hg).1 hs ht]; exact h0⟩
end Go.Proofs.Ytblmmmeeljidiab
