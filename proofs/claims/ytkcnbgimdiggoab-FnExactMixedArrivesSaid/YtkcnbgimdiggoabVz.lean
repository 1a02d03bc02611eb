/-
  Plain facts for the walks of the laws of repairs.
-/
import Derived.Test.YtkcnbgimdiggoabVs
import Derived.Test.YtkcnbgimdiggoabVi
import Derived.Test.YtkcnbgimdiggoabWr
namespace Go.Proofs.Ytkcnbgimdiggoab

theorem Own1.isV {w : World} {A : Option Addr} {g : Nat} {ls : List Lk} (h : Own1 w A g ls) : 0 < ls.length → ∃ g, A = some ⟨g, 0, none⟩ := fun hp => ⟨g, (h hp).1⟩
theorem nodL_len (n : Nat) : (nodL n).length = n := by unfold nodL; simp
theorem safeA_len8 (n : Int) (ls : List Lk) (s x : Int) : (safeA n ls s x).length ≤ 8 := by
  unfold safeA
  by_cases h : rokB n ls s x = true
  · rw [if_pos h]
    unfold rokB at h
    rw [Bool.and_eq_true] at h
    have h8 := (gvB_fit (vwB_single.1 h.1).1).2.2.1
    exact Nat.le_trans (List.length_filter_le _ _) (by rw [nodL_len]; omega)
  · rw [if_neg h]
    exact Nat.zero_le _
theorem needA_len8 (n : Int) (ls : List Lk) (s x : Int) : (needA n ls s x).length ≤ 8 := by
  unfold needA
  by_cases h : rokB n ls s x = true
  · rw [if_pos h]
    unfold rokB at h
    rw [Bool.and_eq_true] at h
    have h8 := (gvB_fit (vwB_single.1 h.1).1).2.2.1
    exact Nat.le_trans (List.length_filter_le _ _) (by rw [nodL_len]; omega)
  · rw [if_neg h]
    exact Nat.zero_le _
theorem reachL_len8 (n : Int) (ls : List Lk) (s : Int) : (reachL n ls s).length ≤ 8 := by
  have := reachL_len n ls s
  have := distL_len n ls s
  omega
theorem rok_parts {n : Int} {ls : List Lk} {s x : Int} (h : rokB n ls s x = true) : gvB n ls = true ∧ (0 ≤ s ∧ s < n) ∧ 0 ≤ x ∧ x < (ls.length : Int) := by
  unfold rokB idxB at h
  simp only [Bool.and_eq_true, decide_eq_true_eq] at h
  obtain ⟨h1, h2⟩ := vwB_single.1 h.1
  exact ⟨h1, h2, h.2⟩
theorem safe_law {n : Int} {ls : List Lk} {s x : Int} (hn : 0 ≤ n) (h : safeA n ls s x ≠ []) :
    (∀ t, 0 ≤ t → t < n → decide (t ∈ safeA n ls s x) = (decide (t ∈ reachL n ls s) && !usedB n ls s t x)) ∧ (safeA n ls s x).Pairwise (· < ·) ∧ s ∈ safeA n ls s x := by
  have hr := safe_some h
  obtain ⟨m, rfl⟩ : ∃ m : Nat, n = (m : Int) := ⟨n.toNat, by omega⟩
  refine ⟨fun t h0 h1 => ?_, safe_asc _ _ _ _, safe_self hr⟩
  have := safe_nodes hr t h0 h1
  rw [Bool.eq_iff_iff]
  simp only [decide_eq_true_eq, Bool.and_eq_true, Bool.not_eq_true']
  exact this
theorem need_law {n : Int} {ls : List Lk} {s x : Int} (hn : 0 ≤ n) (hr : rokB n ls s x = true) :
    (∀ t, 0 ≤ t → t < n → decide (t ∈ reachL n ls s) = (decide (t ∈ needA n ls s x) != decide (t ∈ safeA n ls s x))) ∧ (needA n ls s x).length + (safeA n ls s x).length = (reachL n ls s).length := by
  obtain ⟨m, rfl⟩ : ∃ m : Nat, n = (m : Int) := ⟨n.toNat, by omega⟩
  refine ⟨fun t h0 h1 => ?_, need_count hr⟩
  have := need_safe hr t h0 h1
  rw [Bool.eq_iff_iff]
  simp only [decide_eq_true_eq, bne_iff_ne, ne_eq, decide_eq_decide]
  exact this
end Go.Proofs.Ytkcnbgimdiggoab
