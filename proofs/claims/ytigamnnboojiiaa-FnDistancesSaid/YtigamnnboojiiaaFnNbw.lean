/-
  The walk of FnNeighbours over this seat.
-/
import Derived.Test.YtigamnnboojiiaaIntL
import Derived.Test.YtigamnnboojiiaaLinkBothw
namespace Go.Proofs.Ytigamnnboojiiaa
open Go.RowKit

theorem nbI_asc (nn : Int) (ls : List Lk) (a : Int) : (nbI nn ls a).Pairwise (· < ·) := by
  rw [← nbI_eq]
  split
  · exact nbS_asc a ls 8
  · simp
theorem gvB_nodes {nn : Int} {ls : List Lk} (h : gvB nn ls = true) : 1 ≤ nn ∧ nn ≤ 8 ∧ ls.length ≤ 14 := by
  unfold gvB inB at h
  simp only [Bool.and_eq_true, decide_eq_true_eq] at h
  omega
theorem nbI_has {nn : Int} {ls : List Lk} (hv : gvB nn ls = true) (a : Int) (x : Nat) (hx : (x : Int) < nn) : decide ((x : Int) ∈ nbI nn ls a) = decide (0 ≤ linkI nn ls a x) := by
  have := gvB_nodes hv
  rw [← nbI_eq, ← linkI_eq, if_pos hv, if_pos hv]
  rw [decide_eq_decide, nbS_mem]
  constructor
  · rintro ⟨j, h1, h2, h3⟩
    have : x = j := by omega
    subst this
    exact h3
  · exact fun h => ⟨x, by omega, rfl, h⟩


end Go.Proofs.Ytigamnnboojiiaa
