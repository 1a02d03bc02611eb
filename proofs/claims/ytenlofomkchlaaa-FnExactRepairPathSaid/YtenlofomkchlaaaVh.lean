/-
  Contracts over this seat: RepairStack of the specification.
-/
import Derived.Test.YtenlofomkchlaaaVe
import Derived.Test.YtenlofomkchlaaaVf
import Derived.Test.YtenlofomkchlaaaVg
namespace Go.Proofs.Ytenlofomkchlaaa
open Go.RowKit Go.Maps


/-- All blocks that a row of labels beside a path may change. -/
def XR (B g3 : Nat) (b : Nat) : Prop := B < b ∧ b ≠ g3


/-- Whether there is a repair. -/
def repB (nn : Int) (ls : List Lk) (s x t : Int) : Bool := !(rpP nn ls s x t).isEmpty

theorem rep_none {nn : Int} {ls : List Lk} {s x t : Int} (h : rpP nn ls s x t = []) : repA nn ls s x t = [] ∧ repB nn ls s x t = false := by
  unfold repA repB
  rw [h]
  exact ⟨rfl, rfl⟩
theorem rep_go {R out : List Lb} {nn : Int} {ls : List Lk} {x : Int} {p : List Int} {i : Nat} (h : ∃ m, p.length ≤ i + m + 1 ∧ R = out ++ repU nn ls x m (p.drop i)) (hi : i + 1 < p.length) : ∃ m, p.length ≤ i + m + 2 ∧ R = out ++ repU nn ls x (m + 1) (p.drop i) := by
  obtain ⟨m, hm, he⟩ := h
  match m, hm, he with
  | 0, hm, _ => omega
  | m + 1, hm, he => exact ⟨m, by omega, he⟩


end Go.Proofs.Ytenlofomkchlaaa
