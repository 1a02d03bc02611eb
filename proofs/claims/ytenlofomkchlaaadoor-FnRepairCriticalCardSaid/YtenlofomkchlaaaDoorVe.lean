/-
  Contracts over this seat: RepairPath of the specification.
-/
import Derived.Test.YtenlofomkchlaaaDoorVd
import Derived.Test.YtenlofomkchlaaaDoorWoS
namespace Go.Proofs.YtenlofomkchlaaaDoor
open Go.RowKit Go.Maps

theorem idx_in {ls : List Lk} {x : Int} : inB x 0 ((ls.length : Int) - 1) = idxB ls x := by
  unfold inB idxB
  rw [Bool.eq_iff_iff]
  simp only [Bool.and_eq_true, decide_eq_true_eq]
  omega


end Go.Proofs.YtenlofomkchlaaaDoor
