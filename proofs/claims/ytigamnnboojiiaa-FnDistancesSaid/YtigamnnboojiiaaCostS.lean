/-
  Contracts over this seat: the specification's GraphCost and what it calls.
-/
import Derived.Test.YtigamnnboojiiaaCost
namespace Go.Proofs.Ytigamnnboojiiaa
open Go.RowKit


/-- A graph whose links lie in memory of their own. -/
def NewG (m : Int) (ls : List Lk) (w : World) (e : Ending) (w' : World) : Prop :=
  ∃ A g c, e = .returned (gval m A ls.length c) ∧ w.heap.size ≤ g ∧ Own1 w' A g ls ∧ Below w.heap.size w w'


/-- The link is there and the cost is allowed: the cost is written into a copy. -/
def CostPost (n : Int) (ls : List Lk) (k : Nat) (cost : Int) (w : World) (e : Ending) (w' : World) : Prop := NewG n (costLs ls k cost) w e w'




end Go.Proofs.Ytigamnnboojiiaa
