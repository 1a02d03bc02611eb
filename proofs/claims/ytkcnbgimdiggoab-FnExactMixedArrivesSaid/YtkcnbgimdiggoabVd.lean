/-
  Contracts over this seat: RepairSafe and RepairNeeded of the specification.
-/
import Derived.Test.YtkcnbgimdiggoabVc
namespace Go.Proofs.Ytkcnbgimdiggoab
open Go.RowKit Go.Maps

theorem PL_start (w : World) (gv : Array Value) : PL w gv (.slice (some ⟨w.heap.size + 1, 0, none⟩) 0 0) [] ((w.alloc (.cells gv 25)).alloc (.cells #[] 3)) := by
  have B0 : Below w.heap.size w ((w.alloc (.cells gv 25)).alloc (.cells #[] 3)) := by (repeat (first | exact Below.refl _ _ | (refine Below.alloc ?_ (by first | exact Nat.le_refl _ | omega | (simp; done) | (simp; omega)) _) | (refine Below.setCell ?_ (by first | exact Nat.le_refl _ | omega | (simp; done) | (simp; omega)) _) | exact Below.drew ‹_›))
  have G0 := (Box.new w 25 gv).alloc (.cells #[] 3)
  have E0 := Box.new (w.alloc (.cells gv 25)) 3 #[]
  rw [World.size_alloc] at E0
  exact ⟨⟨by simp, .inr ⟨w.heap.size + 1, 0, #[], rfl, Nat.le_refl _, E0, Nat.le_refl _, by unfold maxLen; omega, rfl, by simp⟩⟩, B0, G0⟩
theorem nodL_next (q : Int → Bool) (t : Nat) : (nodL (t + 1)).filter q = (nodL t).filter q ++ (if q (t : Int) then [(t : Int)] else []) := by
  unfold nodL
  rw [List.range_succ, List.map_append, List.filter_append]
  cases h : q (t : Int) <;> simp [h]

theorem repSafe_out {nn : Int} {ls : List Lk} {s x : Int} (h : rokB nn ls s x = false) : safeA nn ls s x = [] := by
  unfold safeA
  rw [h]
  rfl

theorem repNeed_out {nn : Int} {ls : List Lk} {s x : Int} (h : rokB nn ls s x = false) : needA nn ls s x = [] := by
  unfold needA
  rw [h]
  rfl

end Go.Proofs.Ytkcnbgimdiggoab
