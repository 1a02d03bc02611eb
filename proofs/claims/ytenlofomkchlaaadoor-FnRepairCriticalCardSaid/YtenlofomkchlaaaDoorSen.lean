/-
  The package's error lies where the program reads it.
-/
import Derived.Test.YtenlofomkchlaaaDoorA1
import Derived.Test.YtenlofomkchlaaaDoorIs
namespace Go.Proofs.YtenlofomkchlaaaDoor
open Go.RowKit

/-- The package's error is a pointer to an errors.errorString. -/
def Sen (w : World) : Prop := 0 < w.heap.size ∧ ∃ a : Addr, w.cell? ⟨0, 0, none⟩ = some (.iface 122 (.pointer (some a)))
theorem Sen.below {w w' : World} (h : Sen w) (hb : Below w.heap.size w w') : Sen w' := by
  obtain ⟨h1, a, h2⟩ := h
  exact ⟨Nat.lt_of_lt_of_le h1 hb.size, a, (hb.cell (p := ⟨0, 0, none⟩) h1).trans h2⟩
theorem Sen.of_cell {w : World} {a : Addr} (h : w.cell? ⟨0, 0, none⟩ = some (.iface 122 (.pointer (some a)))) : Sen w := by
  refine ⟨?_, a, h⟩
  rcases Nat.lt_or_ge 0 w.heap.size with h' | h'
  · exact h'
  · simp [World.cell?, Array.getElem?_eq_none h'] at h
end Go.Proofs.YtenlofomkchlaaaDoor
