/-
  Small lemmas on a slice of numbers of the call's own.
-/
import Derived.Test.YtigamnnboojiiaaMark
namespace Go.Proofs.Ytigamnnboojiiaa
open Go.RowKit

theorem Own1i.grownC {w w' : World} {A : Option Addr} {g g' : Nat} {ls : List Int} (h : Own1i w A g ls) (hg : w.grownBy w' (some g')) (hne : 0 < ls.length → g ≠ g') : Own1i w' A g ls := fun hp => by
  obtain ⟨e, cs, hh, hc⟩ := h hp
  exact ⟨e, cs, (hg.block g (heap_lt hh) (fun e => hne hp (Option.some.inj e))).trans hh, hc⟩
theorem Own1i.fresh {w : World} {A : Option Addr} {g : Nat} {ls : List Int} (h : Own1i w A g ls) : ∃ g', Own1i w A g' ls ∧ ((0 < ls.length ∧ g' = g) ∨ g' = w.heap.size) := by
  by_cases hp : 0 < ls.length
  · exact ⟨g, h, .inl ⟨hp, rfl⟩⟩
  · exact ⟨w.heap.size, fun h => absurd h hp, .inr rfl⟩

end Go.Proofs.Ytigamnnboojiiaa
