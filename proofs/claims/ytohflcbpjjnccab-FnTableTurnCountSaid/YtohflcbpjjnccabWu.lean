/-
  Contracts over this seat: the program's TableAdd, TableRemove and TableTurn, gathered for the walks; small facts that the walks ask.
-/
import Derived.Test.YtohflcbpjjnccabWt
import Derived.Test.YtohflcbpjjnccabTfj
import Derived.Test.YtohflcbpjjnccabTfh
namespace Go.Proofs.Ytohflcbpjjnccab
open Go.RowKit Go.Maps

theorem box_tri {w : World} {b : Nat} {t : TypeId} {v0 v1 v2 : Value} (h : Box w b t #[v0, v1, v2]) : b < w.heap.size ∧ w.cell? ⟨b, 0, none⟩ = some v0 ∧ w.cell? ⟨b, 1, none⟩ = some v1 ∧ w.cell? ⟨b, 2, none⟩ = some v2 := ⟨h.lt, h.cell 0, h.cell 1, h.cell 2⟩
theorem insR_pos (r : Lk) (rs : List Lk) : 0 < (insR r rs).length := List.length_pos_of_mem insR_self
theorem hs_pos {rs : List Lk} {hs : List Int} {r : Lk} (h : addB rs hs r = true) : 0 < hs.length := by
  have := (rtB_iff.1 (addB_iff.1 h).2.1)
  omega
end Go.Proofs.Ytohflcbpjjnccab
