/-
  Contracts over this seat: heap.down, heap.Push and heap.Pop at the heap of waiting nodes.
-/
import Derived.Test.YtimebipgiicmiacB1
namespace Go.Proofs.Ytimebipgiicmiac
open Go.RowKit




end Go.Proofs.Ytimebipgiicmiac

/-
  Contracts over this seat: heap.Push and heap.Pop at the heap of waiting nodes.
-/
namespace Go.Proofs.Ytimebipgiicmiac
open Go.RowKit



end Go.Proofs.Ytimebipgiicmiac
