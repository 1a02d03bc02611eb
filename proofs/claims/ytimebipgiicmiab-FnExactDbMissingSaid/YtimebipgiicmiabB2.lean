/-
  Contracts over this seat: heap.down, heap.Push and heap.Pop at the heap of waiting nodes.
-/
import Derived.Test.YtimebipgiicmiabB1
namespace Go.Proofs.Ytimebipgiicmiab
open Go.RowKit




end Go.Proofs.Ytimebipgiicmiab

/-
  Contracts over this seat: heap.Push and heap.Pop at the heap of waiting nodes.
-/
namespace Go.Proofs.Ytimebipgiicmiab
open Go.RowKit



end Go.Proofs.Ytimebipgiicmiab
