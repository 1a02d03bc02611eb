/-
  Contracts over this seat: heap.down, heap.Push and heap.Pop at the heap of waiting nodes.
-/
import Derived.Test.YtcndhodibeofiaaB1
namespace Go.Proofs.Ytcndhodibeofiaa
open Go.RowKit




end Go.Proofs.Ytcndhodibeofiaa

/-
  Contracts over this seat: heap.Push and heap.Pop at the heap of waiting nodes.
-/
namespace Go.Proofs.Ytcndhodibeofiaa
open Go.RowKit



end Go.Proofs.Ytcndhodibeofiaa
