/-
  Contracts over this seat: heap.down, heap.Push and heap.Pop at the heap of waiting nodes.
-/
import Derived.Test.YtimebipgiicmiaaB1
namespace Go.Proofs.Ytimebipgiicmiaa
open Go.RowKit




end Go.Proofs.Ytimebipgiicmiaa

/-
  Contracts over this seat: heap.Push and heap.Pop at the heap of waiting nodes.
-/
namespace Go.Proofs.Ytimebipgiicmiaa
open Go.RowKit



end Go.Proofs.Ytimebipgiicmiaa
