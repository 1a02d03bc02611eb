/-
  Contracts over this seat: heap.down, heap.Push and heap.Pop at the heap of waiting nodes.
-/
import Derived.Test.YtohflcbpjjnccabB1
namespace Go.Proofs.Ytohflcbpjjnccab
open Go.RowKit




end Go.Proofs.Ytohflcbpjjnccab

/-
  Contracts over this seat: heap.Push and heap.Pop at the heap of waiting nodes.
-/
namespace Go.Proofs.Ytohflcbpjjnccab
open Go.RowKit



end Go.Proofs.Ytohflcbpjjnccab
