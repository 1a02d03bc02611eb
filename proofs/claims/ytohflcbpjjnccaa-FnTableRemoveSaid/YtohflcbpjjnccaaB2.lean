/-
  Contracts over this seat: heap.down, heap.Push and heap.Pop at the heap of waiting nodes.
-/
import Derived.Test.YtohflcbpjjnccaaB1
namespace Go.Proofs.Ytohflcbpjjnccaa
open Go.RowKit




end Go.Proofs.Ytohflcbpjjnccaa

/-
  Contracts over this seat: heap.Push and heap.Pop at the heap of waiting nodes.
-/
namespace Go.Proofs.Ytohflcbpjjnccaa
open Go.RowKit



end Go.Proofs.Ytohflcbpjjnccaa
