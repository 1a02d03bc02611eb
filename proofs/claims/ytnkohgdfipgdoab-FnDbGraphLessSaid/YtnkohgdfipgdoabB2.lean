/-
  Contracts over this seat: heap.down, heap.Push and heap.Pop at the heap of waiting nodes.
-/
import Derived.Test.YtnkohgdfipgdoabB1
namespace Go.Proofs.Ytnkohgdfipgdoab
open Go.RowKit




end Go.Proofs.Ytnkohgdfipgdoab

/-
  Contracts over this seat: heap.Push and heap.Pop at the heap of waiting nodes.
-/
namespace Go.Proofs.Ytnkohgdfipgdoab
open Go.RowKit



end Go.Proofs.Ytnkohgdfipgdoab
