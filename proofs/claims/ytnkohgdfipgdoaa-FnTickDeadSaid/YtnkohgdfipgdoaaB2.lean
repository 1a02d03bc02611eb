/-
  Contracts over this seat: heap.down, heap.Push and heap.Pop at the heap of waiting nodes.
-/
import Derived.Test.YtnkohgdfipgdoaaB1
namespace Go.Proofs.Ytnkohgdfipgdoaa
open Go.RowKit




end Go.Proofs.Ytnkohgdfipgdoaa

/-
  Contracts over this seat: heap.Push and heap.Pop at the heap of waiting nodes.
-/
namespace Go.Proofs.Ytnkohgdfipgdoaa
open Go.RowKit



end Go.Proofs.Ytnkohgdfipgdoaa
