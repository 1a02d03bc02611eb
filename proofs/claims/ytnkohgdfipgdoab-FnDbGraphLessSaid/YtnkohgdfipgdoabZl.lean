/-
  Contracts over this seat: the specification's LsaOf.
-/
import Derived.Test.YtnkohgdfipgdoabZk
namespace Go.Proofs.Ytnkohgdfipgdoab
open Go.RowKit Go.Maps

def lofB (n : Int) (ls : List Lk) (o q : Int) : Bool := gvB n ls && inB o 0 (n - 1) && inB q 1 99
def lofL (n : Int) (ls : List Lk) (o q : Int) : La := if lofB n ls o q then ofL n ls o q else ⟨0, 0, []⟩
/-- An announcement and a bool: the answer of LsaOf. -/
def LofR (d : La) (ok : Bool) (w : World) (e : Ending) (w' : World) : Prop := ∃ z : Lz, e = .returned (.tuple #[z.v, .bool ok]) ∧ z.d = d ∧ InnZ w' w.heap.size z ∧ Below w.heap.size w w'


end Go.Proofs.Ytnkohgdfipgdoab
