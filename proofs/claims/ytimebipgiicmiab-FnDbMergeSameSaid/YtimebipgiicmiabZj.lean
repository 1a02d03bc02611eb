/-
  Contracts over this seat: the specification's DbGraph.
-/
import Derived.Test.YtimebipgiicmiabZi
namespace Go.Proofs.Ytimebipgiicmiab
open Go.RowKit Go.Maps

/-- Whether the announcements make a graph of n nodes. -/
def grB (n : Int) (db : List La) : Bool := inB n 1 8 && dbB db && decide ((graphL db n.toNat).length ≤ 14)


end Go.Proofs.Ytimebipgiicmiab
