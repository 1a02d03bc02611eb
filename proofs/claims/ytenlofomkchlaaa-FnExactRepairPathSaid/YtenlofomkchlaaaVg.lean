/-
  A row of labels of the call's own that grows beside a path.
-/
import Derived.Test.YtenlofomkchlaaaVd
namespace Go.Proofs.Ytenlofomkchlaaa
open Go.RowKit Go.Maps


section
variable {w : World} {gv : Array Value} {g3 : Nat} {A3 : Option Addr} {xs : List Int} {v : Value} {out : List Lb} {W W' : World}


end

end Go.Proofs.Ytenlofomkchlaaa
