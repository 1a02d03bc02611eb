/-
  The package's error lies where the program reads it.
-/
import Derived.Test.YtenlofomkchlaaaA1
import Derived.Test.YtenlofomkchlaaaIs
namespace Go.Proofs.Ytenlofomkchlaaa
open Go.RowKit




end Go.Proofs.Ytenlofomkchlaaa
