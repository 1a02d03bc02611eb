/-
  Both, of one graph: the program's and the specification's next hops; what the laws of next hops draw.
-/
import Derived.Test.YtblmmmeeljidiabHop
import Derived.Test.YtblmmmeeljidiabHos
import Derived.Test.YtblmmmeeljidiabA5
namespace Go.Proofs.Ytblmmmeeljidiab
open Go.RowKit





end Go.Proofs.Ytblmmmeeljidiab
