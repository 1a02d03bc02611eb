/-
  Both, of one graph: the program's and the specification's next hops; what the laws of next hops draw.
-/
import Derived.Test.YtblmmmeeljidiaaHop
import Derived.Test.YtblmmmeeljidiaaHos
import Derived.Test.YtblmmmeeljidiaaA5
namespace Go.Proofs.Ytblmmmeeljidiaa
open Go.RowKit





end Go.Proofs.Ytblmmmeeljidiaa
