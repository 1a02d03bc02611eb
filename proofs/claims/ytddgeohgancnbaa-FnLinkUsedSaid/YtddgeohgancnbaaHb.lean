/-
  Both, of one graph: the program's and the specification's next hops; what the laws of next hops draw.
-/
import Derived.Test.YtddgeohgancnbaaHop
import Derived.Test.YtddgeohgancnbaaHos
import Derived.Test.YtddgeohgancnbaaA5
namespace Go.Proofs.Ytddgeohgancnbaa
open Go.RowKit





end Go.Proofs.Ytddgeohgancnbaa
