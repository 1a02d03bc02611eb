/-
  Both, of one graph: the program's and the specification's next hops; what the laws of next hops draw.
-/
import Derived.Test.YtkdcialdjnedeaaHop
import Derived.Test.YtkdcialdjnedeaaHos
import Derived.Test.YtkdcialdjnedeaaA5
namespace Go.Proofs.Ytkdcialdjnedeaa
open Go.RowKit





end Go.Proofs.Ytkdcialdjnedeaa
