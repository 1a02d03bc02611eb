/-
  Contracts over this seat: the first label of a repair; whether a part of its path is fit for a label.
-/
import Derived.Test.YtenlofomkchlaaaCg
import Derived.Test.YtenlofomkchlaaaVk
import Derived.Test.YtenlofomkchlaaaC2
namespace Go.Proofs.Ytenlofomkchlaaa
open Go.RowKit Go.Maps



end Go.Proofs.Ytenlofomkchlaaa
