/-
  Contracts over this seat: what the laws of critical links and of removed links draw; the drawn slice's capacity holds its links.
-/
import Derived.Test.YtkcnbgimdiggoabDrawC
namespace Go.Proofs.Ytkcnbgimdiggoab
open Go.RowKit




end Go.Proofs.Ytkcnbgimdiggoab
