/-
  Contracts over this seat: RepairSafe and RepairNeeded of the specification.
-/
import Derived.Test.YtkcnbgimdiggoaaVb
import Derived.Test.YtkcnbgimdiggoaaC3
namespace Go.Proofs.Ytkcnbgimdiggoaa
open Go.RowKit Go.Maps


end Go.Proofs.Ytkcnbgimdiggoaa
