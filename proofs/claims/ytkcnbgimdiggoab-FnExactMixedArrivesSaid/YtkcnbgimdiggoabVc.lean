/-
  Contracts over this seat: RepairSafe and RepairNeeded of the specification.
-/
import Derived.Test.YtkcnbgimdiggoabVb
import Derived.Test.YtkcnbgimdiggoabC3
namespace Go.Proofs.Ytkcnbgimdiggoab
open Go.RowKit Go.Maps


end Go.Proofs.Ytkcnbgimdiggoab
