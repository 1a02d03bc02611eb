/-
  Contracts over this seat: RepairSafe and RepairNeeded of the specification.
-/
import Derived.Test.YtenlofomkchlaaaDoorVb
import Derived.Test.YtenlofomkchlaaaDoorC3
namespace Go.Proofs.YtenlofomkchlaaaDoor
open Go.RowKit Go.Maps


end Go.Proofs.YtenlofomkchlaaaDoor
