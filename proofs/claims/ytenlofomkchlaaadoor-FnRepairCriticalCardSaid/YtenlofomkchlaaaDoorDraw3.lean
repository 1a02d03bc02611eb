/-
  Contracts over this seat: a drawn link; what the laws of links and nodes that are used draw.
-/
import Derived.Test.YtenlofomkchlaaaDoorA5
namespace Go.Proofs.YtenlofomkchlaaaDoor
open Go.RowKit




end Go.Proofs.YtenlofomkchlaaaDoor
