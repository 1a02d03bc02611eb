/-
  Contracts over this seat: errors.Is at the package's error and at none.
-/
import Derived.Test.YtenlofomkchlaaaChecked
import Derived.WalkKit
import Derived.LaidEql
import Derived.Stop.Asserts
import Derived.RowKitTokens
namespace Go.Proofs.Ytenlofomkchlaaa
open Go.RowKit Go.Extern.Stop Go.Stop Go.Extern









end Go.Proofs.Ytenlofomkchlaaa
