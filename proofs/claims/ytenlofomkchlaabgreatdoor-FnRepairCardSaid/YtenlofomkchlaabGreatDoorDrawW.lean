/-
  Contracts over this seat: what the laws of critical links and of removed links draw; the drawn slice's capacity holds its links.
-/
import Derived.Test.YtenlofomkchlaabGreatDoorDrawC
namespace Go.Proofs.YtenlofomkchlaabGreatDoor
open Go.RowKit




end Go.Proofs.YtenlofomkchlaabGreatDoor
