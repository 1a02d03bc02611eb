/-
  DERIVED. GIVEN WITH THE SEED: THE CARDS: each row of YtenlofomkchlaabGreatDoorRows.lean that lists a variable, with what it lists TIED to the program's text (the seventh form; the later family's looks); each row that meets fmt, with fmt's text TOLD by the authors' own Lean function (tested against real Go, not proved from fmt's source: count such statements apart). THE CARD IS WHAT COUNTS. Prove the row's statement (the work); the ties are given (YtenlofomkchlaabGreatDoorTie.lean); close each card by the builder's one call (the guide's Derived/Test/ToyasCard.lean, 'card_holds'). Laid BY PROGRAM, IN A SANDBOX (cutbox-door.mjs). By AI agents, Wed Nov 11 2026. No macro, syntax, notation, axiom, sorry.
-/
import Derived.Test.YtenlofomkchlaabGreatDoorRows
import GoSem.ClaimSeven
namespace Go.Proofs.YtenlofomkchlaabGreatDoor
namespace Rows

/-- THE TIED CARD OF 'laws.FnRepair'. -/
def fnRepairCard : Claim7 := { stood := { row := fnRepairRow, standIns := [], harness := (true, "3579356e3fd8653ecd8d3ea24da55d254842aa1d9c2e7ca5bf0b5539db3dcdcb"), looks := true }, kinds := [], alts := [], laidByText := true, laidKinds := [.sentinel], laidTests := true, laidLooks := .later }
def FnRepairCardSaid : Prop := Claim7.holds Tryz.pinned (.plain (OpenSpec.ofChange fnRepairSpec)) fnRepairCard

/-- THE SECOND FORM's CARD OF 'laws.FnRepair'. -/
def fnRepairUptoCard : Claim7 := { stood := { row := fnRepairUptoRow, standIns := [], harness := (true, "3579356e3fd8653ecd8d3ea24da55d254842aa1d9c2e7ca5bf0b5539db3dcdcb"), looks := true }, kinds := [], alts := [], laidByText := true, laidKinds := [.sentinel], laidTests := true, laidLooks := .later }
def FnRepairUptoCardSaid : Prop := Claim7.holds Tryz.pinned (.plain (OpenSpec.upto fnRepairSpec)) fnRepairUptoCard
end Rows
end Go.Proofs.YtenlofomkchlaabGreatDoor
