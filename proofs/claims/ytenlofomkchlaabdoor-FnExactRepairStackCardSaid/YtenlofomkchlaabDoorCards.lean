/-
  DERIVED. GIVEN WITH THE SEED: THE CARDS: each row of YtenlofomkchlaabDoorRows.lean that lists a variable, with what it lists TIED to the program's text (the seventh form; the later family's looks); each row that meets fmt, with fmt's text TOLD by the authors' own Lean function (tested against real Go, not proved from fmt's source: count such statements apart). THE CARD IS WHAT COUNTS. Prove the row's statement (the work); the ties are given (YtenlofomkchlaabDoorTie.lean); close each card by the builder's one call (the guide's Derived/Test/ToyasCard.lean, 'card_holds'). Laid BY PROGRAM, IN A SANDBOX (cutbox-door.mjs). By AI agents, Wed Nov 11 2026. No macro, syntax, notation, axiom, sorry.
-/
import Derived.Test.YtenlofomkchlaabDoorRows
import GoSem.ClaimSeven
namespace Go.Proofs.YtenlofomkchlaabDoor
namespace Rows

/-- THE TIED CARD OF 'laws.FnExactRepairStack'. -/
def fnExactRepairStackCard : Claim7 := { stood := { row := fnExactRepairStackRow, standIns := [], harness := (true, "594e6d2bc39f62635f25b667d3d3c5ff775fdda6ec85e2e59c4773557403c049"), looks := true }, kinds := [], alts := [], laidByText := true, laidKinds := [.sentinel], laidTests := true, laidLooks := .later }
def FnExactRepairStackCardSaid : Prop := Claim7.holds Tryd.pinned (.plain (OpenSpec.ofChange fnExactRepairStackSpec)) fnExactRepairStackCard

/-- THE TIED CARD OF 'laws.FnRepairAlways'. -/
def fnRepairAlwaysCard : Claim7 := { stood := { row := fnRepairAlwaysRow, standIns := [], harness := (true, "594e6d2bc39f62635f25b667d3d3c5ff775fdda6ec85e2e59c4773557403c049"), looks := true }, kinds := [], alts := [], laidByText := true, laidKinds := [.sentinel], laidTests := true, laidLooks := .later }
def FnRepairAlwaysCardSaid : Prop := Claim7.holds Tryd.pinned (.plain (OpenSpec.ofChange fnRepairAlwaysSpec)) fnRepairAlwaysCard

/-- THE TIED CARD OF 'laws.FnRepairSafe'. -/
def fnRepairSafeCard : Claim7 := { stood := { row := fnRepairSafeRow, standIns := [], harness := (true, "594e6d2bc39f62635f25b667d3d3c5ff775fdda6ec85e2e59c4773557403c049"), looks := true }, kinds := [], alts := [], laidByText := true, laidKinds := [.sentinel], laidTests := true, laidLooks := .later }
def FnRepairSafeCardSaid : Prop := Claim7.holds Tryd.pinned (.plain (OpenSpec.ofChange fnRepairSafeSpec)) fnRepairSafeCard

/-- THE TIED CARD OF 'laws.FnRepairShort'. -/
def fnRepairShortCard : Claim7 := { stood := { row := fnRepairShortRow, standIns := [], harness := (true, "594e6d2bc39f62635f25b667d3d3c5ff775fdda6ec85e2e59c4773557403c049"), looks := true }, kinds := [], alts := [], laidByText := true, laidKinds := [.sentinel], laidTests := true, laidLooks := .later }
def FnRepairShortCardSaid : Prop := Claim7.holds Tryd.pinned (.plain (OpenSpec.ofChange fnRepairShortSpec)) fnRepairShortCard

/-- THE TIED CARD OF 'laws.FnRepairAfter'. -/
def fnRepairAfterCard : Claim7 := { stood := { row := fnRepairAfterRow, standIns := [], harness := (true, "594e6d2bc39f62635f25b667d3d3c5ff775fdda6ec85e2e59c4773557403c049"), looks := true }, kinds := [], alts := [], laidByText := true, laidKinds := [.sentinel], laidTests := true, laidLooks := .later }
def FnRepairAfterCardSaid : Prop := Claim7.holds Tryd.pinned (.plain (OpenSpec.ofChange fnRepairAfterSpec)) fnRepairAfterCard

/-- THE TIED CARD OF 'laws.FnRepairCost'. -/
def fnRepairCostCard : Claim7 := { stood := { row := fnRepairCostRow, standIns := [], harness := (true, "594e6d2bc39f62635f25b667d3d3c5ff775fdda6ec85e2e59c4773557403c049"), looks := true }, kinds := [], alts := [], laidByText := true, laidKinds := [.sentinel], laidTests := true, laidLooks := .later }
def FnRepairCostCardSaid : Prop := Claim7.holds Tryd.pinned (.plain (OpenSpec.ofChange fnRepairCostSpec)) fnRepairCostCard

/-- THE TIED CARD OF 'laws.FnRepairNodes'. -/
def fnRepairNodesCard : Claim7 := { stood := { row := fnRepairNodesRow, standIns := [], harness := (true, "594e6d2bc39f62635f25b667d3d3c5ff775fdda6ec85e2e59c4773557403c049"), looks := true }, kinds := [], alts := [], laidByText := true, laidKinds := [.sentinel], laidTests := true, laidLooks := .later }
def FnRepairNodesCardSaid : Prop := Claim7.holds Tryd.pinned (.plain (OpenSpec.ofChange fnRepairNodesSpec)) fnRepairNodesCard

/-- THE TIED CARD OF 'laws.FnRepairOwn'. -/
def fnRepairOwnCard : Claim7 := { stood := { row := fnRepairOwnRow, standIns := [], harness := (true, "594e6d2bc39f62635f25b667d3d3c5ff775fdda6ec85e2e59c4773557403c049"), looks := true }, kinds := [], alts := [], laidByText := true, laidKinds := [.sentinel], laidTests := true, laidLooks := .later }
def FnRepairOwnCardSaid : Prop := Claim7.holds Tryd.pinned (.plain (OpenSpec.ofChange fnRepairOwnSpec)) fnRepairOwnCard

/-- THE SECOND FORM's CARD OF 'laws.FnExactRepairStack'. -/
def fnExactRepairStackUptoCard : Claim7 := { stood := { row := fnExactRepairStackUptoRow, standIns := [], harness := (true, "594e6d2bc39f62635f25b667d3d3c5ff775fdda6ec85e2e59c4773557403c049"), looks := true }, kinds := [], alts := [], laidByText := true, laidKinds := [.sentinel], laidTests := true, laidLooks := .later }
def FnExactRepairStackUptoCardSaid : Prop := Claim7.holds Tryd.pinned (.plain (OpenSpec.upto fnExactRepairStackSpec)) fnExactRepairStackUptoCard

/-- THE SECOND FORM's CARD OF 'laws.FnRepairAlways'. -/
def fnRepairAlwaysUptoCard : Claim7 := { stood := { row := fnRepairAlwaysUptoRow, standIns := [], harness := (true, "594e6d2bc39f62635f25b667d3d3c5ff775fdda6ec85e2e59c4773557403c049"), looks := true }, kinds := [], alts := [], laidByText := true, laidKinds := [.sentinel], laidTests := true, laidLooks := .later }
def FnRepairAlwaysUptoCardSaid : Prop := Claim7.holds Tryd.pinned (.plain (OpenSpec.upto fnRepairAlwaysSpec)) fnRepairAlwaysUptoCard

/-- THE SECOND FORM's CARD OF 'laws.FnRepairSafe'. -/
def fnRepairSafeUptoCard : Claim7 := { stood := { row := fnRepairSafeUptoRow, standIns := [], harness := (true, "594e6d2bc39f62635f25b667d3d3c5ff775fdda6ec85e2e59c4773557403c049"), looks := true }, kinds := [], alts := [], laidByText := true, laidKinds := [.sentinel], laidTests := true, laidLooks := .later }
def FnRepairSafeUptoCardSaid : Prop := Claim7.holds Tryd.pinned (.plain (OpenSpec.upto fnRepairSafeSpec)) fnRepairSafeUptoCard

/-- THE SECOND FORM's CARD OF 'laws.FnRepairShort'. -/
def fnRepairShortUptoCard : Claim7 := { stood := { row := fnRepairShortUptoRow, standIns := [], harness := (true, "594e6d2bc39f62635f25b667d3d3c5ff775fdda6ec85e2e59c4773557403c049"), looks := true }, kinds := [], alts := [], laidByText := true, laidKinds := [.sentinel], laidTests := true, laidLooks := .later }
def FnRepairShortUptoCardSaid : Prop := Claim7.holds Tryd.pinned (.plain (OpenSpec.upto fnRepairShortSpec)) fnRepairShortUptoCard

/-- THE SECOND FORM's CARD OF 'laws.FnRepairAfter'. -/
def fnRepairAfterUptoCard : Claim7 := { stood := { row := fnRepairAfterUptoRow, standIns := [], harness := (true, "594e6d2bc39f62635f25b667d3d3c5ff775fdda6ec85e2e59c4773557403c049"), looks := true }, kinds := [], alts := [], laidByText := true, laidKinds := [.sentinel], laidTests := true, laidLooks := .later }
def FnRepairAfterUptoCardSaid : Prop := Claim7.holds Tryd.pinned (.plain (OpenSpec.upto fnRepairAfterSpec)) fnRepairAfterUptoCard

/-- THE SECOND FORM's CARD OF 'laws.FnRepairCost'. -/
def fnRepairCostUptoCard : Claim7 := { stood := { row := fnRepairCostUptoRow, standIns := [], harness := (true, "594e6d2bc39f62635f25b667d3d3c5ff775fdda6ec85e2e59c4773557403c049"), looks := true }, kinds := [], alts := [], laidByText := true, laidKinds := [.sentinel], laidTests := true, laidLooks := .later }
def FnRepairCostUptoCardSaid : Prop := Claim7.holds Tryd.pinned (.plain (OpenSpec.upto fnRepairCostSpec)) fnRepairCostUptoCard

/-- THE SECOND FORM's CARD OF 'laws.FnRepairNodes'. -/
def fnRepairNodesUptoCard : Claim7 := { stood := { row := fnRepairNodesUptoRow, standIns := [], harness := (true, "594e6d2bc39f62635f25b667d3d3c5ff775fdda6ec85e2e59c4773557403c049"), looks := true }, kinds := [], alts := [], laidByText := true, laidKinds := [.sentinel], laidTests := true, laidLooks := .later }
def FnRepairNodesUptoCardSaid : Prop := Claim7.holds Tryd.pinned (.plain (OpenSpec.upto fnRepairNodesSpec)) fnRepairNodesUptoCard

/-- THE SECOND FORM's CARD OF 'laws.FnRepairOwn'. -/
def fnRepairOwnUptoCard : Claim7 := { stood := { row := fnRepairOwnUptoRow, standIns := [], harness := (true, "594e6d2bc39f62635f25b667d3d3c5ff775fdda6ec85e2e59c4773557403c049"), looks := true }, kinds := [], alts := [], laidByText := true, laidKinds := [.sentinel], laidTests := true, laidLooks := .later }
def FnRepairOwnUptoCardSaid : Prop := Claim7.holds Tryd.pinned (.plain (OpenSpec.upto fnRepairOwnSpec)) fnRepairOwnUptoCard
end Rows
end Go.Proofs.YtenlofomkchlaabDoor
