/-
  DERIVED. GIVEN WITH THE SEED: THE CARDS: each row of YtenlofomkchlaaaDoorRows.lean that lists a variable, with what it lists TIED to the program's text (the seventh form; the later family's looks); each row that meets fmt, with fmt's text TOLD by the authors' own Lean function (tested against real Go, not proved from fmt's source: count such statements apart). THE CARD IS WHAT COUNTS. Prove the row's statement (the work); the ties are given (YtenlofomkchlaaaDoorTie.lean); close each card by the builder's one call (the guide's Derived/Test/ToyasCard.lean, 'card_holds'). Laid BY PROGRAM, IN A SANDBOX (cutbox-door.mjs). By AI agents, Wed Nov 11 2026. No macro, syntax, notation, axiom, sorry.
-/
import Derived.Test.YtenlofomkchlaaaDoorRows
import GoSem.ClaimSeven
namespace Go.Proofs.YtenlofomkchlaaaDoor
namespace Rows

/-- THE TIED CARD OF 'laws.FnRepairCritical'. -/
def fnRepairCriticalCard : Claim7 := { stood := { row := fnRepairCriticalRow, standIns := [], harness := (true, "d5f6d6a8d0700bccfaac6fdbf262e999e947a8e5811989573ab7dc833a00b662"), looks := true }, kinds := [], alts := [], laidByText := true, laidKinds := [.sentinel], laidTests := true, laidLooks := .later }
def FnRepairCriticalCardSaid : Prop := Claim7.holds Tryd.pinned (.plain (OpenSpec.ofChange fnRepairCriticalSpec)) fnRepairCriticalCard

/-- THE SECOND FORM's CARD OF 'laws.FnRepairCritical'. -/
def fnRepairCriticalUptoCard : Claim7 := { stood := { row := fnRepairCriticalUptoRow, standIns := [], harness := (true, "d5f6d6a8d0700bccfaac6fdbf262e999e947a8e5811989573ab7dc833a00b662"), looks := true }, kinds := [], alts := [], laidByText := true, laidKinds := [.sentinel], laidTests := true, laidLooks := .later }
def FnRepairCriticalUptoCardSaid : Prop := Claim7.holds Tryd.pinned (.plain (OpenSpec.upto fnRepairCriticalSpec)) fnRepairCriticalUptoCard
end Rows
end Go.Proofs.YtenlofomkchlaaaDoor
