/-
  NARROWER THAN 'FOR EVERY INPUT', by the rows' own cells (each row's printed sentence says how): FnExactRepairStack: ifaces, laid · FnRepairAlways: ifaces, laid · FnRepairSafe: ifaces, laid · FnRepairShort: ifaces, laid · FnRepairAfter: ifaces, laid · FnRepairCost: ifaces, laid · FnRepairNodes: ifaces, laid · FnRepairOwn: ifaces, laid.
  DERIVED. THE GIVEN ROWS OF THIS SEAT. 8 by the template 'for every input the law returns true; each argument reads behind the call as it read before'; 0 by the template 'total and deterministic' (their statements: YtenlofomkchlaabDoorTotals.lean).
  GIVEN WITH THE SEED: the statements are not yours to turn. If you find one false, say at which input.
  Laid BY PROGRAM, IN A SANDBOX (cutbox-rows.mjs): the forced cells as the released guide's own fill.sh prints them over the translation d675884977d490d6… (all of the seat's roots in one cut). By AI agents, Wed Nov 11 2026. No macro, syntax, notation, axiom, sorry.
-/
import Derived.Test.YtenlofomkchlaabDoorChecked
import GoSem.Claim
import GoSem.ClaimJoined
import GoSem.ClaimMapViews
import Derived.JoinedTies
import Derived.KernelRfl
namespace Go.Proofs.YtenlofomkchlaabDoor
/- THE CELL 'sum', in the pinned program and in every row, IS THE sha256 OF THE DUMP (.gsa) THAT YtenlofomkchlaabDoorProg.lean LOADS. Nothing in Lean hashes anything: it is a label: what it is worth is what the hold of that sum in a sandbox is worth. -/
noncomputable def Tryd.pinned : Pinned := { name := "ytenlofomkchlaabdoor", sum := "d675884977d490d605f58529cd8d6f2e63b06cd66b974d79c5e6f92eb79fdced", checked := Tryd.checked }
namespace Rows
def none {H : Type} : Left H := { results := [], args := [] }

/- WHAT THE LISTED PACKAGE-LEVEL VARIABLES READ AS WHEN THE CALL BEGINS. Each datum BY PROGRAM (the guide's laid-datum.mjs) off the statement by which the dump's own 'gosem.cut.vars' lays the variable. In a bare row this is a premise. The card (YtenlofomkchlaabDoorCards.lean) ties it to the program's text. -/
def laid_loop_example_linkstaterouting_impl_errNoRepair {H : Type} : DataW H := .iface "*errors.errorString" (.ptr (.agg [.lit (.string [110, 111, 32, 114, 101, 112, 97, 105, 114])]))

/-- 'laws.FnExactRepairStack': WHATEVER THE INPUT: true; the input reads as it did. -/
def fnExactRepairStackSpec : ChangeSpec := { name := "fnExactRepairStack", vars := ["loop.example/linkstaterouting/impl.errNoRepair"], fn := fun _ => fun
  | [d1, d2, d3, d4, g1] => { results := [.lit (.bool true)], args := [d1, d2, d3, d4], vars := [g1] }
  | _ => none }
def fnExactRepairStackRow : OpenClaim := { program := "ytenlofomkchlaabdoor", sum := "d675884977d490d605f58529cd8d6f2e63b06cd66b974d79c5e6f92eb79fdced", func := "loop.example/linkstaterouting/laws.FnExactRepairStack", spec := "fnExactRepairStack", inPlace := ["internal/reflectlite.TypeOf"], unfollowed := true, recurses := true, named := ["loop.example/linkstaterouting/impl.errNoRepair"], ifaces := true, apart := false, laid := [("loop.example/linkstaterouting/impl.errNoRepair", laid_loop_example_linkstaterouting_impl_errNoRepair)] }
def FnExactRepairStackSaid : Prop := fnExactRepairStackRow.holds Tryd.pinned (OpenSpec.ofChange fnExactRepairStackSpec)

/-- ITS FALSE NEIGHBOUR: 'it returns false'. Refute it at one input. -/
def fnExactRepairStackWrong : ChangeSpec := { name := "fnExactRepairStack", vars := ["loop.example/linkstaterouting/impl.errNoRepair"], fn := fun _ => fun
  | [d1, d2, d3, d4, g1] => { results := [.lit (.bool false)], args := [d1, d2, d3, d4], vars := [g1] }
  | _ => none }
def FnExactRepairStackWrongFalsely : Prop := fnExactRepairStackRow.holds Tryd.pinned (OpenSpec.ofChange fnExactRepairStackWrong)

/-- 'laws.FnRepairAlways': WHATEVER THE INPUT: true; the input reads as it did. -/
def fnRepairAlwaysSpec : ChangeSpec := { name := "fnRepairAlways", vars := ["loop.example/linkstaterouting/impl.errNoRepair"], fn := fun _ => fun
  | [d, g1] => { results := [.lit (.bool true)], args := [d], vars := [g1] }
  | _ => none }
def fnRepairAlwaysRow : OpenClaim := { program := "ytenlofomkchlaabdoor", sum := "d675884977d490d605f58529cd8d6f2e63b06cd66b974d79c5e6f92eb79fdced", func := "loop.example/linkstaterouting/laws.FnRepairAlways", spec := "fnRepairAlways", inPlace := ["internal/reflectlite.TypeOf"], unfollowed := true, recurses := true, named := ["loop.example/linkstaterouting/impl.errNoRepair"], ifaces := true, apart := false, laid := [("loop.example/linkstaterouting/impl.errNoRepair", laid_loop_example_linkstaterouting_impl_errNoRepair)] }
def FnRepairAlwaysSaid : Prop := fnRepairAlwaysRow.holds Tryd.pinned (OpenSpec.ofChange fnRepairAlwaysSpec)

/-- ITS FALSE NEIGHBOUR: 'it returns false'. Refute it at one input. -/
def fnRepairAlwaysWrong : ChangeSpec := { name := "fnRepairAlways", vars := ["loop.example/linkstaterouting/impl.errNoRepair"], fn := fun _ => fun
  | [d, g1] => { results := [.lit (.bool false)], args := [d], vars := [g1] }
  | _ => none }
def FnRepairAlwaysWrongFalsely : Prop := fnRepairAlwaysRow.holds Tryd.pinned (OpenSpec.ofChange fnRepairAlwaysWrong)

/-- 'laws.FnRepairSafe': WHATEVER THE INPUT: true; the input reads as it did. -/
def fnRepairSafeSpec : ChangeSpec := { name := "fnRepairSafe", vars := ["loop.example/linkstaterouting/impl.errNoRepair"], fn := fun _ => fun
  | [d, g1] => { results := [.lit (.bool true)], args := [d], vars := [g1] }
  | _ => none }
def fnRepairSafeRow : OpenClaim := { program := "ytenlofomkchlaabdoor", sum := "d675884977d490d605f58529cd8d6f2e63b06cd66b974d79c5e6f92eb79fdced", func := "loop.example/linkstaterouting/laws.FnRepairSafe", spec := "fnRepairSafe", inPlace := ["internal/reflectlite.TypeOf"], unfollowed := true, recurses := true, named := ["loop.example/linkstaterouting/impl.errNoRepair"], ifaces := true, apart := false, laid := [("loop.example/linkstaterouting/impl.errNoRepair", laid_loop_example_linkstaterouting_impl_errNoRepair)] }
def FnRepairSafeSaid : Prop := fnRepairSafeRow.holds Tryd.pinned (OpenSpec.ofChange fnRepairSafeSpec)

/-- ITS FALSE NEIGHBOUR: 'it returns false'. Refute it at one input. -/
def fnRepairSafeWrong : ChangeSpec := { name := "fnRepairSafe", vars := ["loop.example/linkstaterouting/impl.errNoRepair"], fn := fun _ => fun
  | [d, g1] => { results := [.lit (.bool false)], args := [d], vars := [g1] }
  | _ => none }
def FnRepairSafeWrongFalsely : Prop := fnRepairSafeRow.holds Tryd.pinned (OpenSpec.ofChange fnRepairSafeWrong)

/-- 'laws.FnRepairShort': WHATEVER THE INPUT: true; the input reads as it did. -/
def fnRepairShortSpec : ChangeSpec := { name := "fnRepairShort", vars := ["loop.example/linkstaterouting/impl.errNoRepair"], fn := fun _ => fun
  | [d, g1] => { results := [.lit (.bool true)], args := [d], vars := [g1] }
  | _ => none }
def fnRepairShortRow : OpenClaim := { program := "ytenlofomkchlaabdoor", sum := "d675884977d490d605f58529cd8d6f2e63b06cd66b974d79c5e6f92eb79fdced", func := "loop.example/linkstaterouting/laws.FnRepairShort", spec := "fnRepairShort", inPlace := ["internal/reflectlite.TypeOf"], unfollowed := true, recurses := true, named := ["loop.example/linkstaterouting/impl.errNoRepair"], ifaces := true, apart := false, laid := [("loop.example/linkstaterouting/impl.errNoRepair", laid_loop_example_linkstaterouting_impl_errNoRepair)] }
def FnRepairShortSaid : Prop := fnRepairShortRow.holds Tryd.pinned (OpenSpec.ofChange fnRepairShortSpec)

/-- ITS FALSE NEIGHBOUR: 'it returns false'. Refute it at one input. -/
def fnRepairShortWrong : ChangeSpec := { name := "fnRepairShort", vars := ["loop.example/linkstaterouting/impl.errNoRepair"], fn := fun _ => fun
  | [d, g1] => { results := [.lit (.bool false)], args := [d], vars := [g1] }
  | _ => none }
def FnRepairShortWrongFalsely : Prop := fnRepairShortRow.holds Tryd.pinned (OpenSpec.ofChange fnRepairShortWrong)

/-- 'laws.FnRepairAfter': WHATEVER THE INPUT: true; the input reads as it did. -/
def fnRepairAfterSpec : ChangeSpec := { name := "fnRepairAfter", vars := ["loop.example/linkstaterouting/impl.errNoRepair"], fn := fun _ => fun
  | [d, g1] => { results := [.lit (.bool true)], args := [d], vars := [g1] }
  | _ => none }
def fnRepairAfterRow : OpenClaim := { program := "ytenlofomkchlaabdoor", sum := "d675884977d490d605f58529cd8d6f2e63b06cd66b974d79c5e6f92eb79fdced", func := "loop.example/linkstaterouting/laws.FnRepairAfter", spec := "fnRepairAfter", inPlace := ["internal/reflectlite.TypeOf"], unfollowed := true, recurses := true, named := ["loop.example/linkstaterouting/impl.errNoRepair"], ifaces := true, apart := false, laid := [("loop.example/linkstaterouting/impl.errNoRepair", laid_loop_example_linkstaterouting_impl_errNoRepair)] }
def FnRepairAfterSaid : Prop := fnRepairAfterRow.holds Tryd.pinned (OpenSpec.ofChange fnRepairAfterSpec)

/-- ITS FALSE NEIGHBOUR: 'it returns false'. Refute it at one input. -/
def fnRepairAfterWrong : ChangeSpec := { name := "fnRepairAfter", vars := ["loop.example/linkstaterouting/impl.errNoRepair"], fn := fun _ => fun
  | [d, g1] => { results := [.lit (.bool false)], args := [d], vars := [g1] }
  | _ => none }
def FnRepairAfterWrongFalsely : Prop := fnRepairAfterRow.holds Tryd.pinned (OpenSpec.ofChange fnRepairAfterWrong)

/-- 'laws.FnRepairCost': WHATEVER THE INPUT: true; the input reads as it did. -/
def fnRepairCostSpec : ChangeSpec := { name := "fnRepairCost", vars := ["loop.example/linkstaterouting/impl.errNoRepair"], fn := fun _ => fun
  | [d, g1] => { results := [.lit (.bool true)], args := [d], vars := [g1] }
  | _ => none }
def fnRepairCostRow : OpenClaim := { program := "ytenlofomkchlaabdoor", sum := "d675884977d490d605f58529cd8d6f2e63b06cd66b974d79c5e6f92eb79fdced", func := "loop.example/linkstaterouting/laws.FnRepairCost", spec := "fnRepairCost", inPlace := ["internal/reflectlite.TypeOf"], unfollowed := true, recurses := true, named := ["loop.example/linkstaterouting/impl.errNoRepair"], ifaces := true, apart := false, laid := [("loop.example/linkstaterouting/impl.errNoRepair", laid_loop_example_linkstaterouting_impl_errNoRepair)] }
def FnRepairCostSaid : Prop := fnRepairCostRow.holds Tryd.pinned (OpenSpec.ofChange fnRepairCostSpec)

/-- ITS FALSE NEIGHBOUR: 'it returns false'. Refute it at one input. -/
def fnRepairCostWrong : ChangeSpec := { name := "fnRepairCost", vars := ["loop.example/linkstaterouting/impl.errNoRepair"], fn := fun _ => fun
  | [d, g1] => { results := [.lit (.bool false)], args := [d], vars := [g1] }
  | _ => none }
def FnRepairCostWrongFalsely : Prop := fnRepairCostRow.holds Tryd.pinned (OpenSpec.ofChange fnRepairCostWrong)

/-- 'laws.FnRepairNodes': WHATEVER THE INPUT: true; the input reads as it did. -/
def fnRepairNodesSpec : ChangeSpec := { name := "fnRepairNodes", vars := ["loop.example/linkstaterouting/impl.errNoRepair"], fn := fun _ => fun
  | [d, g1] => { results := [.lit (.bool true)], args := [d], vars := [g1] }
  | _ => none }
def fnRepairNodesRow : OpenClaim := { program := "ytenlofomkchlaabdoor", sum := "d675884977d490d605f58529cd8d6f2e63b06cd66b974d79c5e6f92eb79fdced", func := "loop.example/linkstaterouting/laws.FnRepairNodes", spec := "fnRepairNodes", inPlace := ["internal/reflectlite.TypeOf"], unfollowed := true, recurses := true, named := ["loop.example/linkstaterouting/impl.errNoRepair"], ifaces := true, apart := false, laid := [("loop.example/linkstaterouting/impl.errNoRepair", laid_loop_example_linkstaterouting_impl_errNoRepair)] }
def FnRepairNodesSaid : Prop := fnRepairNodesRow.holds Tryd.pinned (OpenSpec.ofChange fnRepairNodesSpec)

/-- ITS FALSE NEIGHBOUR: 'it returns false'. Refute it at one input. -/
def fnRepairNodesWrong : ChangeSpec := { name := "fnRepairNodes", vars := ["loop.example/linkstaterouting/impl.errNoRepair"], fn := fun _ => fun
  | [d, g1] => { results := [.lit (.bool false)], args := [d], vars := [g1] }
  | _ => none }
def FnRepairNodesWrongFalsely : Prop := fnRepairNodesRow.holds Tryd.pinned (OpenSpec.ofChange fnRepairNodesWrong)

/-- 'laws.FnRepairOwn': WHATEVER THE INPUT: true; the input reads as it did. -/
def fnRepairOwnSpec : ChangeSpec := { name := "fnRepairOwn", vars := ["loop.example/linkstaterouting/impl.errNoRepair"], fn := fun _ => fun
  | [d, g1] => { results := [.lit (.bool true)], args := [d], vars := [g1] }
  | _ => none }
def fnRepairOwnRow : OpenClaim := { program := "ytenlofomkchlaabdoor", sum := "d675884977d490d605f58529cd8d6f2e63b06cd66b974d79c5e6f92eb79fdced", func := "loop.example/linkstaterouting/laws.FnRepairOwn", spec := "fnRepairOwn", inPlace := ["internal/reflectlite.TypeOf"], unfollowed := true, recurses := true, named := ["loop.example/linkstaterouting/impl.errNoRepair"], ifaces := true, apart := false, laid := [("loop.example/linkstaterouting/impl.errNoRepair", laid_loop_example_linkstaterouting_impl_errNoRepair)] }
def FnRepairOwnSaid : Prop := fnRepairOwnRow.holds Tryd.pinned (OpenSpec.ofChange fnRepairOwnSpec)

/-- ITS FALSE NEIGHBOUR: 'it returns false'. Refute it at one input. -/
def fnRepairOwnWrong : ChangeSpec := { name := "fnRepairOwn", vars := ["loop.example/linkstaterouting/impl.errNoRepair"], fn := fun _ => fun
  | [d, g1] => { results := [.lit (.bool false)], args := [d], vars := [g1] }
  | _ => none }
def FnRepairOwnWrongFalsely : Prop := fnRepairOwnRow.holds Tryd.pinned (OpenSpec.ofChange fnRepairOwnWrong)

/- THE SECOND FORM. 'bulk': how many values and letters a reading holds, each counted each time it is reached (what is shared counts as often as it is met; a slice's spare places count too). A statement '..UptoSaid' is the law's where the arguments, and the package variables that the reading takes, are together of bulk at most 1048576: NARROWER than '..Said'. Prove '..Said' where nothing that the law and all that it calls make is longer than what came in: it says more and counts as full. Else prove '..UptoSaid'. A law counts once. -/
mutual
def uptoBulk {H : Type} : DataW H → Nat
  | .lit (.string bytes) => bytes.length + 1
  | .lit _ => 1
  | .nil => 1
  | .ptr d => uptoBulk d + 1
  | .slice elems spare => uptoBulkAll elems + uptoBulkAll spare + 1
  | .agg parts => uptoBulkAll parts + 1
  | .iface _ d => uptoBulk d + 1
  | .map entries => uptoBulkEntries entries + 1
  | .held _ => 1
def uptoBulkAll {H : Type} : List (DataW H) → Nat
  | [] => 0
  | d :: r => uptoBulk d + uptoBulkAll r
def uptoBulkEntries {H : Type} : List (Lit × DataW H) → Nat
  | [] => 0
  | x :: r => uptoBulkEntry x + uptoBulkEntries r
def uptoBulkEntry {H : Type} : Lit × DataW H → Nat
  | (.string bytes, d) => bytes.length + uptoBulk d + 1
  | (_, d) => uptoBulk d + 1
 end
def uptoSmall : (H : Type) → List (DataW H) → Bool := fun _ ds => decide (uptoBulkAll ds ≤ 1048576)
def OpenSpec.upto (s : _root_.Go.ChangeSpec) : _root_.Go.OpenSpec := { _root_.Go.OpenSpec.ofChange s with cond := some uptoSmall }

/-- 'laws.FnExactRepairStack', WHERE WHAT IT READS IS OF BULK AT MOST 1048576: true; the input reads as it did. -/
def fnExactRepairStackUptoRow : OpenClaim := { program := "ytenlofomkchlaabdoor", sum := "d675884977d490d605f58529cd8d6f2e63b06cd66b974d79c5e6f92eb79fdced", func := "loop.example/linkstaterouting/laws.FnExactRepairStack", spec := "fnExactRepairStack", inPlace := ["internal/reflectlite.TypeOf"], unfollowed := true, recurses := true, named := ["loop.example/linkstaterouting/impl.errNoRepair"], ifaces := true, apart := false, laid := [("loop.example/linkstaterouting/impl.errNoRepair", laid_loop_example_linkstaterouting_impl_errNoRepair)], narrowed := true }
def FnExactRepairStackUptoSaid : Prop := fnExactRepairStackUptoRow.holds Tryd.pinned (OpenSpec.upto fnExactRepairStackSpec)

/-- 'laws.FnRepairAlways', WHERE WHAT IT READS IS OF BULK AT MOST 1048576: true; the input reads as it did. -/
def fnRepairAlwaysUptoRow : OpenClaim := { program := "ytenlofomkchlaabdoor", sum := "d675884977d490d605f58529cd8d6f2e63b06cd66b974d79c5e6f92eb79fdced", func := "loop.example/linkstaterouting/laws.FnRepairAlways", spec := "fnRepairAlways", inPlace := ["internal/reflectlite.TypeOf"], unfollowed := true, recurses := true, named := ["loop.example/linkstaterouting/impl.errNoRepair"], ifaces := true, apart := false, laid := [("loop.example/linkstaterouting/impl.errNoRepair", laid_loop_example_linkstaterouting_impl_errNoRepair)], narrowed := true }
def FnRepairAlwaysUptoSaid : Prop := fnRepairAlwaysUptoRow.holds Tryd.pinned (OpenSpec.upto fnRepairAlwaysSpec)

/-- 'laws.FnRepairSafe', WHERE WHAT IT READS IS OF BULK AT MOST 1048576: true; the input reads as it did. -/
def fnRepairSafeUptoRow : OpenClaim := { program := "ytenlofomkchlaabdoor", sum := "d675884977d490d605f58529cd8d6f2e63b06cd66b974d79c5e6f92eb79fdced", func := "loop.example/linkstaterouting/laws.FnRepairSafe", spec := "fnRepairSafe", inPlace := ["internal/reflectlite.TypeOf"], unfollowed := true, recurses := true, named := ["loop.example/linkstaterouting/impl.errNoRepair"], ifaces := true, apart := false, laid := [("loop.example/linkstaterouting/impl.errNoRepair", laid_loop_example_linkstaterouting_impl_errNoRepair)], narrowed := true }
def FnRepairSafeUptoSaid : Prop := fnRepairSafeUptoRow.holds Tryd.pinned (OpenSpec.upto fnRepairSafeSpec)

/-- 'laws.FnRepairShort', WHERE WHAT IT READS IS OF BULK AT MOST 1048576: true; the input reads as it did. -/
def fnRepairShortUptoRow : OpenClaim := { program := "ytenlofomkchlaabdoor", sum := "d675884977d490d605f58529cd8d6f2e63b06cd66b974d79c5e6f92eb79fdced", func := "loop.example/linkstaterouting/laws.FnRepairShort", spec := "fnRepairShort", inPlace := ["internal/reflectlite.TypeOf"], unfollowed := true, recurses := true, named := ["loop.example/linkstaterouting/impl.errNoRepair"], ifaces := true, apart := false, laid := [("loop.example/linkstaterouting/impl.errNoRepair", laid_loop_example_linkstaterouting_impl_errNoRepair)], narrowed := true }
def FnRepairShortUptoSaid : Prop := fnRepairShortUptoRow.holds Tryd.pinned (OpenSpec.upto fnRepairShortSpec)

/-- 'laws.FnRepairAfter', WHERE WHAT IT READS IS OF BULK AT MOST 1048576: true; the input reads as it did. -/
def fnRepairAfterUptoRow : OpenClaim := { program := "ytenlofomkchlaabdoor", sum := "d675884977d490d605f58529cd8d6f2e63b06cd66b974d79c5e6f92eb79fdced", func := "loop.example/linkstaterouting/laws.FnRepairAfter", spec := "fnRepairAfter", inPlace := ["internal/reflectlite.TypeOf"], unfollowed := true, recurses := true, named := ["loop.example/linkstaterouting/impl.errNoRepair"], ifaces := true, apart := false, laid := [("loop.example/linkstaterouting/impl.errNoRepair", laid_loop_example_linkstaterouting_impl_errNoRepair)], narrowed := true }
def FnRepairAfterUptoSaid : Prop := fnRepairAfterUptoRow.holds Tryd.pinned (OpenSpec.upto fnRepairAfterSpec)

/-- 'laws.FnRepairCost', WHERE WHAT IT READS IS OF BULK AT MOST 1048576: true; the input reads as it did. -/
def fnRepairCostUptoRow : OpenClaim := { program := "ytenlofomkchlaabdoor", sum := "d675884977d490d605f58529cd8d6f2e63b06cd66b974d79c5e6f92eb79fdced", func := "loop.example/linkstaterouting/laws.FnRepairCost", spec := "fnRepairCost", inPlace := ["internal/reflectlite.TypeOf"], unfollowed := true, recurses := true, named := ["loop.example/linkstaterouting/impl.errNoRepair"], ifaces := true, apart := false, laid := [("loop.example/linkstaterouting/impl.errNoRepair", laid_loop_example_linkstaterouting_impl_errNoRepair)], narrowed := true }
def FnRepairCostUptoSaid : Prop := fnRepairCostUptoRow.holds Tryd.pinned (OpenSpec.upto fnRepairCostSpec)

/-- 'laws.FnRepairNodes', WHERE WHAT IT READS IS OF BULK AT MOST 1048576: true; the input reads as it did. -/
def fnRepairNodesUptoRow : OpenClaim := { program := "ytenlofomkchlaabdoor", sum := "d675884977d490d605f58529cd8d6f2e63b06cd66b974d79c5e6f92eb79fdced", func := "loop.example/linkstaterouting/laws.FnRepairNodes", spec := "fnRepairNodes", inPlace := ["internal/reflectlite.TypeOf"], unfollowed := true, recurses := true, named := ["loop.example/linkstaterouting/impl.errNoRepair"], ifaces := true, apart := false, laid := [("loop.example/linkstaterouting/impl.errNoRepair", laid_loop_example_linkstaterouting_impl_errNoRepair)], narrowed := true }
def FnRepairNodesUptoSaid : Prop := fnRepairNodesUptoRow.holds Tryd.pinned (OpenSpec.upto fnRepairNodesSpec)

/-- 'laws.FnRepairOwn', WHERE WHAT IT READS IS OF BULK AT MOST 1048576: true; the input reads as it did. -/
def fnRepairOwnUptoRow : OpenClaim := { program := "ytenlofomkchlaabdoor", sum := "d675884977d490d605f58529cd8d6f2e63b06cd66b974d79c5e6f92eb79fdced", func := "loop.example/linkstaterouting/laws.FnRepairOwn", spec := "fnRepairOwn", inPlace := ["internal/reflectlite.TypeOf"], unfollowed := true, recurses := true, named := ["loop.example/linkstaterouting/impl.errNoRepair"], ifaces := true, apart := false, laid := [("loop.example/linkstaterouting/impl.errNoRepair", laid_loop_example_linkstaterouting_impl_errNoRepair)], narrowed := true }
def FnRepairOwnUptoSaid : Prop := fnRepairOwnUptoRow.holds Tryd.pinned (OpenSpec.upto fnRepairOwnSpec)

end Rows
end Go.Proofs.YtenlofomkchlaabDoor
