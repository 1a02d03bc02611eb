/-
  No cell of these rows narrows 'for every input' (looked for: loops, veiled, ifaces, maps, wideKeys, modest, calm, conditions, laid).
  DERIVED. THE GIVEN ROWS OF THIS SEAT. 8 by the template 'for every input the law returns true; each argument reads behind the call as it read before'; 0 by the template 'total and deterministic' (their statements: YtkcnbgimdiggoaaTotals.lean).
  GIVEN WITH THE SEED: the statements are not yours to turn. If you find one false, say at which input.
  Laid BY PROGRAM, IN A SANDBOX (cutbox-rows.mjs): the forced cells as the released guide's own fill.sh prints them over the translation 5a78e3bab8bb82d0… (all of the seat's roots in one cut). By AI agents, Wed Nov 11 2026. No macro, syntax, notation, axiom, sorry.
-/
import Derived.Test.YtkcnbgimdiggoaaChecked
import GoSem.Claim
import GoSem.ClaimJoined
import GoSem.ClaimMapViews
import Derived.JoinedTies
import Derived.KernelRfl
namespace Go.Proofs.Ytkcnbgimdiggoaa
/- THE CELL 'sum', in the pinned program and in every row, IS THE sha256 OF THE DUMP (.gsa) THAT YtkcnbgimdiggoaaProg.lean LOADS. Nothing in Lean hashes anything: it is a label: what it is worth is what the hold of that sum in a sandbox is worth. -/
noncomputable def Try.pinned : Pinned := { name := "ytkcnbgimdiggoaa", sum := "5a78e3bab8bb82d07f686814542c845ecad30a687e68a170807d26b0ea6372eb", checked := Try.checked }
namespace Rows
def none {H : Type} : Left H := { results := [], args := [] }

/-- 'laws.FnOrderNodes': WHATEVER THE INPUT: true; the input reads as it did. -/
def fnOrderNodesSpec : ChangeSpec := { name := "fnOrderNodes", fn := fun _ => fun
  | [d] => { results := [.lit (.bool true)], args := [d] }
  | _ => none }
def fnOrderNodesRow : OpenClaim := { program := "ytkcnbgimdiggoaa", sum := "5a78e3bab8bb82d07f686814542c845ecad30a687e68a170807d26b0ea6372eb", func := "loop.example/linkstaterouting/laws.FnOrderNodes", spec := "fnOrderNodes", unfollowed := true, recurses := true, apart := false }
def FnOrderNodesSaid : Prop := fnOrderNodesRow.holds Try.pinned (OpenSpec.ofChange fnOrderNodesSpec)

/-- ITS FALSE NEIGHBOUR: 'it returns false'. Refute it at one input. -/
def fnOrderNodesWrong : ChangeSpec := { name := "fnOrderNodes", fn := fun _ => fun
  | [d] => { results := [.lit (.bool false)], args := [d] }
  | _ => none }
def FnOrderNodesWrongFalsely : Prop := fnOrderNodesRow.holds Try.pinned (OpenSpec.ofChange fnOrderNodesWrong)

/-- 'laws.FnOrderFar': WHATEVER THE INPUT: true; the input reads as it did. -/
def fnOrderFarSpec : ChangeSpec := { name := "fnOrderFar", fn := fun _ => fun
  | [d] => { results := [.lit (.bool true)], args := [d] }
  | _ => none }
def fnOrderFarRow : OpenClaim := { program := "ytkcnbgimdiggoaa", sum := "5a78e3bab8bb82d07f686814542c845ecad30a687e68a170807d26b0ea6372eb", func := "loop.example/linkstaterouting/laws.FnOrderFar", spec := "fnOrderFar", unfollowed := true, recurses := true, apart := false }
def FnOrderFarSaid : Prop := fnOrderFarRow.holds Try.pinned (OpenSpec.ofChange fnOrderFarSpec)

/-- ITS FALSE NEIGHBOUR: 'it returns false'. Refute it at one input. -/
def fnOrderFarWrong : ChangeSpec := { name := "fnOrderFar", fn := fun _ => fun
  | [d] => { results := [.lit (.bool false)], args := [d] }
  | _ => none }
def FnOrderFarWrongFalsely : Prop := fnOrderFarRow.holds Try.pinned (OpenSpec.ofChange fnOrderFarWrong)

/-- 'laws.FnMixedNew': WHATEVER THE INPUT: true; the input reads as it did. -/
def fnMixedNewSpec : ChangeSpec := { name := "fnMixedNew", fn := fun _ => fun
  | [d] => { results := [.lit (.bool true)], args := [d] }
  | _ => none }
def fnMixedNewRow : OpenClaim := { program := "ytkcnbgimdiggoaa", sum := "5a78e3bab8bb82d07f686814542c845ecad30a687e68a170807d26b0ea6372eb", func := "loop.example/linkstaterouting/laws.FnMixedNew", spec := "fnMixedNew", unfollowed := true, recurses := true, apart := false }
def FnMixedNewSaid : Prop := fnMixedNewRow.holds Try.pinned (OpenSpec.ofChange fnMixedNewSpec)

/-- ITS FALSE NEIGHBOUR: 'it returns false'. Refute it at one input. -/
def fnMixedNewWrong : ChangeSpec := { name := "fnMixedNew", fn := fun _ => fun
  | [d] => { results := [.lit (.bool false)], args := [d] }
  | _ => none }
def FnMixedNewWrongFalsely : Prop := fnMixedNewRow.holds Try.pinned (OpenSpec.ofChange fnMixedNewWrong)

/-- 'laws.FnMixedOld': WHATEVER THE INPUT: true; the input reads as it did. -/
def fnMixedOldSpec : ChangeSpec := { name := "fnMixedOld", fn := fun _ => fun
  | [d] => { results := [.lit (.bool true)], args := [d] }
  | _ => none }
def fnMixedOldRow : OpenClaim := { program := "ytkcnbgimdiggoaa", sum := "5a78e3bab8bb82d07f686814542c845ecad30a687e68a170807d26b0ea6372eb", func := "loop.example/linkstaterouting/laws.FnMixedOld", spec := "fnMixedOld", unfollowed := true, recurses := true, apart := false }
def FnMixedOldSaid : Prop := fnMixedOldRow.holds Try.pinned (OpenSpec.ofChange fnMixedOldSpec)

/-- ITS FALSE NEIGHBOUR: 'it returns false'. Refute it at one input. -/
def fnMixedOldWrong : ChangeSpec := { name := "fnMixedOld", fn := fun _ => fun
  | [d] => { results := [.lit (.bool false)], args := [d] }
  | _ => none }
def FnMixedOldWrongFalsely : Prop := fnMixedOldRow.holds Try.pinned (OpenSpec.ofChange fnMixedOldWrong)

/-- 'laws.FnOrderNone': WHATEVER THE INPUT: true; the input reads as it did. -/
def fnOrderNoneSpec : ChangeSpec := { name := "fnOrderNone", fn := fun _ => fun
  | [d] => { results := [.lit (.bool true)], args := [d] }
  | _ => none }
def fnOrderNoneRow : OpenClaim := { program := "ytkcnbgimdiggoaa", sum := "5a78e3bab8bb82d07f686814542c845ecad30a687e68a170807d26b0ea6372eb", func := "loop.example/linkstaterouting/laws.FnOrderNone", spec := "fnOrderNone", unfollowed := true, recurses := true, apart := false }
def FnOrderNoneSaid : Prop := fnOrderNoneRow.holds Try.pinned (OpenSpec.ofChange fnOrderNoneSpec)

/-- ITS FALSE NEIGHBOUR: 'it returns false'. Refute it at one input. -/
def fnOrderNoneWrong : ChangeSpec := { name := "fnOrderNone", fn := fun _ => fun
  | [d] => { results := [.lit (.bool false)], args := [d] }
  | _ => none }
def FnOrderNoneWrongFalsely : Prop := fnOrderNoneRow.holds Try.pinned (OpenSpec.ofChange fnOrderNoneWrong)

/-- 'laws.FnMixedUnused': WHATEVER THE INPUT: true; the input reads as it did. -/
def fnMixedUnusedSpec : ChangeSpec := { name := "fnMixedUnused", fn := fun _ => fun
  | [d] => { results := [.lit (.bool true)], args := [d] }
  | _ => none }
def fnMixedUnusedRow : OpenClaim := { program := "ytkcnbgimdiggoaa", sum := "5a78e3bab8bb82d07f686814542c845ecad30a687e68a170807d26b0ea6372eb", func := "loop.example/linkstaterouting/laws.FnMixedUnused", spec := "fnMixedUnused", unfollowed := true, recurses := true, apart := false }
def FnMixedUnusedSaid : Prop := fnMixedUnusedRow.holds Try.pinned (OpenSpec.ofChange fnMixedUnusedSpec)

/-- ITS FALSE NEIGHBOUR: 'it returns false'. Refute it at one input. -/
def fnMixedUnusedWrong : ChangeSpec := { name := "fnMixedUnused", fn := fun _ => fun
  | [d] => { results := [.lit (.bool false)], args := [d] }
  | _ => none }
def FnMixedUnusedWrongFalsely : Prop := fnMixedUnusedRow.holds Try.pinned (OpenSpec.ofChange fnMixedUnusedWrong)

/-- 'laws.FnExactUpdateOrder': WHATEVER THE INPUT: true; the input reads as it did. -/
def fnExactUpdateOrderSpec : ChangeSpec := { name := "fnExactUpdateOrder", fn := fun _ => fun
  | [d1, d2, d3] => { results := [.lit (.bool true)], args := [d1, d2, d3] }
  | _ => none }
def fnExactUpdateOrderRow : OpenClaim := { program := "ytkcnbgimdiggoaa", sum := "5a78e3bab8bb82d07f686814542c845ecad30a687e68a170807d26b0ea6372eb", func := "loop.example/linkstaterouting/laws.FnExactUpdateOrder", spec := "fnExactUpdateOrder", unfollowed := true, recurses := true, apart := false }
def FnExactUpdateOrderSaid : Prop := fnExactUpdateOrderRow.holds Try.pinned (OpenSpec.ofChange fnExactUpdateOrderSpec)

/-- ITS FALSE NEIGHBOUR: 'it returns false'. Refute it at one input. -/
def fnExactUpdateOrderWrong : ChangeSpec := { name := "fnExactUpdateOrder", fn := fun _ => fun
  | [d1, d2, d3] => { results := [.lit (.bool false)], args := [d1, d2, d3] }
  | _ => none }
def FnExactUpdateOrderWrongFalsely : Prop := fnExactUpdateOrderRow.holds Try.pinned (OpenSpec.ofChange fnExactUpdateOrderWrong)

/-- 'laws.FnExactMixedHops': WHATEVER THE INPUT: true; the input reads as it did. -/
def fnExactMixedHopsSpec : ChangeSpec := { name := "fnExactMixedHops", fn := fun _ => fun
  | [d1, d2, d3, d4, d5] => { results := [.lit (.bool true)], args := [d1, d2, d3, d4, d5] }
  | _ => none }
def fnExactMixedHopsRow : OpenClaim := { program := "ytkcnbgimdiggoaa", sum := "5a78e3bab8bb82d07f686814542c845ecad30a687e68a170807d26b0ea6372eb", func := "loop.example/linkstaterouting/laws.FnExactMixedHops", spec := "fnExactMixedHops", unfollowed := true, recurses := true, apart := false }
def FnExactMixedHopsSaid : Prop := fnExactMixedHopsRow.holds Try.pinned (OpenSpec.ofChange fnExactMixedHopsSpec)

/-- ITS FALSE NEIGHBOUR: 'it returns false'. Refute it at one input. -/
def fnExactMixedHopsWrong : ChangeSpec := { name := "fnExactMixedHops", fn := fun _ => fun
  | [d1, d2, d3, d4, d5] => { results := [.lit (.bool false)], args := [d1, d2, d3, d4, d5] }
  | _ => none }
def FnExactMixedHopsWrongFalsely : Prop := fnExactMixedHopsRow.holds Try.pinned (OpenSpec.ofChange fnExactMixedHopsWrong)

/- THE SECOND FORM. 'bulk': how many values and letters a reading holds, each counted each time it is reached (what is shared counts as often as it is met; a slice's spare places count too). A statement '..UptoSaid' is the law's where the arguments, and the package variables that the reading takes, are together of bulk at most 1048576: NARROWER than '..Said'. Prove '..Said' where nothing that the law and all that it calls make is longer than what came in: it says more and counts as full. Else prove '..UptoSaid'. A law counts once. -/
mutual
def uptoBulk {H : Type} : DataW H → Nat
  | .lit (.string bytes) => bytes.length + 1
  | .lit _ => 1
  | .nil => 1
  | .ptr d => uptoBulk d + 1
  | .slice elems spare => uptoBulkAll elems + uptoBulkAll spare + 1
  | .agg parts => uptoBulkAll parts + 1
  | .iface _ d => uptoBulk d + 1
  | .map entries => uptoBulkEntries entries + 1
  | .held _ => 1
def uptoBulkAll {H : Type} : List (DataW H) → Nat
  | [] => 0
  | d :: r => uptoBulk d + uptoBulkAll r
def uptoBulkEntries {H : Type} : List (Lit × DataW H) → Nat
  | [] => 0
  | x :: r => uptoBulkEntry x + uptoBulkEntries r
def uptoBulkEntry {H : Type} : Lit × DataW H → Nat
  | (.string bytes, d) => bytes.length + uptoBulk d + 1
  | (_, d) => uptoBulk d + 1
 end
def uptoSmall : (H : Type) → List (DataW H) → Bool := fun _ ds => decide (uptoBulkAll ds ≤ 1048576)
def OpenSpec.upto (s : _root_.Go.ChangeSpec) : _root_.Go.OpenSpec := { _root_.Go.OpenSpec.ofChange s with cond := some uptoSmall }

/-- 'laws.FnOrderNodes', WHERE WHAT IT READS IS OF BULK AT MOST 1048576: true; the input reads as it did. -/
def fnOrderNodesUptoRow : OpenClaim := { program := "ytkcnbgimdiggoaa", sum := "5a78e3bab8bb82d07f686814542c845ecad30a687e68a170807d26b0ea6372eb", func := "loop.example/linkstaterouting/laws.FnOrderNodes", spec := "fnOrderNodes", unfollowed := true, recurses := true, apart := false, narrowed := true }
def FnOrderNodesUptoSaid : Prop := fnOrderNodesUptoRow.holds Try.pinned (OpenSpec.upto fnOrderNodesSpec)

/-- 'laws.FnOrderFar', WHERE WHAT IT READS IS OF BULK AT MOST 1048576: true; the input reads as it did. -/
def fnOrderFarUptoRow : OpenClaim := { program := "ytkcnbgimdiggoaa", sum := "5a78e3bab8bb82d07f686814542c845ecad30a687e68a170807d26b0ea6372eb", func := "loop.example/linkstaterouting/laws.FnOrderFar", spec := "fnOrderFar", unfollowed := true, recurses := true, apart := false, narrowed := true }
def FnOrderFarUptoSaid : Prop := fnOrderFarUptoRow.holds Try.pinned (OpenSpec.upto fnOrderFarSpec)

/-- 'laws.FnMixedNew', WHERE WHAT IT READS IS OF BULK AT MOST 1048576: true; the input reads as it did. -/
def fnMixedNewUptoRow : OpenClaim := { program := "ytkcnbgimdiggoaa", sum := "5a78e3bab8bb82d07f686814542c845ecad30a687e68a170807d26b0ea6372eb", func := "loop.example/linkstaterouting/laws.FnMixedNew", spec := "fnMixedNew", unfollowed := true, recurses := true, apart := false, narrowed := true }
def FnMixedNewUptoSaid : Prop := fnMixedNewUptoRow.holds Try.pinned (OpenSpec.upto fnMixedNewSpec)

/-- 'laws.FnMixedOld', WHERE WHAT IT READS IS OF BULK AT MOST 1048576: true; the input reads as it did. -/
def fnMixedOldUptoRow : OpenClaim := { program := "ytkcnbgimdiggoaa", sum := "5a78e3bab8bb82d07f686814542c845ecad30a687e68a170807d26b0ea6372eb", func := "loop.example/linkstaterouting/laws.FnMixedOld", spec := "fnMixedOld", unfollowed := true, recurses := true, apart := false, narrowed := true }
def FnMixedOldUptoSaid : Prop := fnMixedOldUptoRow.holds Try.pinned (OpenSpec.upto fnMixedOldSpec)

/-- 'laws.FnOrderNone', WHERE WHAT IT READS IS OF BULK AT MOST 1048576: true; the input reads as it did. -/
def fnOrderNoneUptoRow : OpenClaim := { program := "ytkcnbgimdiggoaa", sum := "5a78e3bab8bb82d07f686814542c845ecad30a687e68a170807d26b0ea6372eb", func := "loop.example/linkstaterouting/laws.FnOrderNone", spec := "fnOrderNone", unfollowed := true, recurses := true, apart := false, narrowed := true }
def FnOrderNoneUptoSaid : Prop := fnOrderNoneUptoRow.holds Try.pinned (OpenSpec.upto fnOrderNoneSpec)

/-- 'laws.FnMixedUnused', WHERE WHAT IT READS IS OF BULK AT MOST 1048576: true; the input reads as it did. -/
def fnMixedUnusedUptoRow : OpenClaim := { program := "ytkcnbgimdiggoaa", sum := "5a78e3bab8bb82d07f686814542c845ecad30a687e68a170807d26b0ea6372eb", func := "loop.example/linkstaterouting/laws.FnMixedUnused", spec := "fnMixedUnused", unfollowed := true, recurses := true, apart := false, narrowed := true }
def FnMixedUnusedUptoSaid : Prop := fnMixedUnusedUptoRow.holds Try.pinned (OpenSpec.upto fnMixedUnusedSpec)

/-- 'laws.FnExactUpdateOrder', WHERE WHAT IT READS IS OF BULK AT MOST 1048576: true; the input reads as it did. -/
def fnExactUpdateOrderUptoRow : OpenClaim := { program := "ytkcnbgimdiggoaa", sum := "5a78e3bab8bb82d07f686814542c845ecad30a687e68a170807d26b0ea6372eb", func := "loop.example/linkstaterouting/laws.FnExactUpdateOrder", spec := "fnExactUpdateOrder", unfollowed := true, recurses := true, apart := false, narrowed := true }
def FnExactUpdateOrderUptoSaid : Prop := fnExactUpdateOrderUptoRow.holds Try.pinned (OpenSpec.upto fnExactUpdateOrderSpec)

/-- 'laws.FnExactMixedHops', WHERE WHAT IT READS IS OF BULK AT MOST 1048576: true; the input reads as it did. -/
def fnExactMixedHopsUptoRow : OpenClaim := { program := "ytkcnbgimdiggoaa", sum := "5a78e3bab8bb82d07f686814542c845ecad30a687e68a170807d26b0ea6372eb", func := "loop.example/linkstaterouting/laws.FnExactMixedHops", spec := "fnExactMixedHops", unfollowed := true, recurses := true, apart := false, narrowed := true }
def FnExactMixedHopsUptoSaid : Prop := fnExactMixedHopsUptoRow.holds Try.pinned (OpenSpec.upto fnExactMixedHopsSpec)

end Rows
end Go.Proofs.Ytkcnbgimdiggoaa
