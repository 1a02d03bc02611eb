/-
  No cell of these rows narrows 'for every input' (looked for: loops, veiled, ifaces, maps, wideKeys, modest, calm, conditions, laid).
  DERIVED. THE GIVEN ROWS OF THIS SEAT. 8 by the template 'for every input the law returns true; each argument reads behind the call as it read before'; 0 by the template 'total and deterministic' (their statements: YtkcnbgimdiggoabTotals.lean).
  GIVEN WITH THE SEED: the statements are not yours to turn. If you find one false, say at which input.
  Laid BY PROGRAM, IN A SANDBOX (cutbox-rows.mjs): the forced cells as the released guide's own fill.sh prints them over the translation b00523a8448c7014… (all of the seat's roots in one cut). By AI agents, Wed Nov 11 2026. No macro, syntax, notation, axiom, sorry.
-/
import Derived.Test.YtkcnbgimdiggoabChecked
import GoSem.Claim
import GoSem.ClaimJoined
import GoSem.ClaimMapViews
import Derived.JoinedTies
import Derived.KernelRfl
namespace Go.Proofs.Ytkcnbgimdiggoab
/- THE CELL 'sum', in the pinned program and in every row, IS THE sha256 OF THE DUMP (.gsa) THAT YtkcnbgimdiggoabProg.lean LOADS. Nothing in Lean hashes anything: it is a label: what it is worth is what the hold of that sum in a sandbox is worth. -/
noncomputable def Try.pinned : Pinned := { name := "ytkcnbgimdiggoab", sum := "b00523a8448c70140cd834095be6bebcbf6a6bd7443a763fa3de29d8d38eb455", checked := Try.checked }
namespace Rows
def none {H : Type} : Left H := { results := [], args := [] }

/-- 'laws.FnNoLoop': WHATEVER THE INPUT: true; the input reads as it did. -/
def fnNoLoopSpec : ChangeSpec := { name := "fnNoLoop", fn := fun _ => fun
  | [d1, d2] => { results := [.lit (.bool true)], args := [d1, d2] }
  | _ => none }
def fnNoLoopRow : OpenClaim := { program := "ytkcnbgimdiggoab", sum := "b00523a8448c70140cd834095be6bebcbf6a6bd7443a763fa3de29d8d38eb455", func := "loop.example/linkstaterouting/laws.FnNoLoop", spec := "fnNoLoop", unfollowed := true, recurses := true, apart := false }
def FnNoLoopSaid : Prop := fnNoLoopRow.holds Try.pinned (OpenSpec.ofChange fnNoLoopSpec)

/-- ITS FALSE NEIGHBOUR: 'it returns false'. Refute it at one input. -/
def fnNoLoopWrong : ChangeSpec := { name := "fnNoLoop", fn := fun _ => fun
  | [d1, d2] => { results := [.lit (.bool false)], args := [d1, d2] }
  | _ => none }
def FnNoLoopWrongFalsely : Prop := fnNoLoopRow.holds Try.pinned (OpenSpec.ofChange fnNoLoopWrong)

/-- 'laws.FnLoopNodes': WHATEVER THE INPUT: true; the input reads as it did. -/
def fnLoopNodesSpec : ChangeSpec := { name := "fnLoopNodes", fn := fun _ => fun
  | [d] => { results := [.lit (.bool true)], args := [d] }
  | _ => none }
def fnLoopNodesRow : OpenClaim := { program := "ytkcnbgimdiggoab", sum := "b00523a8448c70140cd834095be6bebcbf6a6bd7443a763fa3de29d8d38eb455", func := "loop.example/linkstaterouting/laws.FnLoopNodes", spec := "fnLoopNodes", unfollowed := true, recurses := true, apart := false }
def FnLoopNodesSaid : Prop := fnLoopNodesRow.holds Try.pinned (OpenSpec.ofChange fnLoopNodesSpec)

/-- ITS FALSE NEIGHBOUR: 'it returns false'. Refute it at one input. -/
def fnLoopNodesWrong : ChangeSpec := { name := "fnLoopNodes", fn := fun _ => fun
  | [d] => { results := [.lit (.bool false)], args := [d] }
  | _ => none }
def FnLoopNodesWrongFalsely : Prop := fnLoopNodesRow.holds Try.pinned (OpenSpec.ofChange fnLoopNodesWrong)

/-- 'laws.FnArrivesAll': WHATEVER THE INPUT: true; the input reads as it did. -/
def fnArrivesAllSpec : ChangeSpec := { name := "fnArrivesAll", fn := fun _ => fun
  | [d] => { results := [.lit (.bool true)], args := [d] }
  | _ => none }
def fnArrivesAllRow : OpenClaim := { program := "ytkcnbgimdiggoab", sum := "b00523a8448c70140cd834095be6bebcbf6a6bd7443a763fa3de29d8d38eb455", func := "loop.example/linkstaterouting/laws.FnArrivesAll", spec := "fnArrivesAll", unfollowed := true, recurses := true, apart := false }
def FnArrivesAllSaid : Prop := fnArrivesAllRow.holds Try.pinned (OpenSpec.ofChange fnArrivesAllSpec)

/-- ITS FALSE NEIGHBOUR: 'it returns false'. Refute it at one input. -/
def fnArrivesAllWrong : ChangeSpec := { name := "fnArrivesAll", fn := fun _ => fun
  | [d] => { results := [.lit (.bool false)], args := [d] }
  | _ => none }
def FnArrivesAllWrongFalsely : Prop := fnArrivesAllRow.holds Try.pinned (OpenSpec.ofChange fnArrivesAllWrong)

/-- 'laws.FnArrivesSome': WHATEVER THE INPUT: true; the input reads as it did. -/
def fnArrivesSomeSpec : ChangeSpec := { name := "fnArrivesSome", fn := fun _ => fun
  | [d] => { results := [.lit (.bool true)], args := [d] }
  | _ => none }
def fnArrivesSomeRow : OpenClaim := { program := "ytkcnbgimdiggoab", sum := "b00523a8448c70140cd834095be6bebcbf6a6bd7443a763fa3de29d8d38eb455", func := "loop.example/linkstaterouting/laws.FnArrivesSome", spec := "fnArrivesSome", unfollowed := true, recurses := true, apart := false }
def FnArrivesSomeSaid : Prop := fnArrivesSomeRow.holds Try.pinned (OpenSpec.ofChange fnArrivesSomeSpec)

/-- ITS FALSE NEIGHBOUR: 'it returns false'. Refute it at one input. -/
def fnArrivesSomeWrong : ChangeSpec := { name := "fnArrivesSome", fn := fun _ => fun
  | [d] => { results := [.lit (.bool false)], args := [d] }
  | _ => none }
def FnArrivesSomeWrongFalsely : Prop := fnArrivesSomeRow.holds Try.pinned (OpenSpec.ofChange fnArrivesSomeWrong)

/-- 'laws.FnArrivesNoLoop': WHATEVER THE INPUT: true; the input reads as it did. -/
def fnArrivesNoLoopSpec : ChangeSpec := { name := "fnArrivesNoLoop", fn := fun _ => fun
  | [d] => { results := [.lit (.bool true)], args := [d] }
  | _ => none }
def fnArrivesNoLoopRow : OpenClaim := { program := "ytkcnbgimdiggoab", sum := "b00523a8448c70140cd834095be6bebcbf6a6bd7443a763fa3de29d8d38eb455", func := "loop.example/linkstaterouting/laws.FnArrivesNoLoop", spec := "fnArrivesNoLoop", unfollowed := true, recurses := true, apart := false }
def FnArrivesNoLoopSaid : Prop := fnArrivesNoLoopRow.holds Try.pinned (OpenSpec.ofChange fnArrivesNoLoopSpec)

/-- ITS FALSE NEIGHBOUR: 'it returns false'. Refute it at one input. -/
def fnArrivesNoLoopWrong : ChangeSpec := { name := "fnArrivesNoLoop", fn := fun _ => fun
  | [d] => { results := [.lit (.bool false)], args := [d] }
  | _ => none }
def FnArrivesNoLoopWrongFalsely : Prop := fnArrivesNoLoopRow.holds Try.pinned (OpenSpec.ofChange fnArrivesNoLoopWrong)

/-- 'laws.FnArrivesMore': WHATEVER THE INPUT: true; the input reads as it did. -/
def fnArrivesMoreSpec : ChangeSpec := { name := "fnArrivesMore", fn := fun _ => fun
  | [d1, d2] => { results := [.lit (.bool true)], args := [d1, d2] }
  | _ => none }
def fnArrivesMoreRow : OpenClaim := { program := "ytkcnbgimdiggoab", sum := "b00523a8448c70140cd834095be6bebcbf6a6bd7443a763fa3de29d8d38eb455", func := "loop.example/linkstaterouting/laws.FnArrivesMore", spec := "fnArrivesMore", unfollowed := true, recurses := true, apart := false }
def FnArrivesMoreSaid : Prop := fnArrivesMoreRow.holds Try.pinned (OpenSpec.ofChange fnArrivesMoreSpec)

/-- ITS FALSE NEIGHBOUR: 'it returns false'. Refute it at one input. -/
def fnArrivesMoreWrong : ChangeSpec := { name := "fnArrivesMore", fn := fun _ => fun
  | [d1, d2] => { results := [.lit (.bool false)], args := [d1, d2] }
  | _ => none }
def FnArrivesMoreWrongFalsely : Prop := fnArrivesMoreRow.holds Try.pinned (OpenSpec.ofChange fnArrivesMoreWrong)

/-- 'laws.FnExactMixedLoop': WHATEVER THE INPUT: true; the input reads as it did. -/
def fnExactMixedLoopSpec : ChangeSpec := { name := "fnExactMixedLoop", fn := fun _ => fun
  | [d1, d2, d3, d4] => { results := [.lit (.bool true)], args := [d1, d2, d3, d4] }
  | _ => none }
def fnExactMixedLoopRow : OpenClaim := { program := "ytkcnbgimdiggoab", sum := "b00523a8448c70140cd834095be6bebcbf6a6bd7443a763fa3de29d8d38eb455", func := "loop.example/linkstaterouting/laws.FnExactMixedLoop", spec := "fnExactMixedLoop", unfollowed := true, recurses := true, apart := false }
def FnExactMixedLoopSaid : Prop := fnExactMixedLoopRow.holds Try.pinned (OpenSpec.ofChange fnExactMixedLoopSpec)

/-- ITS FALSE NEIGHBOUR: 'it returns false'. Refute it at one input. -/
def fnExactMixedLoopWrong : ChangeSpec := { name := "fnExactMixedLoop", fn := fun _ => fun
  | [d1, d2, d3, d4] => { results := [.lit (.bool false)], args := [d1, d2, d3, d4] }
  | _ => none }
def FnExactMixedLoopWrongFalsely : Prop := fnExactMixedLoopRow.holds Try.pinned (OpenSpec.ofChange fnExactMixedLoopWrong)

/-- 'laws.FnExactMixedArrives': WHATEVER THE INPUT: true; the input reads as it did. -/
def fnExactMixedArrivesSpec : ChangeSpec := { name := "fnExactMixedArrives", fn := fun _ => fun
  | [d1, d2, d3, d4] => { results := [.lit (.bool true)], args := [d1, d2, d3, d4] }
  | _ => none }
def fnExactMixedArrivesRow : OpenClaim := { program := "ytkcnbgimdiggoab", sum := "b00523a8448c70140cd834095be6bebcbf6a6bd7443a763fa3de29d8d38eb455", func := "loop.example/linkstaterouting/laws.FnExactMixedArrives", spec := "fnExactMixedArrives", unfollowed := true, recurses := true, apart := false }
def FnExactMixedArrivesSaid : Prop := fnExactMixedArrivesRow.holds Try.pinned (OpenSpec.ofChange fnExactMixedArrivesSpec)

/-- ITS FALSE NEIGHBOUR: 'it returns false'. Refute it at one input. -/
def fnExactMixedArrivesWrong : ChangeSpec := { name := "fnExactMixedArrives", fn := fun _ => fun
  | [d1, d2, d3, d4] => { results := [.lit (.bool false)], args := [d1, d2, d3, d4] }
  | _ => none }
def FnExactMixedArrivesWrongFalsely : Prop := fnExactMixedArrivesRow.holds Try.pinned (OpenSpec.ofChange fnExactMixedArrivesWrong)

/- THE SECOND FORM. 'bulk': how many values and letters a reading holds, each counted each time it is reached (what is shared counts as often as it is met; a slice's spare places count too). A statement '..UptoSaid' is the law's where the arguments, and the package variables that the reading takes, are together of bulk at most 1048576: NARROWER than '..Said'. Prove '..Said' where nothing that the law and all that it calls make is longer than what came in: it says more and counts as full. Else prove '..UptoSaid'. A law counts once. -/
mutual
def uptoBulk {H : Type} : DataW H → Nat
  | .lit (.string bytes) => bytes.length + 1
  | .lit _ => 1
  | .nil => 1
  | .ptr d => uptoBulk d + 1
  | .slice elems spare => uptoBulkAll elems + uptoBulkAll spare + 1
  | .agg parts => uptoBulkAll parts + 1
  | .iface _ d => uptoBulk d + 1
  | .map entries => uptoBulkEntries entries + 1
  | .held _ => 1
def uptoBulkAll {H : Type} : List (DataW H) → Nat
  | [] => 0
  | d :: r => uptoBulk d + uptoBulkAll r
def uptoBulkEntries {H : Type} : List (Lit × DataW H) → Nat
  | [] => 0
  | x :: r => uptoBulkEntry x + uptoBulkEntries r
def uptoBulkEntry {H : Type} : Lit × DataW H → Nat
  | (.string bytes, d) => bytes.length + uptoBulk d + 1
  | (_, d) => uptoBulk d + 1
 end
def uptoSmall : (H : Type) → List (DataW H) → Bool := fun _ ds => decide (uptoBulkAll ds ≤ 1048576)
def OpenSpec.upto (s : _root_.Go.ChangeSpec) : _root_.Go.OpenSpec := { _root_.Go.OpenSpec.ofChange s with cond := some uptoSmall }

/-- 'laws.FnNoLoop', WHERE WHAT IT READS IS OF BULK AT MOST 1048576: true; the input reads as it did. -/
def fnNoLoopUptoRow : OpenClaim := { program := "ytkcnbgimdiggoab", sum := "b00523a8448c70140cd834095be6bebcbf6a6bd7443a763fa3de29d8d38eb455", func := "loop.example/linkstaterouting/laws.FnNoLoop", spec := "fnNoLoop", unfollowed := true, recurses := true, apart := false, narrowed := true }
def FnNoLoopUptoSaid : Prop := fnNoLoopUptoRow.holds Try.pinned (OpenSpec.upto fnNoLoopSpec)

/-- 'laws.FnLoopNodes', WHERE WHAT IT READS IS OF BULK AT MOST 1048576: true; the input reads as it did. -/
def fnLoopNodesUptoRow : OpenClaim := { program := "ytkcnbgimdiggoab", sum := "b00523a8448c70140cd834095be6bebcbf6a6bd7443a763fa3de29d8d38eb455", func := "loop.example/linkstaterouting/laws.FnLoopNodes", spec := "fnLoopNodes", unfollowed := true, recurses := true, apart := false, narrowed := true }
def FnLoopNodesUptoSaid : Prop := fnLoopNodesUptoRow.holds Try.pinned (OpenSpec.upto fnLoopNodesSpec)

/-- 'laws.FnArrivesAll', WHERE WHAT IT READS IS OF BULK AT MOST 1048576: true; the input reads as it did. -/
def fnArrivesAllUptoRow : OpenClaim := { program := "ytkcnbgimdiggoab", sum := "b00523a8448c70140cd834095be6bebcbf6a6bd7443a763fa3de29d8d38eb455", func := "loop.example/linkstaterouting/laws.FnArrivesAll", spec := "fnArrivesAll", unfollowed := true, recurses := true, apart := false, narrowed := true }
def FnArrivesAllUptoSaid : Prop := fnArrivesAllUptoRow.holds Try.pinned (OpenSpec.upto fnArrivesAllSpec)

/-- 'laws.FnArrivesSome', WHERE WHAT IT READS IS OF BULK AT MOST 1048576: true; the input reads as it did. -/
def fnArrivesSomeUptoRow : OpenClaim := { program := "ytkcnbgimdiggoab", sum := "b00523a8448c70140cd834095be6bebcbf6a6bd7443a763fa3de29d8d38eb455", func := "loop.example/linkstaterouting/laws.FnArrivesSome", spec := "fnArrivesSome", unfollowed := true, recurses := true, apart := false, narrowed := true }
def FnArrivesSomeUptoSaid : Prop := fnArrivesSomeUptoRow.holds Try.pinned (OpenSpec.upto fnArrivesSomeSpec)

/-- 'laws.FnArrivesNoLoop', WHERE WHAT IT READS IS OF BULK AT MOST 1048576: true; the input reads as it did. -/
def fnArrivesNoLoopUptoRow : OpenClaim := { program := "ytkcnbgimdiggoab", sum := "b00523a8448c70140cd834095be6bebcbf6a6bd7443a763fa3de29d8d38eb455", func := "loop.example/linkstaterouting/laws.FnArrivesNoLoop", spec := "fnArrivesNoLoop", unfollowed := true, recurses := true, apart := false, narrowed := true }
def FnArrivesNoLoopUptoSaid : Prop := fnArrivesNoLoopUptoRow.holds Try.pinned (OpenSpec.upto fnArrivesNoLoopSpec)

/-- 'laws.FnArrivesMore', WHERE WHAT IT READS IS OF BULK AT MOST 1048576: true; the input reads as it did. -/
def fnArrivesMoreUptoRow : OpenClaim := { program := "ytkcnbgimdiggoab", sum := "b00523a8448c70140cd834095be6bebcbf6a6bd7443a763fa3de29d8d38eb455", func := "loop.example/linkstaterouting/laws.FnArrivesMore", spec := "fnArrivesMore", unfollowed := true, recurses := true, apart := false, narrowed := true }
def FnArrivesMoreUptoSaid : Prop := fnArrivesMoreUptoRow.holds Try.pinned (OpenSpec.upto fnArrivesMoreSpec)

/-- 'laws.FnExactMixedLoop', WHERE WHAT IT READS IS OF BULK AT MOST 1048576: true; the input reads as it did. -/
def fnExactMixedLoopUptoRow : OpenClaim := { program := "ytkcnbgimdiggoab", sum := "b00523a8448c70140cd834095be6bebcbf6a6bd7443a763fa3de29d8d38eb455", func := "loop.example/linkstaterouting/laws.FnExactMixedLoop", spec := "fnExactMixedLoop", unfollowed := true, recurses := true, apart := false, narrowed := true }
def FnExactMixedLoopUptoSaid : Prop := fnExactMixedLoopUptoRow.holds Try.pinned (OpenSpec.upto fnExactMixedLoopSpec)

/-- 'laws.FnExactMixedArrives', WHERE WHAT IT READS IS OF BULK AT MOST 1048576: true; the input reads as it did. -/
def fnExactMixedArrivesUptoRow : OpenClaim := { program := "ytkcnbgimdiggoab", sum := "b00523a8448c70140cd834095be6bebcbf6a6bd7443a763fa3de29d8d38eb455", func := "loop.example/linkstaterouting/laws.FnExactMixedArrives", spec := "fnExactMixedArrives", unfollowed := true, recurses := true, apart := false, narrowed := true }
def FnExactMixedArrivesUptoSaid : Prop := fnExactMixedArrivesUptoRow.holds Try.pinned (OpenSpec.upto fnExactMixedArrivesSpec)

end Rows
end Go.Proofs.Ytkcnbgimdiggoab
