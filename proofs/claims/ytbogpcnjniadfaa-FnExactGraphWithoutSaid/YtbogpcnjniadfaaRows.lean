/-
  No cell of these rows narrows 'for every input' (looked for: loops, veiled, ifaces, maps, wideKeys, modest, calm, conditions, laid).
  DERIVED. THE GIVEN ROWS OF THIS SEAT. 12 by the template 'for every input the law returns true; each argument reads behind the call as it read before'; 0 by the template 'total and deterministic' (their statements: YtbogpcnjniadfaaTotals.lean).
  GIVEN WITH THE SEED: the statements are not yours to turn. If you find one false, say at which input.
  Laid BY PROGRAM, IN A SANDBOX (cutbox-rows.mjs): the forced cells as the released guide's own fill.sh prints them over the translation 1aa6343b6dfa8b84… (all of the seat's roots in one cut). By AI agents, Wed Nov 11 2026. No macro, syntax, notation, axiom, sorry.
-/
import Derived.Test.YtbogpcnjniadfaaChecked
import GoSem.Claim
import GoSem.ClaimJoined
import GoSem.ClaimMapViews
import Derived.JoinedTies
import Derived.KernelRfl
namespace Go.Proofs.Ytbogpcnjniadfaa
/- THE CELL 'sum', in the pinned program and in every row, IS THE sha256 OF THE DUMP (.gsa) THAT YtbogpcnjniadfaaProg.lean LOADS. Nothing in Lean hashes anything: it is a label: what it is worth is what the hold of that sum in a sandbox is worth. -/
noncomputable def Try.pinned : Pinned := { name := "ytbogpcnjniadfaa", sum := "1aa6343b6dfa8b84e39970936a6ceef147106a09e06f5e0a79feff01cdd93c30", checked := Try.checked }
namespace Rows
def none {H : Type} : Left H := { results := [], args := [] }

/-- 'laws.FnExactGraphValid': WHATEVER THE INPUT: true; the input reads as it did. -/
def fnExactGraphValidSpec : ChangeSpec := { name := "fnExactGraphValid", fn := fun _ => fun
  | [d] => { results := [.lit (.bool true)], args := [d] }
  | _ => none }
def fnExactGraphValidRow : OpenClaim := { program := "ytbogpcnjniadfaa", sum := "1aa6343b6dfa8b84e39970936a6ceef147106a09e06f5e0a79feff01cdd93c30", func := "loop.example/linkstaterouting/laws.FnExactGraphValid", spec := "fnExactGraphValid", apart := false }
def FnExactGraphValidSaid : Prop := fnExactGraphValidRow.holds Try.pinned (OpenSpec.ofChange fnExactGraphValidSpec)

/-- ITS FALSE NEIGHBOUR: 'it returns false'. Refute it at one input. -/
def fnExactGraphValidWrong : ChangeSpec := { name := "fnExactGraphValid", fn := fun _ => fun
  | [d] => { results := [.lit (.bool false)], args := [d] }
  | _ => none }
def FnExactGraphValidWrongFalsely : Prop := fnExactGraphValidRow.holds Try.pinned (OpenSpec.ofChange fnExactGraphValidWrong)

/-- 'laws.FnExactGraphLink': WHATEVER THE INPUT: true; the input reads as it did. -/
def fnExactGraphLinkSpec : ChangeSpec := { name := "fnExactGraphLink", fn := fun _ => fun
  | [d1, d2, d3] => { results := [.lit (.bool true)], args := [d1, d2, d3] }
  | _ => none }
def fnExactGraphLinkRow : OpenClaim := { program := "ytbogpcnjniadfaa", sum := "1aa6343b6dfa8b84e39970936a6ceef147106a09e06f5e0a79feff01cdd93c30", func := "loop.example/linkstaterouting/laws.FnExactGraphLink", spec := "fnExactGraphLink", unfollowed := true, recurses := true, apart := false }
def FnExactGraphLinkSaid : Prop := fnExactGraphLinkRow.holds Try.pinned (OpenSpec.ofChange fnExactGraphLinkSpec)

/-- ITS FALSE NEIGHBOUR: 'it returns false'. Refute it at one input. -/
def fnExactGraphLinkWrong : ChangeSpec := { name := "fnExactGraphLink", fn := fun _ => fun
  | [d1, d2, d3] => { results := [.lit (.bool false)], args := [d1, d2, d3] }
  | _ => none }
def FnExactGraphLinkWrongFalsely : Prop := fnExactGraphLinkRow.holds Try.pinned (OpenSpec.ofChange fnExactGraphLinkWrong)

/-- 'laws.FnExactGraphNeighbours': WHATEVER THE INPUT: true; the input reads as it did. -/
def fnExactGraphNeighboursSpec : ChangeSpec := { name := "fnExactGraphNeighbours", fn := fun _ => fun
  | [d1, d2] => { results := [.lit (.bool true)], args := [d1, d2] }
  | _ => none }
def fnExactGraphNeighboursRow : OpenClaim := { program := "ytbogpcnjniadfaa", sum := "1aa6343b6dfa8b84e39970936a6ceef147106a09e06f5e0a79feff01cdd93c30", func := "loop.example/linkstaterouting/laws.FnExactGraphNeighbours", spec := "fnExactGraphNeighbours", unfollowed := true, recurses := true, apart := false }
def FnExactGraphNeighboursSaid : Prop := fnExactGraphNeighboursRow.holds Try.pinned (OpenSpec.ofChange fnExactGraphNeighboursSpec)

/-- ITS FALSE NEIGHBOUR: 'it returns false'. Refute it at one input. -/
def fnExactGraphNeighboursWrong : ChangeSpec := { name := "fnExactGraphNeighbours", fn := fun _ => fun
  | [d1, d2] => { results := [.lit (.bool false)], args := [d1, d2] }
  | _ => none }
def FnExactGraphNeighboursWrongFalsely : Prop := fnExactGraphNeighboursRow.holds Try.pinned (OpenSpec.ofChange fnExactGraphNeighboursWrong)

/-- 'laws.FnExactGraphWithout': WHATEVER THE INPUT: true; the input reads as it did. -/
def fnExactGraphWithoutSpec : ChangeSpec := { name := "fnExactGraphWithout", fn := fun _ => fun
  | [d1, d2] => { results := [.lit (.bool true)], args := [d1, d2] }
  | _ => none }
def fnExactGraphWithoutRow : OpenClaim := { program := "ytbogpcnjniadfaa", sum := "1aa6343b6dfa8b84e39970936a6ceef147106a09e06f5e0a79feff01cdd93c30", func := "loop.example/linkstaterouting/laws.FnExactGraphWithout", spec := "fnExactGraphWithout", unfollowed := true, recurses := true, apart := false }
def FnExactGraphWithoutSaid : Prop := fnExactGraphWithoutRow.holds Try.pinned (OpenSpec.ofChange fnExactGraphWithoutSpec)

/-- ITS FALSE NEIGHBOUR: 'it returns false'. Refute it at one input. -/
def fnExactGraphWithoutWrong : ChangeSpec := { name := "fnExactGraphWithout", fn := fun _ => fun
  | [d1, d2] => { results := [.lit (.bool false)], args := [d1, d2] }
  | _ => none }
def FnExactGraphWithoutWrongFalsely : Prop := fnExactGraphWithoutRow.holds Try.pinned (OpenSpec.ofChange fnExactGraphWithoutWrong)

/-- 'laws.FnExactGraphIsolate': WHATEVER THE INPUT: true; the input reads as it did. -/
def fnExactGraphIsolateSpec : ChangeSpec := { name := "fnExactGraphIsolate", fn := fun _ => fun
  | [d1, d2] => { results := [.lit (.bool true)], args := [d1, d2] }
  | _ => none }
def fnExactGraphIsolateRow : OpenClaim := { program := "ytbogpcnjniadfaa", sum := "1aa6343b6dfa8b84e39970936a6ceef147106a09e06f5e0a79feff01cdd93c30", func := "loop.example/linkstaterouting/laws.FnExactGraphIsolate", spec := "fnExactGraphIsolate", unfollowed := true, recurses := true, apart := false }
def FnExactGraphIsolateSaid : Prop := fnExactGraphIsolateRow.holds Try.pinned (OpenSpec.ofChange fnExactGraphIsolateSpec)

/-- ITS FALSE NEIGHBOUR: 'it returns false'. Refute it at one input. -/
def fnExactGraphIsolateWrong : ChangeSpec := { name := "fnExactGraphIsolate", fn := fun _ => fun
  | [d1, d2] => { results := [.lit (.bool false)], args := [d1, d2] }
  | _ => none }
def FnExactGraphIsolateWrongFalsely : Prop := fnExactGraphIsolateRow.holds Try.pinned (OpenSpec.ofChange fnExactGraphIsolateWrong)

/-- 'laws.FnExactGraphCost': WHATEVER THE INPUT: true; the input reads as it did. -/
def fnExactGraphCostSpec : ChangeSpec := { name := "fnExactGraphCost", fn := fun _ => fun
  | [d1, d2, d3] => { results := [.lit (.bool true)], args := [d1, d2, d3] }
  | _ => none }
def fnExactGraphCostRow : OpenClaim := { program := "ytbogpcnjniadfaa", sum := "1aa6343b6dfa8b84e39970936a6ceef147106a09e06f5e0a79feff01cdd93c30", func := "loop.example/linkstaterouting/laws.FnExactGraphCost", spec := "fnExactGraphCost", apart := false }
def FnExactGraphCostSaid : Prop := fnExactGraphCostRow.holds Try.pinned (OpenSpec.ofChange fnExactGraphCostSpec)

/-- ITS FALSE NEIGHBOUR: 'it returns false'. Refute it at one input. -/
def fnExactGraphCostWrong : ChangeSpec := { name := "fnExactGraphCost", fn := fun _ => fun
  | [d1, d2, d3] => { results := [.lit (.bool false)], args := [d1, d2, d3] }
  | _ => none }
def FnExactGraphCostWrongFalsely : Prop := fnExactGraphCostRow.holds Try.pinned (OpenSpec.ofChange fnExactGraphCostWrong)

/-- 'laws.FnExactGraphReach': WHATEVER THE INPUT: true; the input reads as it did. -/
def fnExactGraphReachSpec : ChangeSpec := { name := "fnExactGraphReach", fn := fun _ => fun
  | [d1, d2] => { results := [.lit (.bool true)], args := [d1, d2] }
  | _ => none }
def fnExactGraphReachRow : OpenClaim := { program := "ytbogpcnjniadfaa", sum := "1aa6343b6dfa8b84e39970936a6ceef147106a09e06f5e0a79feff01cdd93c30", func := "loop.example/linkstaterouting/laws.FnExactGraphReach", spec := "fnExactGraphReach", unfollowed := true, recurses := true, apart := false }
def FnExactGraphReachSaid : Prop := fnExactGraphReachRow.holds Try.pinned (OpenSpec.ofChange fnExactGraphReachSpec)

/-- ITS FALSE NEIGHBOUR: 'it returns false'. Refute it at one input. -/
def fnExactGraphReachWrong : ChangeSpec := { name := "fnExactGraphReach", fn := fun _ => fun
  | [d1, d2] => { results := [.lit (.bool false)], args := [d1, d2] }
  | _ => none }
def FnExactGraphReachWrongFalsely : Prop := fnExactGraphReachRow.holds Try.pinned (OpenSpec.ofChange fnExactGraphReachWrong)

/-- 'laws.FnLinkBoth': WHATEVER THE INPUT: true; the input reads as it did. -/
def fnLinkBothSpec : ChangeSpec := { name := "fnLinkBoth", fn := fun _ => fun
  | [d] => { results := [.lit (.bool true)], args := [d] }
  | _ => none }
def fnLinkBothRow : OpenClaim := { program := "ytbogpcnjniadfaa", sum := "1aa6343b6dfa8b84e39970936a6ceef147106a09e06f5e0a79feff01cdd93c30", func := "loop.example/linkstaterouting/laws.FnLinkBoth", spec := "fnLinkBoth", unfollowed := true, recurses := true, apart := false }
def FnLinkBothSaid : Prop := fnLinkBothRow.holds Try.pinned (OpenSpec.ofChange fnLinkBothSpec)

/-- ITS FALSE NEIGHBOUR: 'it returns false'. Refute it at one input. -/
def fnLinkBothWrong : ChangeSpec := { name := "fnLinkBoth", fn := fun _ => fun
  | [d] => { results := [.lit (.bool false)], args := [d] }
  | _ => none }
def FnLinkBothWrongFalsely : Prop := fnLinkBothRow.holds Try.pinned (OpenSpec.ofChange fnLinkBothWrong)

/-- 'laws.FnNeighbours': WHATEVER THE INPUT: true; the input reads as it did. -/
def fnNeighboursSpec : ChangeSpec := { name := "fnNeighbours", fn := fun _ => fun
  | [d] => { results := [.lit (.bool true)], args := [d] }
  | _ => none }
def fnNeighboursRow : OpenClaim := { program := "ytbogpcnjniadfaa", sum := "1aa6343b6dfa8b84e39970936a6ceef147106a09e06f5e0a79feff01cdd93c30", func := "loop.example/linkstaterouting/laws.FnNeighbours", spec := "fnNeighbours", unfollowed := true, recurses := true, apart := false }
def FnNeighboursSaid : Prop := fnNeighboursRow.holds Try.pinned (OpenSpec.ofChange fnNeighboursSpec)

/-- ITS FALSE NEIGHBOUR: 'it returns false'. Refute it at one input. -/
def fnNeighboursWrong : ChangeSpec := { name := "fnNeighbours", fn := fun _ => fun
  | [d] => { results := [.lit (.bool false)], args := [d] }
  | _ => none }
def FnNeighboursWrongFalsely : Prop := fnNeighboursRow.holds Try.pinned (OpenSpec.ofChange fnNeighboursWrong)

/-- 'laws.FnNeighboursSum': WHATEVER THE INPUT: true; the input reads as it did. -/
def fnNeighboursSumSpec : ChangeSpec := { name := "fnNeighboursSum", fn := fun _ => fun
  | [d] => { results := [.lit (.bool true)], args := [d] }
  | _ => none }
def fnNeighboursSumRow : OpenClaim := { program := "ytbogpcnjniadfaa", sum := "1aa6343b6dfa8b84e39970936a6ceef147106a09e06f5e0a79feff01cdd93c30", func := "loop.example/linkstaterouting/laws.FnNeighboursSum", spec := "fnNeighboursSum", unfollowed := true, recurses := true, apart := false }
def FnNeighboursSumSaid : Prop := fnNeighboursSumRow.holds Try.pinned (OpenSpec.ofChange fnNeighboursSumSpec)

/-- ITS FALSE NEIGHBOUR: 'it returns false'. Refute it at one input. -/
def fnNeighboursSumWrong : ChangeSpec := { name := "fnNeighboursSum", fn := fun _ => fun
  | [d] => { results := [.lit (.bool false)], args := [d] }
  | _ => none }
def FnNeighboursSumWrongFalsely : Prop := fnNeighboursSumRow.holds Try.pinned (OpenSpec.ofChange fnNeighboursSumWrong)

/-- 'laws.FnIsolate': WHATEVER THE INPUT: true; the input reads as it did. -/
def fnIsolateSpec : ChangeSpec := { name := "fnIsolate", fn := fun _ => fun
  | [d] => { results := [.lit (.bool true)], args := [d] }
  | _ => none }
def fnIsolateRow : OpenClaim := { program := "ytbogpcnjniadfaa", sum := "1aa6343b6dfa8b84e39970936a6ceef147106a09e06f5e0a79feff01cdd93c30", func := "loop.example/linkstaterouting/laws.FnIsolate", spec := "fnIsolate", unfollowed := true, recurses := true, apart := false }
def FnIsolateSaid : Prop := fnIsolateRow.holds Try.pinned (OpenSpec.ofChange fnIsolateSpec)

/-- ITS FALSE NEIGHBOUR: 'it returns false'. Refute it at one input. -/
def fnIsolateWrong : ChangeSpec := { name := "fnIsolate", fn := fun _ => fun
  | [d] => { results := [.lit (.bool false)], args := [d] }
  | _ => none }
def FnIsolateWrongFalsely : Prop := fnIsolateRow.holds Try.pinned (OpenSpec.ofChange fnIsolateWrong)

/-- 'laws.FnIsolateReach': WHATEVER THE INPUT: true; the input reads as it did. -/
def fnIsolateReachSpec : ChangeSpec := { name := "fnIsolateReach", fn := fun _ => fun
  | [d] => { results := [.lit (.bool true)], args := [d] }
  | _ => none }
def fnIsolateReachRow : OpenClaim := { program := "ytbogpcnjniadfaa", sum := "1aa6343b6dfa8b84e39970936a6ceef147106a09e06f5e0a79feff01cdd93c30", func := "loop.example/linkstaterouting/laws.FnIsolateReach", spec := "fnIsolateReach", unfollowed := true, recurses := true, apart := false }
def FnIsolateReachSaid : Prop := fnIsolateReachRow.holds Try.pinned (OpenSpec.ofChange fnIsolateReachSpec)

/-- ITS FALSE NEIGHBOUR: 'it returns false'. Refute it at one input. -/
def fnIsolateReachWrong : ChangeSpec := { name := "fnIsolateReach", fn := fun _ => fun
  | [d] => { results := [.lit (.bool false)], args := [d] }
  | _ => none }
def FnIsolateReachWrongFalsely : Prop := fnIsolateReachRow.holds Try.pinned (OpenSpec.ofChange fnIsolateReachWrong)

/- THE SECOND FORM. 'bulk': how many values and letters a reading holds, each counted each time it is reached (what is shared counts as often as it is met; a slice's spare places count too). A statement '..UptoSaid' is the law's where the arguments, and the package variables that the reading takes, are together of bulk at most 1048576: NARROWER than '..Said'. Prove '..Said' where nothing that the law and all that it calls make is longer than what came in: it says more and counts as full. Else prove '..UptoSaid'. A law counts once. -/
mutual
def uptoBulk {H : Type} : DataW H → Nat
  | .lit (.string bytes) => bytes.length + 1
  | .lit _ => 1
  | .nil => 1
  | .ptr d => uptoBulk d + 1
  | .slice elems spare => uptoBulkAll elems + uptoBulkAll spare + 1
  | .agg parts => uptoBulkAll parts + 1
  | .iface _ d => uptoBulk d + 1
  | .map entries => uptoBulkEntries entries + 1
  | .held _ => 1
def uptoBulkAll {H : Type} : List (DataW H) → Nat
  | [] => 0
  | d :: r => uptoBulk d + uptoBulkAll r
def uptoBulkEntries {H : Type} : List (Lit × DataW H) → Nat
  | [] => 0
  | x :: r => uptoBulkEntry x + uptoBulkEntries r
def uptoBulkEntry {H : Type} : Lit × DataW H → Nat
  | (.string bytes, d) => bytes.length + uptoBulk d + 1
  | (_, d) => uptoBulk d + 1
 end
def uptoSmall : (H : Type) → List (DataW H) → Bool := fun _ ds => decide (uptoBulkAll ds ≤ 1048576)
def OpenSpec.upto (s : _root_.Go.ChangeSpec) : _root_.Go.OpenSpec := { _root_.Go.OpenSpec.ofChange s with cond := some uptoSmall }

/-- 'laws.FnExactGraphValid', WHERE WHAT IT READS IS OF BULK AT MOST 1048576: true; the input reads as it did. -/
def fnExactGraphValidUptoRow : OpenClaim := { program := "ytbogpcnjniadfaa", sum := "1aa6343b6dfa8b84e39970936a6ceef147106a09e06f5e0a79feff01cdd93c30", func := "loop.example/linkstaterouting/laws.FnExactGraphValid", spec := "fnExactGraphValid", apart := false, narrowed := true }
def FnExactGraphValidUptoSaid : Prop := fnExactGraphValidUptoRow.holds Try.pinned (OpenSpec.upto fnExactGraphValidSpec)

/-- 'laws.FnExactGraphLink', WHERE WHAT IT READS IS OF BULK AT MOST 1048576: true; the input reads as it did. -/
def fnExactGraphLinkUptoRow : OpenClaim := { program := "ytbogpcnjniadfaa", sum := "1aa6343b6dfa8b84e39970936a6ceef147106a09e06f5e0a79feff01cdd93c30", func := "loop.example/linkstaterouting/laws.FnExactGraphLink", spec := "fnExactGraphLink", unfollowed := true, recurses := true, apart := false, narrowed := true }
def FnExactGraphLinkUptoSaid : Prop := fnExactGraphLinkUptoRow.holds Try.pinned (OpenSpec.upto fnExactGraphLinkSpec)

/-- 'laws.FnExactGraphNeighbours', WHERE WHAT IT READS IS OF BULK AT MOST 1048576: true; the input reads as it did. -/
def fnExactGraphNeighboursUptoRow : OpenClaim := { program := "ytbogpcnjniadfaa", sum := "1aa6343b6dfa8b84e39970936a6ceef147106a09e06f5e0a79feff01cdd93c30", func := "loop.example/linkstaterouting/laws.FnExactGraphNeighbours", spec := "fnExactGraphNeighbours", unfollowed := true, recurses := true, apart := false, narrowed := true }
def FnExactGraphNeighboursUptoSaid : Prop := fnExactGraphNeighboursUptoRow.holds Try.pinned (OpenSpec.upto fnExactGraphNeighboursSpec)

/-- 'laws.FnExactGraphWithout', WHERE WHAT IT READS IS OF BULK AT MOST 1048576: true; the input reads as it did. -/
def fnExactGraphWithoutUptoRow : OpenClaim := { program := "ytbogpcnjniadfaa", sum := "1aa6343b6dfa8b84e39970936a6ceef147106a09e06f5e0a79feff01cdd93c30", func := "loop.example/linkstaterouting/laws.FnExactGraphWithout", spec := "fnExactGraphWithout", unfollowed := true, recurses := true, apart := false, narrowed := true }
def FnExactGraphWithoutUptoSaid : Prop := fnExactGraphWithoutUptoRow.holds Try.pinned (OpenSpec.upto fnExactGraphWithoutSpec)

/-- 'laws.FnExactGraphIsolate', WHERE WHAT IT READS IS OF BULK AT MOST 1048576: true; the input reads as it did. -/
def fnExactGraphIsolateUptoRow : OpenClaim := { program := "ytbogpcnjniadfaa", sum := "1aa6343b6dfa8b84e39970936a6ceef147106a09e06f5e0a79feff01cdd93c30", func := "loop.example/linkstaterouting/laws.FnExactGraphIsolate", spec := "fnExactGraphIsolate", unfollowed := true, recurses := true, apart := false, narrowed := true }
def FnExactGraphIsolateUptoSaid : Prop := fnExactGraphIsolateUptoRow.holds Try.pinned (OpenSpec.upto fnExactGraphIsolateSpec)

/-- 'laws.FnExactGraphCost', WHERE WHAT IT READS IS OF BULK AT MOST 1048576: true; the input reads as it did. -/
def fnExactGraphCostUptoRow : OpenClaim := { program := "ytbogpcnjniadfaa", sum := "1aa6343b6dfa8b84e39970936a6ceef147106a09e06f5e0a79feff01cdd93c30", func := "loop.example/linkstaterouting/laws.FnExactGraphCost", spec := "fnExactGraphCost", apart := false, narrowed := true }
def FnExactGraphCostUptoSaid : Prop := fnExactGraphCostUptoRow.holds Try.pinned (OpenSpec.upto fnExactGraphCostSpec)

/-- 'laws.FnExactGraphReach', WHERE WHAT IT READS IS OF BULK AT MOST 1048576: true; the input reads as it did. -/
def fnExactGraphReachUptoRow : OpenClaim := { program := "ytbogpcnjniadfaa", sum := "1aa6343b6dfa8b84e39970936a6ceef147106a09e06f5e0a79feff01cdd93c30", func := "loop.example/linkstaterouting/laws.FnExactGraphReach", spec := "fnExactGraphReach", unfollowed := true, recurses := true, apart := false, narrowed := true }
def FnExactGraphReachUptoSaid : Prop := fnExactGraphReachUptoRow.holds Try.pinned (OpenSpec.upto fnExactGraphReachSpec)

/-- 'laws.FnLinkBoth', WHERE WHAT IT READS IS OF BULK AT MOST 1048576: true; the input reads as it did. -/
def fnLinkBothUptoRow : OpenClaim := { program := "ytbogpcnjniadfaa", sum := "1aa6343b6dfa8b84e39970936a6ceef147106a09e06f5e0a79feff01cdd93c30", func := "loop.example/linkstaterouting/laws.FnLinkBoth", spec := "fnLinkBoth", unfollowed := true, recurses := true, apart := false, narrowed := true }
def FnLinkBothUptoSaid : Prop := fnLinkBothUptoRow.holds Try.pinned (OpenSpec.upto fnLinkBothSpec)

/-- 'laws.FnNeighbours', WHERE WHAT IT READS IS OF BULK AT MOST 1048576: true; the input reads as it did. -/
def fnNeighboursUptoRow : OpenClaim := { program := "ytbogpcnjniadfaa", sum := "1aa6343b6dfa8b84e39970936a6ceef147106a09e06f5e0a79feff01cdd93c30", func := "loop.example/linkstaterouting/laws.FnNeighbours", spec := "fnNeighbours", unfollowed := true, recurses := true, apart := false, narrowed := true }
def FnNeighboursUptoSaid : Prop := fnNeighboursUptoRow.holds Try.pinned (OpenSpec.upto fnNeighboursSpec)

/-- 'laws.FnNeighboursSum', WHERE WHAT IT READS IS OF BULK AT MOST 1048576: true; the input reads as it did. -/
def fnNeighboursSumUptoRow : OpenClaim := { program := "ytbogpcnjniadfaa", sum := "1aa6343b6dfa8b84e39970936a6ceef147106a09e06f5e0a79feff01cdd93c30", func := "loop.example/linkstaterouting/laws.FnNeighboursSum", spec := "fnNeighboursSum", unfollowed := true, recurses := true, apart := false, narrowed := true }
def FnNeighboursSumUptoSaid : Prop := fnNeighboursSumUptoRow.holds Try.pinned (OpenSpec.upto fnNeighboursSumSpec)

/-- 'laws.FnIsolate', WHERE WHAT IT READS IS OF BULK AT MOST 1048576: true; the input reads as it did. -/
def fnIsolateUptoRow : OpenClaim := { program := "ytbogpcnjniadfaa", sum := "1aa6343b6dfa8b84e39970936a6ceef147106a09e06f5e0a79feff01cdd93c30", func := "loop.example/linkstaterouting/laws.FnIsolate", spec := "fnIsolate", unfollowed := true, recurses := true, apart := false, narrowed := true }
def FnIsolateUptoSaid : Prop := fnIsolateUptoRow.holds Try.pinned (OpenSpec.upto fnIsolateSpec)

/-- 'laws.FnIsolateReach', WHERE WHAT IT READS IS OF BULK AT MOST 1048576: true; the input reads as it did. -/
def fnIsolateReachUptoRow : OpenClaim := { program := "ytbogpcnjniadfaa", sum := "1aa6343b6dfa8b84e39970936a6ceef147106a09e06f5e0a79feff01cdd93c30", func := "loop.example/linkstaterouting/laws.FnIsolateReach", spec := "fnIsolateReach", unfollowed := true, recurses := true, apart := false, narrowed := true }
def FnIsolateReachUptoSaid : Prop := fnIsolateReachUptoRow.holds Try.pinned (OpenSpec.upto fnIsolateReachSpec)

end Rows
end Go.Proofs.Ytbogpcnjniadfaa
