/-
  No cell of these rows narrows 'for every input' (looked for: loops, veiled, ifaces, maps, wideKeys, modest, calm, conditions, laid).
  DERIVED. THE GIVEN ROWS OF THIS SEAT. 9 by the template 'for every input the law returns true; each argument reads behind the call as it read before'; 0 by the template 'total and deterministic' (their statements: YtblmmmeeljidiabTotals.lean).
  GIVEN WITH THE SEED: the statements are not yours to turn. If you find one false, say at which input.
  Laid BY PROGRAM, IN A SANDBOX (cutbox-rows.mjs): the forced cells as the released guide's own fill.sh prints them over the translation b8318bbff6cce868… (all of the seat's roots in one cut). By AI agents, Wed Nov 11 2026. No macro, syntax, notation, axiom, sorry.
-/
import Derived.Test.YtblmmmeeljidiabChecked
import GoSem.Claim
import GoSem.ClaimJoined
import GoSem.ClaimMapViews
import Derived.JoinedTies
import Derived.KernelRfl
namespace Go.Proofs.Ytblmmmeeljidiab
/- THE CELL 'sum', in the pinned program and in every row, IS THE sha256 OF THE DUMP (.gsa) THAT YtblmmmeeljidiabProg.lean LOADS. Nothing in Lean hashes anything: it is a label: what it is worth is what the hold of that sum in a sandbox is worth. -/
noncomputable def Try.pinned : Pinned := { name := "ytblmmmeeljidiab", sum := "b8318bbff6cce86896336d0906f54a0301949d0b63f7b219f03d7b42c977f446", checked := Try.checked }
namespace Rows
def none {H : Type} : Left H := { results := [], args := [] }

/-- 'laws.FnStackParts': WHATEVER THE INPUT: true; the input reads as it did. -/
def fnStackPartsSpec : ChangeSpec := { name := "fnStackParts", fn := fun _ => fun
  | [d1, d2] => { results := [.lit (.bool true)], args := [d1, d2] }
  | _ => none }
def fnStackPartsRow : OpenClaim := { program := "ytblmmmeeljidiab", sum := "b8318bbff6cce86896336d0906f54a0301949d0b63f7b219f03d7b42c977f446", func := "loop.example/linkstaterouting/laws.FnStackParts", spec := "fnStackParts", unfollowed := true, recurses := true, apart := false }
def FnStackPartsSaid : Prop := fnStackPartsRow.holds Try.pinned (OpenSpec.ofChange fnStackPartsSpec)

/-- ITS FALSE NEIGHBOUR: 'it returns false'. Refute it at one input. -/
def fnStackPartsWrong : ChangeSpec := { name := "fnStackParts", fn := fun _ => fun
  | [d1, d2] => { results := [.lit (.bool false)], args := [d1, d2] }
  | _ => none }
def FnStackPartsWrongFalsely : Prop := fnStackPartsRow.holds Try.pinned (OpenSpec.ofChange fnStackPartsWrong)

/-- 'laws.FnStackCost': WHATEVER THE INPUT: true; the input reads as it did. -/
def fnStackCostSpec : ChangeSpec := { name := "fnStackCost", fn := fun _ => fun
  | [d] => { results := [.lit (.bool true)], args := [d] }
  | _ => none }
def fnStackCostRow : OpenClaim := { program := "ytblmmmeeljidiab", sum := "b8318bbff6cce86896336d0906f54a0301949d0b63f7b219f03d7b42c977f446", func := "loop.example/linkstaterouting/laws.FnStackCost", spec := "fnStackCost", unfollowed := true, recurses := true, apart := false }
def FnStackCostSaid : Prop := fnStackCostRow.holds Try.pinned (OpenSpec.ofChange fnStackCostSpec)

/-- ITS FALSE NEIGHBOUR: 'it returns false'. Refute it at one input. -/
def fnStackCostWrong : ChangeSpec := { name := "fnStackCost", fn := fun _ => fun
  | [d] => { results := [.lit (.bool false)], args := [d] }
  | _ => none }
def FnStackCostWrongFalsely : Prop := fnStackCostRow.holds Try.pinned (OpenSpec.ofChange fnStackCostWrong)

/-- 'laws.FnStackCostLeast': WHATEVER THE INPUT: true; the input reads as it did. -/
def fnStackCostLeastSpec : ChangeSpec := { name := "fnStackCostLeast", fn := fun _ => fun
  | [d] => { results := [.lit (.bool true)], args := [d] }
  | _ => none }
def fnStackCostLeastRow : OpenClaim := { program := "ytblmmmeeljidiab", sum := "b8318bbff6cce86896336d0906f54a0301949d0b63f7b219f03d7b42c977f446", func := "loop.example/linkstaterouting/laws.FnStackCostLeast", spec := "fnStackCostLeast", unfollowed := true, recurses := true, apart := false }
def FnStackCostLeastSaid : Prop := fnStackCostLeastRow.holds Try.pinned (OpenSpec.ofChange fnStackCostLeastSpec)

/-- ITS FALSE NEIGHBOUR: 'it returns false'. Refute it at one input. -/
def fnStackCostLeastWrong : ChangeSpec := { name := "fnStackCostLeast", fn := fun _ => fun
  | [d] => { results := [.lit (.bool false)], args := [d] }
  | _ => none }
def FnStackCostLeastWrongFalsely : Prop := fnStackCostLeastRow.holds Try.pinned (OpenSpec.ofChange fnStackCostLeastWrong)

/-- 'laws.FnStackCrosses': WHATEVER THE INPUT: true; the input reads as it did. -/
def fnStackCrossesSpec : ChangeSpec := { name := "fnStackCrosses", fn := fun _ => fun
  | [d] => { results := [.lit (.bool true)], args := [d] }
  | _ => none }
def fnStackCrossesRow : OpenClaim := { program := "ytblmmmeeljidiab", sum := "b8318bbff6cce86896336d0906f54a0301949d0b63f7b219f03d7b42c977f446", func := "loop.example/linkstaterouting/laws.FnStackCrosses", spec := "fnStackCrosses", unfollowed := true, recurses := true, apart := false }
def FnStackCrossesSaid : Prop := fnStackCrossesRow.holds Try.pinned (OpenSpec.ofChange fnStackCrossesSpec)

/-- ITS FALSE NEIGHBOUR: 'it returns false'. Refute it at one input. -/
def fnStackCrossesWrong : ChangeSpec := { name := "fnStackCrosses", fn := fun _ => fun
  | [d] => { results := [.lit (.bool false)], args := [d] }
  | _ => none }
def FnStackCrossesWrongFalsely : Prop := fnStackCrossesRow.holds Try.pinned (OpenSpec.ofChange fnStackCrossesWrong)

/-- 'laws.FnStackNot': WHATEVER THE INPUT: true; the input reads as it did. -/
def fnStackNotSpec : ChangeSpec := { name := "fnStackNot", fn := fun _ => fun
  | [d] => { results := [.lit (.bool true)], args := [d] }
  | _ => none }
def fnStackNotRow : OpenClaim := { program := "ytblmmmeeljidiab", sum := "b8318bbff6cce86896336d0906f54a0301949d0b63f7b219f03d7b42c977f446", func := "loop.example/linkstaterouting/laws.FnStackNot", spec := "fnStackNot", unfollowed := true, recurses := true, apart := false }
def FnStackNotSaid : Prop := fnStackNotRow.holds Try.pinned (OpenSpec.ofChange fnStackNotSpec)

/-- ITS FALSE NEIGHBOUR: 'it returns false'. Refute it at one input. -/
def fnStackNotWrong : ChangeSpec := { name := "fnStackNot", fn := fun _ => fun
  | [d] => { results := [.lit (.bool false)], args := [d] }
  | _ => none }
def FnStackNotWrongFalsely : Prop := fnStackNotRow.holds Try.pinned (OpenSpec.ofChange fnStackNotWrong)

/-- 'laws.FnStackUnique': WHATEVER THE INPUT: true; the input reads as it did. -/
def fnStackUniqueSpec : ChangeSpec := { name := "fnStackUnique", fn := fun _ => fun
  | [d] => { results := [.lit (.bool true)], args := [d] }
  | _ => none }
def fnStackUniqueRow : OpenClaim := { program := "ytblmmmeeljidiab", sum := "b8318bbff6cce86896336d0906f54a0301949d0b63f7b219f03d7b42c977f446", func := "loop.example/linkstaterouting/laws.FnStackUnique", spec := "fnStackUnique", unfollowed := true, recurses := true, apart := false }
def FnStackUniqueSaid : Prop := fnStackUniqueRow.holds Try.pinned (OpenSpec.ofChange fnStackUniqueSpec)

/-- ITS FALSE NEIGHBOUR: 'it returns false'. Refute it at one input. -/
def fnStackUniqueWrong : ChangeSpec := { name := "fnStackUnique", fn := fun _ => fun
  | [d] => { results := [.lit (.bool false)], args := [d] }
  | _ => none }
def FnStackUniqueWrongFalsely : Prop := fnStackUniqueRow.holds Try.pinned (OpenSpec.ofChange fnStackUniqueWrong)

/-- 'laws.FnStackUniqueLinks': WHATEVER THE INPUT: true; the input reads as it did. -/
def fnStackUniqueLinksSpec : ChangeSpec := { name := "fnStackUniqueLinks", fn := fun _ => fun
  | [d] => { results := [.lit (.bool true)], args := [d] }
  | _ => none }
def fnStackUniqueLinksRow : OpenClaim := { program := "ytblmmmeeljidiab", sum := "b8318bbff6cce86896336d0906f54a0301949d0b63f7b219f03d7b42c977f446", func := "loop.example/linkstaterouting/laws.FnStackUniqueLinks", spec := "fnStackUniqueLinks", unfollowed := true, recurses := true, apart := false }
def FnStackUniqueLinksSaid : Prop := fnStackUniqueLinksRow.holds Try.pinned (OpenSpec.ofChange fnStackUniqueLinksSpec)

/-- ITS FALSE NEIGHBOUR: 'it returns false'. Refute it at one input. -/
def fnStackUniqueLinksWrong : ChangeSpec := { name := "fnStackUniqueLinks", fn := fun _ => fun
  | [d] => { results := [.lit (.bool false)], args := [d] }
  | _ => none }
def FnStackUniqueLinksWrongFalsely : Prop := fnStackUniqueLinksRow.holds Try.pinned (OpenSpec.ofChange fnStackUniqueLinksWrong)

/-- 'laws.FnStackBack': WHATEVER THE INPUT: true; the input reads as it did. -/
def fnStackBackSpec : ChangeSpec := { name := "fnStackBack", fn := fun _ => fun
  | [d] => { results := [.lit (.bool true)], args := [d] }
  | _ => none }
def fnStackBackRow : OpenClaim := { program := "ytblmmmeeljidiab", sum := "b8318bbff6cce86896336d0906f54a0301949d0b63f7b219f03d7b42c977f446", func := "loop.example/linkstaterouting/laws.FnStackBack", spec := "fnStackBack", unfollowed := true, recurses := true, apart := false }
def FnStackBackSaid : Prop := fnStackBackRow.holds Try.pinned (OpenSpec.ofChange fnStackBackSpec)

/-- ITS FALSE NEIGHBOUR: 'it returns false'. Refute it at one input. -/
def fnStackBackWrong : ChangeSpec := { name := "fnStackBack", fn := fun _ => fun
  | [d] => { results := [.lit (.bool false)], args := [d] }
  | _ => none }
def FnStackBackWrongFalsely : Prop := fnStackBackRow.holds Try.pinned (OpenSpec.ofChange fnStackBackWrong)

/-- 'laws.FnStackWays': WHATEVER THE INPUT: true; the input reads as it did. -/
def fnStackWaysSpec : ChangeSpec := { name := "fnStackWays", fn := fun _ => fun
  | [d] => { results := [.lit (.bool true)], args := [d] }
  | _ => none }
def fnStackWaysRow : OpenClaim := { program := "ytblmmmeeljidiab", sum := "b8318bbff6cce86896336d0906f54a0301949d0b63f7b219f03d7b42c977f446", func := "loop.example/linkstaterouting/laws.FnStackWays", spec := "fnStackWays", unfollowed := true, recurses := true, apart := false }
def FnStackWaysSaid : Prop := fnStackWaysRow.holds Try.pinned (OpenSpec.ofChange fnStackWaysSpec)

/-- ITS FALSE NEIGHBOUR: 'it returns false'. Refute it at one input. -/
def fnStackWaysWrong : ChangeSpec := { name := "fnStackWays", fn := fun _ => fun
  | [d] => { results := [.lit (.bool false)], args := [d] }
  | _ => none }
def FnStackWaysWrongFalsely : Prop := fnStackWaysRow.holds Try.pinned (OpenSpec.ofChange fnStackWaysWrong)

/- THE SECOND FORM. 'bulk': how many values and letters a reading holds, each counted each time it is reached (what is shared counts as often as it is met; a slice's spare places count too). A statement '..UptoSaid' is the law's where the arguments, and the package variables that the reading takes, are together of bulk at most 1048576: NARROWER than '..Said'. Prove '..Said' where nothing that the law and all that it calls make is longer than what came in: it says more and counts as full. Else prove '..UptoSaid'. A law counts once. -/
mutual
def uptoBulk {H : Type} : DataW H → Nat
  | .lit (.string bytes) => bytes.length + 1
  | .lit _ => 1
  | .nil => 1
  | .ptr d => uptoBulk d + 1
  | .slice elems spare => uptoBulkAll elems + uptoBulkAll spare + 1
  | .agg parts => uptoBulkAll parts + 1
  | .iface _ d => uptoBulk d + 1
  | .map entries => uptoBulkEntries entries + 1
  | .held _ => 1
def uptoBulkAll {H : Type} : List (DataW H) → Nat
  | [] => 0
  | d :: r => uptoBulk d + uptoBulkAll r
def uptoBulkEntries {H : Type} : List (Lit × DataW H) → Nat
  | [] => 0
  | x :: r => uptoBulkEntry x + uptoBulkEntries r
def uptoBulkEntry {H : Type} : Lit × DataW H → Nat
  | (.string bytes, d) => bytes.length + uptoBulk d + 1
  | (_, d) => uptoBulk d + 1
 end
def uptoSmall : (H : Type) → List (DataW H) → Bool := fun _ ds => decide (uptoBulkAll ds ≤ 1048576)
def OpenSpec.upto (s : _root_.Go.ChangeSpec) : _root_.Go.OpenSpec := { _root_.Go.OpenSpec.ofChange s with cond := some uptoSmall }

/-- 'laws.FnStackParts', WHERE WHAT IT READS IS OF BULK AT MOST 1048576: true; the input reads as it did. -/
def fnStackPartsUptoRow : OpenClaim := { program := "ytblmmmeeljidiab", sum := "b8318bbff6cce86896336d0906f54a0301949d0b63f7b219f03d7b42c977f446", func := "loop.example/linkstaterouting/laws.FnStackParts", spec := "fnStackParts", unfollowed := true, recurses := true, apart := false, narrowed := true }
def FnStackPartsUptoSaid : Prop := fnStackPartsUptoRow.holds Try.pinned (OpenSpec.upto fnStackPartsSpec)

/-- 'laws.FnStackCost', WHERE WHAT IT READS IS OF BULK AT MOST 1048576: true; the input reads as it did. -/
def fnStackCostUptoRow : OpenClaim := { program := "ytblmmmeeljidiab", sum := "b8318bbff6cce86896336d0906f54a0301949d0b63f7b219f03d7b42c977f446", func := "loop.example/linkstaterouting/laws.FnStackCost", spec := "fnStackCost", unfollowed := true, recurses := true, apart := false, narrowed := true }
def FnStackCostUptoSaid : Prop := fnStackCostUptoRow.holds Try.pinned (OpenSpec.upto fnStackCostSpec)

/-- 'laws.FnStackCostLeast', WHERE WHAT IT READS IS OF BULK AT MOST 1048576: true; the input reads as it did. -/
def fnStackCostLeastUptoRow : OpenClaim := { program := "ytblmmmeeljidiab", sum := "b8318bbff6cce86896336d0906f54a0301949d0b63f7b219f03d7b42c977f446", func := "loop.example/linkstaterouting/laws.FnStackCostLeast", spec := "fnStackCostLeast", unfollowed := true, recurses := true, apart := false, narrowed := true }
def FnStackCostLeastUptoSaid : Prop := fnStackCostLeastUptoRow.holds Try.pinned (OpenSpec.upto fnStackCostLeastSpec)

/-- 'laws.FnStackCrosses', WHERE WHAT IT READS IS OF BULK AT MOST 1048576: true; the input reads as it did. -/
def fnStackCrossesUptoRow : OpenClaim := { program := "ytblmmmeeljidiab", sum := "b8318bbff6cce86896336d0906f54a0301949d0b63f7b219f03d7b42c977f446", func := "loop.example/linkstaterouting/laws.FnStackCrosses", spec := "fnStackCrosses", unfollowed := true, recurses := true, apart := false, narrowed := true }
def FnStackCrossesUptoSaid : Prop := fnStackCrossesUptoRow.holds Try.pinned (OpenSpec.upto fnStackCrossesSpec)

/-- 'laws.FnStackNot', WHERE WHAT IT READS IS OF BULK AT MOST 1048576: true; the input reads as it did. -/
def fnStackNotUptoRow : OpenClaim := { program := "ytblmmmeeljidiab", sum := "b8318bbff6cce86896336d0906f54a0301949d0b63f7b219f03d7b42c977f446", func := "loop.example/linkstaterouting/laws.FnStackNot", spec := "fnStackNot", unfollowed := true, recurses := true, apart := false, narrowed := true }
def FnStackNotUptoSaid : Prop := fnStackNotUptoRow.holds Try.pinned (OpenSpec.upto fnStackNotSpec)

/-- 'laws.FnStackUnique', WHERE WHAT IT READS IS OF BULK AT MOST 1048576: true; the input reads as it did. -/
def fnStackUniqueUptoRow : OpenClaim := { program := "ytblmmmeeljidiab", sum := "b8318bbff6cce86896336d0906f54a0301949d0b63f7b219f03d7b42c977f446", func := "loop.example/linkstaterouting/laws.FnStackUnique", spec := "fnStackUnique", unfollowed := true, recurses := true, apart := false, narrowed := true }
def FnStackUniqueUptoSaid : Prop := fnStackUniqueUptoRow.holds Try.pinned (OpenSpec.upto fnStackUniqueSpec)

/-- 'laws.FnStackUniqueLinks', WHERE WHAT IT READS IS OF BULK AT MOST 1048576: true; the input reads as it did. -/
def fnStackUniqueLinksUptoRow : OpenClaim := { program := "ytblmmmeeljidiab", sum := "b8318bbff6cce86896336d0906f54a0301949d0b63f7b219f03d7b42c977f446", func := "loop.example/linkstaterouting/laws.FnStackUniqueLinks", spec := "fnStackUniqueLinks", unfollowed := true, recurses := true, apart := false, narrowed := true }
def FnStackUniqueLinksUptoSaid : Prop := fnStackUniqueLinksUptoRow.holds Try.pinned (OpenSpec.upto fnStackUniqueLinksSpec)

/-- 'laws.FnStackBack', WHERE WHAT IT READS IS OF BULK AT MOST 1048576: true; the input reads as it did. -/
def fnStackBackUptoRow : OpenClaim := { program := "ytblmmmeeljidiab", sum := "b8318bbff6cce86896336d0906f54a0301949d0b63f7b219f03d7b42c977f446", func := "loop.example/linkstaterouting/laws.FnStackBack", spec := "fnStackBack", unfollowed := true, recurses := true, apart := false, narrowed := true }
def FnStackBackUptoSaid : Prop := fnStackBackUptoRow.holds Try.pinned (OpenSpec.upto fnStackBackSpec)

/-- 'laws.FnStackWays', WHERE WHAT IT READS IS OF BULK AT MOST 1048576: true; the input reads as it did. -/
def fnStackWaysUptoRow : OpenClaim := { program := "ytblmmmeeljidiab", sum := "b8318bbff6cce86896336d0906f54a0301949d0b63f7b219f03d7b42c977f446", func := "loop.example/linkstaterouting/laws.FnStackWays", spec := "fnStackWays", unfollowed := true, recurses := true, apart := false, narrowed := true }
def FnStackWaysUptoSaid : Prop := fnStackWaysUptoRow.holds Try.pinned (OpenSpec.upto fnStackWaysSpec)

end Rows
end Go.Proofs.Ytblmmmeeljidiab
