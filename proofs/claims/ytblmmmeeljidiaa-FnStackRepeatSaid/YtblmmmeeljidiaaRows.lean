/-
  No cell of these rows narrows 'for every input' (looked for: loops, veiled, ifaces, maps, wideKeys, modest, calm, conditions, laid).
  DERIVED. THE GIVEN ROWS OF THIS SEAT. 9 by the template 'for every input the law returns true; each argument reads behind the call as it read before'; 0 by the template 'total and deterministic' (their statements: YtblmmmeeljidiaaTotals.lean).
  GIVEN WITH THE SEED: the statements are not yours to turn. If you find one false, say at which input.
  Laid BY PROGRAM, IN A SANDBOX (cutbox-rows.mjs): the forced cells as the released guide's own fill.sh prints them over the translation 05082ca838a1f77d… (all of the seat's roots in one cut). By AI agents, Wed Nov 11 2026. No macro, syntax, notation, axiom, sorry.
-/
import Derived.Test.YtblmmmeeljidiaaChecked
import GoSem.Claim
import GoSem.ClaimJoined
import GoSem.ClaimMapViews
import Derived.JoinedTies
import Derived.KernelRfl
namespace Go.Proofs.Ytblmmmeeljidiaa
/- THE CELL 'sum', in the pinned program and in every row, IS THE sha256 OF THE DUMP (.gsa) THAT YtblmmmeeljidiaaProg.lean LOADS. Nothing in Lean hashes anything: it is a label: what it is worth is what the hold of that sum in a sandbox is worth. -/
noncomputable def Try.pinned : Pinned := { name := "ytblmmmeeljidiaa", sum := "05082ca838a1f77dd61739789355f461608b12cbd77bf43eba1e04206968fb64", checked := Try.checked }
namespace Rows
def none {H : Type} : Left H := { results := [], args := [] }

/-- 'laws.FnExactStackEnd': WHATEVER THE INPUT: true; the input reads as it did. -/
def fnExactStackEndSpec : ChangeSpec := { name := "fnExactStackEnd", fn := fun _ => fun
  | [d1, d2, d3] => { results := [.lit (.bool true)], args := [d1, d2, d3] }
  | _ => none }
def fnExactStackEndRow : OpenClaim := { program := "ytblmmmeeljidiaa", sum := "05082ca838a1f77dd61739789355f461608b12cbd77bf43eba1e04206968fb64", func := "loop.example/linkstaterouting/laws.FnExactStackEnd", spec := "fnExactStackEnd", unfollowed := true, recurses := true, apart := false }
def FnExactStackEndSaid : Prop := fnExactStackEndRow.holds Try.pinned (OpenSpec.ofChange fnExactStackEndSpec)

/-- ITS FALSE NEIGHBOUR: 'it returns false'. Refute it at one input. -/
def fnExactStackEndWrong : ChangeSpec := { name := "fnExactStackEnd", fn := fun _ => fun
  | [d1, d2, d3] => { results := [.lit (.bool false)], args := [d1, d2, d3] }
  | _ => none }
def FnExactStackEndWrongFalsely : Prop := fnExactStackEndRow.holds Try.pinned (OpenSpec.ofChange fnExactStackEndWrong)

/-- 'laws.FnExactStackPath': WHATEVER THE INPUT: true; the input reads as it did. -/
def fnExactStackPathSpec : ChangeSpec := { name := "fnExactStackPath", fn := fun _ => fun
  | [d1, d2, d3] => { results := [.lit (.bool true)], args := [d1, d2, d3] }
  | _ => none }
def fnExactStackPathRow : OpenClaim := { program := "ytblmmmeeljidiaa", sum := "05082ca838a1f77dd61739789355f461608b12cbd77bf43eba1e04206968fb64", func := "loop.example/linkstaterouting/laws.FnExactStackPath", spec := "fnExactStackPath", unfollowed := true, recurses := true, apart := false }
def FnExactStackPathSaid : Prop := fnExactStackPathRow.holds Try.pinned (OpenSpec.ofChange fnExactStackPathSpec)

/-- ITS FALSE NEIGHBOUR: 'it returns false'. Refute it at one input. -/
def fnExactStackPathWrong : ChangeSpec := { name := "fnExactStackPath", fn := fun _ => fun
  | [d1, d2, d3] => { results := [.lit (.bool false)], args := [d1, d2, d3] }
  | _ => none }
def FnExactStackPathWrongFalsely : Prop := fnExactStackPathRow.holds Try.pinned (OpenSpec.ofChange fnExactStackPathWrong)

/-- 'laws.FnExactStackCost': WHATEVER THE INPUT: true; the input reads as it did. -/
def fnExactStackCostSpec : ChangeSpec := { name := "fnExactStackCost", fn := fun _ => fun
  | [d1, d2, d3] => { results := [.lit (.bool true)], args := [d1, d2, d3] }
  | _ => none }
def fnExactStackCostRow : OpenClaim := { program := "ytblmmmeeljidiaa", sum := "05082ca838a1f77dd61739789355f461608b12cbd77bf43eba1e04206968fb64", func := "loop.example/linkstaterouting/laws.FnExactStackCost", spec := "fnExactStackCost", unfollowed := true, recurses := true, apart := false }
def FnExactStackCostSaid : Prop := fnExactStackCostRow.holds Try.pinned (OpenSpec.ofChange fnExactStackCostSpec)

/-- ITS FALSE NEIGHBOUR: 'it returns false'. Refute it at one input. -/
def fnExactStackCostWrong : ChangeSpec := { name := "fnExactStackCost", fn := fun _ => fun
  | [d1, d2, d3] => { results := [.lit (.bool false)], args := [d1, d2, d3] }
  | _ => none }
def FnExactStackCostWrongFalsely : Prop := fnExactStackCostRow.holds Try.pinned (OpenSpec.ofChange fnExactStackCostWrong)

/-- 'laws.FnExactStackCrosses': WHATEVER THE INPUT: true; the input reads as it did. -/
def fnExactStackCrossesSpec : ChangeSpec := { name := "fnExactStackCrosses", fn := fun _ => fun
  | [d1, d2, d3, d4] => { results := [.lit (.bool true)], args := [d1, d2, d3, d4] }
  | _ => none }
def fnExactStackCrossesRow : OpenClaim := { program := "ytblmmmeeljidiaa", sum := "05082ca838a1f77dd61739789355f461608b12cbd77bf43eba1e04206968fb64", func := "loop.example/linkstaterouting/laws.FnExactStackCrosses", spec := "fnExactStackCrosses", unfollowed := true, recurses := true, apart := false }
def FnExactStackCrossesSaid : Prop := fnExactStackCrossesRow.holds Try.pinned (OpenSpec.ofChange fnExactStackCrossesSpec)

/-- ITS FALSE NEIGHBOUR: 'it returns false'. Refute it at one input. -/
def fnExactStackCrossesWrong : ChangeSpec := { name := "fnExactStackCrosses", fn := fun _ => fun
  | [d1, d2, d3, d4] => { results := [.lit (.bool false)], args := [d1, d2, d3, d4] }
  | _ => none }
def FnExactStackCrossesWrongFalsely : Prop := fnExactStackCrossesRow.holds Try.pinned (OpenSpec.ofChange fnExactStackCrossesWrong)

/-- 'laws.FnExactStackUnique': WHATEVER THE INPUT: true; the input reads as it did. -/
def fnExactStackUniqueSpec : ChangeSpec := { name := "fnExactStackUnique", fn := fun _ => fun
  | [d1, d2, d3] => { results := [.lit (.bool true)], args := [d1, d2, d3] }
  | _ => none }
def fnExactStackUniqueRow : OpenClaim := { program := "ytblmmmeeljidiaa", sum := "05082ca838a1f77dd61739789355f461608b12cbd77bf43eba1e04206968fb64", func := "loop.example/linkstaterouting/laws.FnExactStackUnique", spec := "fnExactStackUnique", unfollowed := true, recurses := true, apart := false }
def FnExactStackUniqueSaid : Prop := fnExactStackUniqueRow.holds Try.pinned (OpenSpec.ofChange fnExactStackUniqueSpec)

/-- ITS FALSE NEIGHBOUR: 'it returns false'. Refute it at one input. -/
def fnExactStackUniqueWrong : ChangeSpec := { name := "fnExactStackUnique", fn := fun _ => fun
  | [d1, d2, d3] => { results := [.lit (.bool false)], args := [d1, d2, d3] }
  | _ => none }
def FnExactStackUniqueWrongFalsely : Prop := fnExactStackUniqueRow.holds Try.pinned (OpenSpec.ofChange fnExactStackUniqueWrong)

/-- 'laws.FnStackEnd': WHATEVER THE INPUT: true; the input reads as it did. -/
def fnStackEndSpec : ChangeSpec := { name := "fnStackEnd", fn := fun _ => fun
  | [d] => { results := [.lit (.bool true)], args := [d] }
  | _ => none }
def fnStackEndRow : OpenClaim := { program := "ytblmmmeeljidiaa", sum := "05082ca838a1f77dd61739789355f461608b12cbd77bf43eba1e04206968fb64", func := "loop.example/linkstaterouting/laws.FnStackEnd", spec := "fnStackEnd", unfollowed := true, recurses := true, apart := false }
def FnStackEndSaid : Prop := fnStackEndRow.holds Try.pinned (OpenSpec.ofChange fnStackEndSpec)

/-- ITS FALSE NEIGHBOUR: 'it returns false'. Refute it at one input. -/
def fnStackEndWrong : ChangeSpec := { name := "fnStackEnd", fn := fun _ => fun
  | [d] => { results := [.lit (.bool false)], args := [d] }
  | _ => none }
def FnStackEndWrongFalsely : Prop := fnStackEndRow.holds Try.pinned (OpenSpec.ofChange fnStackEndWrong)

/-- 'laws.FnStackPath': WHATEVER THE INPUT: true; the input reads as it did. -/
def fnStackPathSpec : ChangeSpec := { name := "fnStackPath", fn := fun _ => fun
  | [d] => { results := [.lit (.bool true)], args := [d] }
  | _ => none }
def fnStackPathRow : OpenClaim := { program := "ytblmmmeeljidiaa", sum := "05082ca838a1f77dd61739789355f461608b12cbd77bf43eba1e04206968fb64", func := "loop.example/linkstaterouting/laws.FnStackPath", spec := "fnStackPath", unfollowed := true, recurses := true, apart := false }
def FnStackPathSaid : Prop := fnStackPathRow.holds Try.pinned (OpenSpec.ofChange fnStackPathSpec)

/-- ITS FALSE NEIGHBOUR: 'it returns false'. Refute it at one input. -/
def fnStackPathWrong : ChangeSpec := { name := "fnStackPath", fn := fun _ => fun
  | [d] => { results := [.lit (.bool false)], args := [d] }
  | _ => none }
def FnStackPathWrongFalsely : Prop := fnStackPathRow.holds Try.pinned (OpenSpec.ofChange fnStackPathWrong)

/-- 'laws.FnStackPathFail': WHATEVER THE INPUT: true; the input reads as it did. -/
def fnStackPathFailSpec : ChangeSpec := { name := "fnStackPathFail", fn := fun _ => fun
  | [d] => { results := [.lit (.bool true)], args := [d] }
  | _ => none }
def fnStackPathFailRow : OpenClaim := { program := "ytblmmmeeljidiaa", sum := "05082ca838a1f77dd61739789355f461608b12cbd77bf43eba1e04206968fb64", func := "loop.example/linkstaterouting/laws.FnStackPathFail", spec := "fnStackPathFail", unfollowed := true, recurses := true, apart := false }
def FnStackPathFailSaid : Prop := fnStackPathFailRow.holds Try.pinned (OpenSpec.ofChange fnStackPathFailSpec)

/-- ITS FALSE NEIGHBOUR: 'it returns false'. Refute it at one input. -/
def fnStackPathFailWrong : ChangeSpec := { name := "fnStackPathFail", fn := fun _ => fun
  | [d] => { results := [.lit (.bool false)], args := [d] }
  | _ => none }
def FnStackPathFailWrongFalsely : Prop := fnStackPathFailRow.holds Try.pinned (OpenSpec.ofChange fnStackPathFailWrong)

/-- 'laws.FnStackRepeat': WHATEVER THE INPUT: true; the input reads as it did. -/
def fnStackRepeatSpec : ChangeSpec := { name := "fnStackRepeat", fn := fun _ => fun
  | [d] => { results := [.lit (.bool true)], args := [d] }
  | _ => none }
def fnStackRepeatRow : OpenClaim := { program := "ytblmmmeeljidiaa", sum := "05082ca838a1f77dd61739789355f461608b12cbd77bf43eba1e04206968fb64", func := "loop.example/linkstaterouting/laws.FnStackRepeat", spec := "fnStackRepeat", unfollowed := true, recurses := true, apart := false }
def FnStackRepeatSaid : Prop := fnStackRepeatRow.holds Try.pinned (OpenSpec.ofChange fnStackRepeatSpec)

/-- ITS FALSE NEIGHBOUR: 'it returns false'. Refute it at one input. -/
def fnStackRepeatWrong : ChangeSpec := { name := "fnStackRepeat", fn := fun _ => fun
  | [d] => { results := [.lit (.bool false)], args := [d] }
  | _ => none }
def FnStackRepeatWrongFalsely : Prop := fnStackRepeatRow.holds Try.pinned (OpenSpec.ofChange fnStackRepeatWrong)

/- THE SECOND FORM. 'bulk': how many values and letters a reading holds, each counted each time it is reached (what is shared counts as often as it is met; a slice's spare places count too). A statement '..UptoSaid' is the law's where the arguments, and the package variables that the reading takes, are together of bulk at most 1048576: NARROWER than '..Said'. Prove '..Said' where nothing that the law and all that it calls make is longer than what came in: it says more and counts as full. Else prove '..UptoSaid'. A law counts once. -/
mutual
def uptoBulk {H : Type} : DataW H → Nat
  | .lit (.string bytes) => bytes.length + 1
  | .lit _ => 1
  | .nil => 1
  | .ptr d => uptoBulk d + 1
  | .slice elems spare => uptoBulkAll elems + uptoBulkAll spare + 1
  | .agg parts => uptoBulkAll parts + 1
  | .iface _ d => uptoBulk d + 1
  | .map entries => uptoBulkEntries entries + 1
  | .held _ => 1
def uptoBulkAll {H : Type} : List (DataW H) → Nat
  | [] => 0
  | d :: r => uptoBulk d + uptoBulkAll r
def uptoBulkEntries {H : Type} : List (Lit × DataW H) → Nat
  | [] => 0
  | x :: r => uptoBulkEntry x + uptoBulkEntries r
def uptoBulkEntry {H : Type} : Lit × DataW H → Nat
  | (.string bytes, d) => bytes.length + uptoBulk d + 1
  | (_, d) => uptoBulk d + 1
 end
def uptoSmall : (H : Type) → List (DataW H) → Bool := fun _ ds => decide (uptoBulkAll ds ≤ 1048576)
def OpenSpec.upto (s : _root_.Go.ChangeSpec) : _root_.Go.OpenSpec := { _root_.Go.OpenSpec.ofChange s with cond := some uptoSmall }

/-- 'laws.FnExactStackEnd', WHERE WHAT IT READS IS OF BULK AT MOST 1048576: true; the input reads as it did. -/
def fnExactStackEndUptoRow : OpenClaim := { program := "ytblmmmeeljidiaa", sum := "05082ca838a1f77dd61739789355f461608b12cbd77bf43eba1e04206968fb64", func := "loop.example/linkstaterouting/laws.FnExactStackEnd", spec := "fnExactStackEnd", unfollowed := true, recurses := true, apart := false, narrowed := true }
def FnExactStackEndUptoSaid : Prop := fnExactStackEndUptoRow.holds Try.pinned (OpenSpec.upto fnExactStackEndSpec)

/-- 'laws.FnExactStackPath', WHERE WHAT IT READS IS OF BULK AT MOST 1048576: true; the input reads as it did. -/
def fnExactStackPathUptoRow : OpenClaim := { program := "ytblmmmeeljidiaa", sum := "05082ca838a1f77dd61739789355f461608b12cbd77bf43eba1e04206968fb64", func := "loop.example/linkstaterouting/laws.FnExactStackPath", spec := "fnExactStackPath", unfollowed := true, recurses := true, apart := false, narrowed := true }
def FnExactStackPathUptoSaid : Prop := fnExactStackPathUptoRow.holds Try.pinned (OpenSpec.upto fnExactStackPathSpec)

/-- 'laws.FnExactStackCost', WHERE WHAT IT READS IS OF BULK AT MOST 1048576: true; the input reads as it did. -/
def fnExactStackCostUptoRow : OpenClaim := { program := "ytblmmmeeljidiaa", sum := "05082ca838a1f77dd61739789355f461608b12cbd77bf43eba1e04206968fb64", func := "loop.example/linkstaterouting/laws.FnExactStackCost", spec := "fnExactStackCost", unfollowed := true, recurses := true, apart := false, narrowed := true }
def FnExactStackCostUptoSaid : Prop := fnExactStackCostUptoRow.holds Try.pinned (OpenSpec.upto fnExactStackCostSpec)

/-- 'laws.FnExactStackCrosses', WHERE WHAT IT READS IS OF BULK AT MOST 1048576: true; the input reads as it did. -/
def fnExactStackCrossesUptoRow : OpenClaim := { program := "ytblmmmeeljidiaa", sum := "05082ca838a1f77dd61739789355f461608b12cbd77bf43eba1e04206968fb64", func := "loop.example/linkstaterouting/laws.FnExactStackCrosses", spec := "fnExactStackCrosses", unfollowed := true, recurses := true, apart := false, narrowed := true }
def FnExactStackCrossesUptoSaid : Prop := fnExactStackCrossesUptoRow.holds Try.pinned (OpenSpec.upto fnExactStackCrossesSpec)

/-- 'laws.FnExactStackUnique', WHERE WHAT IT READS IS OF BULK AT MOST 1048576: true; the input reads as it did. -/
def fnExactStackUniqueUptoRow : OpenClaim := { program := "ytblmmmeeljidiaa", sum := "05082ca838a1f77dd61739789355f461608b12cbd77bf43eba1e04206968fb64", func := "loop.example/linkstaterouting/laws.FnExactStackUnique", spec := "fnExactStackUnique", unfollowed := true, recurses := true, apart := false, narrowed := true }
def FnExactStackUniqueUptoSaid : Prop := fnExactStackUniqueUptoRow.holds Try.pinned (OpenSpec.upto fnExactStackUniqueSpec)

/-- 'laws.FnStackEnd', WHERE WHAT IT READS IS OF BULK AT MOST 1048576: true; the input reads as it did. -/
def fnStackEndUptoRow : OpenClaim := { program := "ytblmmmeeljidiaa", sum := "05082ca838a1f77dd61739789355f461608b12cbd77bf43eba1e04206968fb64", func := "loop.example/linkstaterouting/laws.FnStackEnd", spec := "fnStackEnd", unfollowed := true, recurses := true, apart := false, narrowed := true }
def FnStackEndUptoSaid : Prop := fnStackEndUptoRow.holds Try.pinned (OpenSpec.upto fnStackEndSpec)

/-- 'laws.FnStackPath', WHERE WHAT IT READS IS OF BULK AT MOST 1048576: true; the input reads as it did. -/
def fnStackPathUptoRow : OpenClaim := { program := "ytblmmmeeljidiaa", sum := "05082ca838a1f77dd61739789355f461608b12cbd77bf43eba1e04206968fb64", func := "loop.example/linkstaterouting/laws.FnStackPath", spec := "fnStackPath", unfollowed := true, recurses := true, apart := false, narrowed := true }
def FnStackPathUptoSaid : Prop := fnStackPathUptoRow.holds Try.pinned (OpenSpec.upto fnStackPathSpec)

/-- 'laws.FnStackPathFail', WHERE WHAT IT READS IS OF BULK AT MOST 1048576: true; the input reads as it did. -/
def fnStackPathFailUptoRow : OpenClaim := { program := "ytblmmmeeljidiaa", sum := "05082ca838a1f77dd61739789355f461608b12cbd77bf43eba1e04206968fb64", func := "loop.example/linkstaterouting/laws.FnStackPathFail", spec := "fnStackPathFail", unfollowed := true, recurses := true, apart := false, narrowed := true }
def FnStackPathFailUptoSaid : Prop := fnStackPathFailUptoRow.holds Try.pinned (OpenSpec.upto fnStackPathFailSpec)

/-- 'laws.FnStackRepeat', WHERE WHAT IT READS IS OF BULK AT MOST 1048576: true; the input reads as it did. -/
def fnStackRepeatUptoRow : OpenClaim := { program := "ytblmmmeeljidiaa", sum := "05082ca838a1f77dd61739789355f461608b12cbd77bf43eba1e04206968fb64", func := "loop.example/linkstaterouting/laws.FnStackRepeat", spec := "fnStackRepeat", unfollowed := true, recurses := true, apart := false, narrowed := true }
def FnStackRepeatUptoSaid : Prop := fnStackRepeatUptoRow.holds Try.pinned (OpenSpec.upto fnStackRepeatSpec)

end Rows
end Go.Proofs.Ytblmmmeeljidiaa
