/-
  No cell of these rows narrows 'for every input' (looked for: loops, veiled, ifaces, maps, wideKeys, modest, calm, conditions, laid).
  DERIVED. THE GIVEN ROWS OF THIS SEAT. 9 by the template 'for every input the law returns true; each argument reads behind the call as it read before'; 0 by the template 'total and deterministic' (their statements: YtbhipfidkfnlpaaTotals.lean).
  GIVEN WITH THE SEED: the statements are not yours to turn. If you find one false, say at which input.
  Laid BY PROGRAM, IN A SANDBOX (cutbox-rows.mjs): the forced cells as the released guide's own fill.sh prints them over the translation c093f41587ccc856… (all of the seat's roots in one cut). By AI agents, Wed Nov 11 2026. No macro, syntax, notation, axiom, sorry.
-/
import Derived.Test.YtbhipfidkfnlpaaChecked
import GoSem.Claim
import GoSem.ClaimJoined
import GoSem.ClaimMapViews
import Derived.JoinedTies
import Derived.KernelRfl
namespace Go.Proofs.Ytbhipfidkfnlpaa
/- THE CELL 'sum', in the pinned program and in every row, IS THE sha256 OF THE DUMP (.gsa) THAT YtbhipfidkfnlpaaProg.lean LOADS. Nothing in Lean hashes anything: it is a label: what it is worth is what the hold of that sum in a sandbox is worth. -/
noncomputable def Try.pinned : Pinned := { name := "ytbhipfidkfnlpaa", sum := "c093f41587ccc856b884ba4abd3500af5352389ba7e8a87b4d4738be68ee3b6c", checked := Try.checked }
namespace Rows
def none {H : Type} : Left H := { results := [], args := [] }

/-- 'laws.FnExactShortestPath': WHATEVER THE INPUT: true; the input reads as it did. -/
def fnExactShortestPathSpec : ChangeSpec := { name := "fnExactShortestPath", fn := fun _ => fun
  | [d1, d2, d3] => { results := [.lit (.bool true)], args := [d1, d2, d3] }
  | _ => none }
def fnExactShortestPathRow : OpenClaim := { program := "ytbhipfidkfnlpaa", sum := "c093f41587ccc856b884ba4abd3500af5352389ba7e8a87b4d4738be68ee3b6c", func := "loop.example/linkstaterouting/laws.FnExactShortestPath", spec := "fnExactShortestPath", unfollowed := true, recurses := true, apart := false }
def FnExactShortestPathSaid : Prop := fnExactShortestPathRow.holds Try.pinned (OpenSpec.ofChange fnExactShortestPathSpec)

/-- ITS FALSE NEIGHBOUR: 'it returns false'. Refute it at one input. -/
def fnExactShortestPathWrong : ChangeSpec := { name := "fnExactShortestPath", fn := fun _ => fun
  | [d1, d2, d3] => { results := [.lit (.bool false)], args := [d1, d2, d3] }
  | _ => none }
def FnExactShortestPathWrongFalsely : Prop := fnExactShortestPathRow.holds Try.pinned (OpenSpec.ofChange fnExactShortestPathWrong)

/-- 'laws.FnPath': WHATEVER THE INPUT: true; the input reads as it did. -/
def fnPathSpec : ChangeSpec := { name := "fnPath", fn := fun _ => fun
  | [d] => { results := [.lit (.bool true)], args := [d] }
  | _ => none }
def fnPathRow : OpenClaim := { program := "ytbhipfidkfnlpaa", sum := "c093f41587ccc856b884ba4abd3500af5352389ba7e8a87b4d4738be68ee3b6c", func := "loop.example/linkstaterouting/laws.FnPath", spec := "fnPath", unfollowed := true, recurses := true, apart := false }
def FnPathSaid : Prop := fnPathRow.holds Try.pinned (OpenSpec.ofChange fnPathSpec)

/-- ITS FALSE NEIGHBOUR: 'it returns false'. Refute it at one input. -/
def fnPathWrong : ChangeSpec := { name := "fnPath", fn := fun _ => fun
  | [d] => { results := [.lit (.bool false)], args := [d] }
  | _ => none }
def FnPathWrongFalsely : Prop := fnPathRow.holds Try.pinned (OpenSpec.ofChange fnPathWrong)

/-- 'laws.FnPathOnce': WHATEVER THE INPUT: true; the input reads as it did. -/
def fnPathOnceSpec : ChangeSpec := { name := "fnPathOnce", fn := fun _ => fun
  | [d] => { results := [.lit (.bool true)], args := [d] }
  | _ => none }
def fnPathOnceRow : OpenClaim := { program := "ytbhipfidkfnlpaa", sum := "c093f41587ccc856b884ba4abd3500af5352389ba7e8a87b4d4738be68ee3b6c", func := "loop.example/linkstaterouting/laws.FnPathOnce", spec := "fnPathOnce", unfollowed := true, recurses := true, apart := false }
def FnPathOnceSaid : Prop := fnPathOnceRow.holds Try.pinned (OpenSpec.ofChange fnPathOnceSpec)

/-- ITS FALSE NEIGHBOUR: 'it returns false'. Refute it at one input. -/
def fnPathOnceWrong : ChangeSpec := { name := "fnPathOnce", fn := fun _ => fun
  | [d] => { results := [.lit (.bool false)], args := [d] }
  | _ => none }
def FnPathOnceWrongFalsely : Prop := fnPathOnceRow.holds Try.pinned (OpenSpec.ofChange fnPathOnceWrong)

/-- 'laws.FnPathRest': WHATEVER THE INPUT: true; the input reads as it did. -/
def fnPathRestSpec : ChangeSpec := { name := "fnPathRest", fn := fun _ => fun
  | [d1, d2] => { results := [.lit (.bool true)], args := [d1, d2] }
  | _ => none }
def fnPathRestRow : OpenClaim := { program := "ytbhipfidkfnlpaa", sum := "c093f41587ccc856b884ba4abd3500af5352389ba7e8a87b4d4738be68ee3b6c", func := "loop.example/linkstaterouting/laws.FnPathRest", spec := "fnPathRest", unfollowed := true, recurses := true, apart := false }
def FnPathRestSaid : Prop := fnPathRestRow.holds Try.pinned (OpenSpec.ofChange fnPathRestSpec)

/-- ITS FALSE NEIGHBOUR: 'it returns false'. Refute it at one input. -/
def fnPathRestWrong : ChangeSpec := { name := "fnPathRest", fn := fun _ => fun
  | [d1, d2] => { results := [.lit (.bool false)], args := [d1, d2] }
  | _ => none }
def FnPathRestWrongFalsely : Prop := fnPathRestRow.holds Try.pinned (OpenSpec.ofChange fnPathRestWrong)

/-- 'laws.FnPathBack': WHATEVER THE INPUT: true; the input reads as it did. -/
def fnPathBackSpec : ChangeSpec := { name := "fnPathBack", fn := fun _ => fun
  | [d] => { results := [.lit (.bool true)], args := [d] }
  | _ => none }
def fnPathBackRow : OpenClaim := { program := "ytbhipfidkfnlpaa", sum := "c093f41587ccc856b884ba4abd3500af5352389ba7e8a87b4d4738be68ee3b6c", func := "loop.example/linkstaterouting/laws.FnPathBack", spec := "fnPathBack", unfollowed := true, recurses := true, apart := false }
def FnPathBackSaid : Prop := fnPathBackRow.holds Try.pinned (OpenSpec.ofChange fnPathBackSpec)

/-- ITS FALSE NEIGHBOUR: 'it returns false'. Refute it at one input. -/
def fnPathBackWrong : ChangeSpec := { name := "fnPathBack", fn := fun _ => fun
  | [d] => { results := [.lit (.bool false)], args := [d] }
  | _ => none }
def FnPathBackWrongFalsely : Prop := fnPathBackRow.holds Try.pinned (OpenSpec.ofChange fnPathBackWrong)

/-- 'laws.FnLinkUsedPath': WHATEVER THE INPUT: true; the input reads as it did. -/
def fnLinkUsedPathSpec : ChangeSpec := { name := "fnLinkUsedPath", fn := fun _ => fun
  | [d] => { results := [.lit (.bool true)], args := [d] }
  | _ => none }
def fnLinkUsedPathRow : OpenClaim := { program := "ytbhipfidkfnlpaa", sum := "c093f41587ccc856b884ba4abd3500af5352389ba7e8a87b4d4738be68ee3b6c", func := "loop.example/linkstaterouting/laws.FnLinkUsedPath", spec := "fnLinkUsedPath", unfollowed := true, recurses := true, apart := false }
def FnLinkUsedPathSaid : Prop := fnLinkUsedPathRow.holds Try.pinned (OpenSpec.ofChange fnLinkUsedPathSpec)

/-- ITS FALSE NEIGHBOUR: 'it returns false'. Refute it at one input. -/
def fnLinkUsedPathWrong : ChangeSpec := { name := "fnLinkUsedPath", fn := fun _ => fun
  | [d] => { results := [.lit (.bool false)], args := [d] }
  | _ => none }
def FnLinkUsedPathWrongFalsely : Prop := fnLinkUsedPathRow.holds Try.pinned (OpenSpec.ofChange fnLinkUsedPathWrong)

/-- 'laws.FnNodeUsedPath': WHATEVER THE INPUT: true; the input reads as it did. -/
def fnNodeUsedPathSpec : ChangeSpec := { name := "fnNodeUsedPath", fn := fun _ => fun
  | [d] => { results := [.lit (.bool true)], args := [d] }
  | _ => none }
def fnNodeUsedPathRow : OpenClaim := { program := "ytbhipfidkfnlpaa", sum := "c093f41587ccc856b884ba4abd3500af5352389ba7e8a87b4d4738be68ee3b6c", func := "loop.example/linkstaterouting/laws.FnNodeUsedPath", spec := "fnNodeUsedPath", unfollowed := true, recurses := true, apart := false }
def FnNodeUsedPathSaid : Prop := fnNodeUsedPathRow.holds Try.pinned (OpenSpec.ofChange fnNodeUsedPathSpec)

/-- ITS FALSE NEIGHBOUR: 'it returns false'. Refute it at one input. -/
def fnNodeUsedPathWrong : ChangeSpec := { name := "fnNodeUsedPath", fn := fun _ => fun
  | [d] => { results := [.lit (.bool false)], args := [d] }
  | _ => none }
def FnNodeUsedPathWrongFalsely : Prop := fnNodeUsedPathRow.holds Try.pinned (OpenSpec.ofChange fnNodeUsedPathWrong)

/-- 'laws.FnCountBack': WHATEVER THE INPUT: true; the input reads as it did. -/
def fnCountBackSpec : ChangeSpec := { name := "fnCountBack", fn := fun _ => fun
  | [d] => { results := [.lit (.bool true)], args := [d] }
  | _ => none }
def fnCountBackRow : OpenClaim := { program := "ytbhipfidkfnlpaa", sum := "c093f41587ccc856b884ba4abd3500af5352389ba7e8a87b4d4738be68ee3b6c", func := "loop.example/linkstaterouting/laws.FnCountBack", spec := "fnCountBack", unfollowed := true, recurses := true, apart := false }
def FnCountBackSaid : Prop := fnCountBackRow.holds Try.pinned (OpenSpec.ofChange fnCountBackSpec)

/-- ITS FALSE NEIGHBOUR: 'it returns false'. Refute it at one input. -/
def fnCountBackWrong : ChangeSpec := { name := "fnCountBack", fn := fun _ => fun
  | [d] => { results := [.lit (.bool false)], args := [d] }
  | _ => none }
def FnCountBackWrongFalsely : Prop := fnCountBackRow.holds Try.pinned (OpenSpec.ofChange fnCountBackWrong)

/-- 'laws.FnNodeUsedCount': WHATEVER THE INPUT: true; the input reads as it did. -/
def fnNodeUsedCountSpec : ChangeSpec := { name := "fnNodeUsedCount", fn := fun _ => fun
  | [d] => { results := [.lit (.bool true)], args := [d] }
  | _ => none }
def fnNodeUsedCountRow : OpenClaim := { program := "ytbhipfidkfnlpaa", sum := "c093f41587ccc856b884ba4abd3500af5352389ba7e8a87b4d4738be68ee3b6c", func := "loop.example/linkstaterouting/laws.FnNodeUsedCount", spec := "fnNodeUsedCount", unfollowed := true, recurses := true, apart := false }
def FnNodeUsedCountSaid : Prop := fnNodeUsedCountRow.holds Try.pinned (OpenSpec.ofChange fnNodeUsedCountSpec)

/-- ITS FALSE NEIGHBOUR: 'it returns false'. Refute it at one input. -/
def fnNodeUsedCountWrong : ChangeSpec := { name := "fnNodeUsedCount", fn := fun _ => fun
  | [d] => { results := [.lit (.bool false)], args := [d] }
  | _ => none }
def FnNodeUsedCountWrongFalsely : Prop := fnNodeUsedCountRow.holds Try.pinned (OpenSpec.ofChange fnNodeUsedCountWrong)

/- THE SECOND FORM. 'bulk': how many values and letters a reading holds, each counted each time it is reached (what is shared counts as often as it is met; a slice's spare places count too). A statement '..UptoSaid' is the law's where the arguments, and the package variables that the reading takes, are together of bulk at most 1048576: NARROWER than '..Said'. Prove '..Said' where nothing that the law and all that it calls make is longer than what came in: it says more and counts as full. Else prove '..UptoSaid'. A law counts once. -/
mutual
def uptoBulk {H : Type} : DataW H → Nat
  | .lit (.string bytes) => bytes.length + 1
  | .lit _ => 1
  | .nil => 1
  | .ptr d => uptoBulk d + 1
  | .slice elems spare => uptoBulkAll elems + uptoBulkAll spare + 1
  | .agg parts => uptoBulkAll parts + 1
  | .iface _ d => uptoBulk d + 1
  | .map entries => uptoBulkEntries entries + 1
  | .held _ => 1
def uptoBulkAll {H : Type} : List (DataW H) → Nat
  | [] => 0
  | d :: r => uptoBulk d + uptoBulkAll r
def uptoBulkEntries {H : Type} : List (Lit × DataW H) → Nat
  | [] => 0
  | x :: r => uptoBulkEntry x + uptoBulkEntries r
def uptoBulkEntry {H : Type} : Lit × DataW H → Nat
  | (.string bytes, d) => bytes.length + uptoBulk d + 1
  | (_, d) => uptoBulk d + 1
 end
def uptoSmall : (H : Type) → List (DataW H) → Bool := fun _ ds => decide (uptoBulkAll ds ≤ 1048576)
def OpenSpec.upto (s : _root_.Go.ChangeSpec) : _root_.Go.OpenSpec := { _root_.Go.OpenSpec.ofChange s with cond := some uptoSmall }

/-- 'laws.FnExactShortestPath', WHERE WHAT IT READS IS OF BULK AT MOST 1048576: true; the input reads as it did. -/
def fnExactShortestPathUptoRow : OpenClaim := { program := "ytbhipfidkfnlpaa", sum := "c093f41587ccc856b884ba4abd3500af5352389ba7e8a87b4d4738be68ee3b6c", func := "loop.example/linkstaterouting/laws.FnExactShortestPath", spec := "fnExactShortestPath", unfollowed := true, recurses := true, apart := false, narrowed := true }
def FnExactShortestPathUptoSaid : Prop := fnExactShortestPathUptoRow.holds Try.pinned (OpenSpec.upto fnExactShortestPathSpec)

/-- 'laws.FnPath', WHERE WHAT IT READS IS OF BULK AT MOST 1048576: true; the input reads as it did. -/
def fnPathUptoRow : OpenClaim := { program := "ytbhipfidkfnlpaa", sum := "c093f41587ccc856b884ba4abd3500af5352389ba7e8a87b4d4738be68ee3b6c", func := "loop.example/linkstaterouting/laws.FnPath", spec := "fnPath", unfollowed := true, recurses := true, apart := false, narrowed := true }
def FnPathUptoSaid : Prop := fnPathUptoRow.holds Try.pinned (OpenSpec.upto fnPathSpec)

/-- 'laws.FnPathOnce', WHERE WHAT IT READS IS OF BULK AT MOST 1048576: true; the input reads as it did. -/
def fnPathOnceUptoRow : OpenClaim := { program := "ytbhipfidkfnlpaa", sum := "c093f41587ccc856b884ba4abd3500af5352389ba7e8a87b4d4738be68ee3b6c", func := "loop.example/linkstaterouting/laws.FnPathOnce", spec := "fnPathOnce", unfollowed := true, recurses := true, apart := false, narrowed := true }
def FnPathOnceUptoSaid : Prop := fnPathOnceUptoRow.holds Try.pinned (OpenSpec.upto fnPathOnceSpec)

/-- 'laws.FnPathRest', WHERE WHAT IT READS IS OF BULK AT MOST 1048576: true; the input reads as it did. -/
def fnPathRestUptoRow : OpenClaim := { program := "ytbhipfidkfnlpaa", sum := "c093f41587ccc856b884ba4abd3500af5352389ba7e8a87b4d4738be68ee3b6c", func := "loop.example/linkstaterouting/laws.FnPathRest", spec := "fnPathRest", unfollowed := true, recurses := true, apart := false, narrowed := true }
def FnPathRestUptoSaid : Prop := fnPathRestUptoRow.holds Try.pinned (OpenSpec.upto fnPathRestSpec)

/-- 'laws.FnPathBack', WHERE WHAT IT READS IS OF BULK AT MOST 1048576: true; the input reads as it did. -/
def fnPathBackUptoRow : OpenClaim := { program := "ytbhipfidkfnlpaa", sum := "c093f41587ccc856b884ba4abd3500af5352389ba7e8a87b4d4738be68ee3b6c", func := "loop.example/linkstaterouting/laws.FnPathBack", spec := "fnPathBack", unfollowed := true, recurses := true, apart := false, narrowed := true }
def FnPathBackUptoSaid : Prop := fnPathBackUptoRow.holds Try.pinned (OpenSpec.upto fnPathBackSpec)

/-- 'laws.FnLinkUsedPath', WHERE WHAT IT READS IS OF BULK AT MOST 1048576: true; the input reads as it did. -/
def fnLinkUsedPathUptoRow : OpenClaim := { program := "ytbhipfidkfnlpaa", sum := "c093f41587ccc856b884ba4abd3500af5352389ba7e8a87b4d4738be68ee3b6c", func := "loop.example/linkstaterouting/laws.FnLinkUsedPath", spec := "fnLinkUsedPath", unfollowed := true, recurses := true, apart := false, narrowed := true }
def FnLinkUsedPathUptoSaid : Prop := fnLinkUsedPathUptoRow.holds Try.pinned (OpenSpec.upto fnLinkUsedPathSpec)

/-- 'laws.FnNodeUsedPath', WHERE WHAT IT READS IS OF BULK AT MOST 1048576: true; the input reads as it did. -/
def fnNodeUsedPathUptoRow : OpenClaim := { program := "ytbhipfidkfnlpaa", sum := "c093f41587ccc856b884ba4abd3500af5352389ba7e8a87b4d4738be68ee3b6c", func := "loop.example/linkstaterouting/laws.FnNodeUsedPath", spec := "fnNodeUsedPath", unfollowed := true, recurses := true, apart := false, narrowed := true }
def FnNodeUsedPathUptoSaid : Prop := fnNodeUsedPathUptoRow.holds Try.pinned (OpenSpec.upto fnNodeUsedPathSpec)

/-- 'laws.FnCountBack', WHERE WHAT IT READS IS OF BULK AT MOST 1048576: true; the input reads as it did. -/
def fnCountBackUptoRow : OpenClaim := { program := "ytbhipfidkfnlpaa", sum := "c093f41587ccc856b884ba4abd3500af5352389ba7e8a87b4d4738be68ee3b6c", func := "loop.example/linkstaterouting/laws.FnCountBack", spec := "fnCountBack", unfollowed := true, recurses := true, apart := false, narrowed := true }
def FnCountBackUptoSaid : Prop := fnCountBackUptoRow.holds Try.pinned (OpenSpec.upto fnCountBackSpec)

/-- 'laws.FnNodeUsedCount', WHERE WHAT IT READS IS OF BULK AT MOST 1048576: true; the input reads as it did. -/
def fnNodeUsedCountUptoRow : OpenClaim := { program := "ytbhipfidkfnlpaa", sum := "c093f41587ccc856b884ba4abd3500af5352389ba7e8a87b4d4738be68ee3b6c", func := "loop.example/linkstaterouting/laws.FnNodeUsedCount", spec := "fnNodeUsedCount", unfollowed := true, recurses := true, apart := false, narrowed := true }
def FnNodeUsedCountUptoSaid : Prop := fnNodeUsedCountUptoRow.holds Try.pinned (OpenSpec.upto fnNodeUsedCountSpec)

end Rows
end Go.Proofs.Ytbhipfidkfnlpaa
