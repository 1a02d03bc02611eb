/-
  No cell of these rows narrows 'for every input' (looked for: loops, veiled, ifaces, maps, wideKeys, modest, calm, conditions, laid).
  DERIVED. THE GIVEN ROWS OF THIS SEAT. 6 by the template 'for every input the law returns true; each argument reads behind the call as it read before'; 0 by the template 'total and deterministic' (their statements: YtnkohgdfipgdoabTotals.lean).
  GIVEN WITH THE SEED: the statements are not yours to turn. If you find one false, say at which input.
  Laid BY PROGRAM, IN A SANDBOX (cutbox-rows.mjs): the forced cells as the released guide's own fill.sh prints them over the translation 0580e539b07c3d7b… (all of the seat's roots in one cut). By AI agents, Wed Nov 11 2026. No macro, syntax, notation, axiom, sorry.
-/
import Derived.Test.YtnkohgdfipgdoabChecked
import GoSem.Claim
import GoSem.ClaimJoined
import GoSem.ClaimMapViews
import Derived.JoinedTies
import Derived.KernelRfl
namespace Go.Proofs.Ytnkohgdfipgdoab
/- THE CELL 'sum', in the pinned program and in every row, IS THE sha256 OF THE DUMP (.gsa) THAT YtnkohgdfipgdoabProg.lean LOADS. Nothing in Lean hashes anything: it is a label: what it is worth is what the hold of that sum in a sandbox is worth. -/
noncomputable def Try.pinned : Pinned := { name := "ytnkohgdfipgdoab", sum := "0580e539b07c3d7b39bc4b4e95185451aa51d8e8cad18c2f32214cb28a8bab40", checked := Try.checked }
namespace Rows
def none {H : Type} : Left H := { results := [], args := [] }

/-- 'laws.FnExactAdjacencySync': WHATEVER THE INPUT: true; the input reads as it did. -/
def fnExactAdjacencySyncSpec : ChangeSpec := { name := "fnExactAdjacencySync", fn := fun _ => fun
  | [d1, d2, d3] => { results := [.lit (.bool true)], args := [d1, d2, d3] }
  | _ => none }
def fnExactAdjacencySyncRow : OpenClaim := { program := "ytnkohgdfipgdoab", sum := "0580e539b07c3d7b39bc4b4e95185451aa51d8e8cad18c2f32214cb28a8bab40", func := "loop.example/linkstaterouting/laws.FnExactAdjacencySync", spec := "fnExactAdjacencySync", unfollowed := true, recurses := true, apart := false }
def FnExactAdjacencySyncSaid : Prop := fnExactAdjacencySyncRow.holds Try.pinned (OpenSpec.ofChange fnExactAdjacencySyncSpec)

/-- ITS FALSE NEIGHBOUR: 'it returns false'. Refute it at one input. -/
def fnExactAdjacencySyncWrong : ChangeSpec := { name := "fnExactAdjacencySync", fn := fun _ => fun
  | [d1, d2, d3] => { results := [.lit (.bool false)], args := [d1, d2, d3] }
  | _ => none }
def FnExactAdjacencySyncWrongFalsely : Prop := fnExactAdjacencySyncRow.holds Try.pinned (OpenSpec.ofChange fnExactAdjacencySyncWrong)

/-- 'laws.FnSync': WHATEVER THE INPUT: true; the input reads as it did. -/
def fnSyncSpec : ChangeSpec := { name := "fnSync", fn := fun _ => fun
  | [d] => { results := [.lit (.bool true)], args := [d] }
  | _ => none }
def fnSyncRow : OpenClaim := { program := "ytnkohgdfipgdoab", sum := "0580e539b07c3d7b39bc4b4e95185451aa51d8e8cad18c2f32214cb28a8bab40", func := "loop.example/linkstaterouting/laws.FnSync", spec := "fnSync", unfollowed := true, recurses := true, apart := false }
def FnSyncSaid : Prop := fnSyncRow.holds Try.pinned (OpenSpec.ofChange fnSyncSpec)

/-- ITS FALSE NEIGHBOUR: 'it returns false'. Refute it at one input. -/
def fnSyncWrong : ChangeSpec := { name := "fnSync", fn := fun _ => fun
  | [d] => { results := [.lit (.bool false)], args := [d] }
  | _ => none }
def FnSyncWrongFalsely : Prop := fnSyncRow.holds Try.pinned (OpenSpec.ofChange fnSyncWrong)

/-- 'laws.FnSyncMerge': WHATEVER THE INPUT: true; the input reads as it did. -/
def fnSyncMergeSpec : ChangeSpec := { name := "fnSyncMerge", fn := fun _ => fun
  | [d] => { results := [.lit (.bool true)], args := [d] }
  | _ => none }
def fnSyncMergeRow : OpenClaim := { program := "ytnkohgdfipgdoab", sum := "0580e539b07c3d7b39bc4b4e95185451aa51d8e8cad18c2f32214cb28a8bab40", func := "loop.example/linkstaterouting/laws.FnSyncMerge", spec := "fnSyncMerge", unfollowed := true, recurses := true, apart := false }
def FnSyncMergeSaid : Prop := fnSyncMergeRow.holds Try.pinned (OpenSpec.ofChange fnSyncMergeSpec)

/-- ITS FALSE NEIGHBOUR: 'it returns false'. Refute it at one input. -/
def fnSyncMergeWrong : ChangeSpec := { name := "fnSyncMerge", fn := fun _ => fun
  | [d] => { results := [.lit (.bool false)], args := [d] }
  | _ => none }
def FnSyncMergeWrongFalsely : Prop := fnSyncMergeRow.holds Try.pinned (OpenSpec.ofChange fnSyncMergeWrong)

/-- 'laws.FnSyncTwice': WHATEVER THE INPUT: true; the input reads as it did. -/
def fnSyncTwiceSpec : ChangeSpec := { name := "fnSyncTwice", fn := fun _ => fun
  | [d] => { results := [.lit (.bool true)], args := [d] }
  | _ => none }
def fnSyncTwiceRow : OpenClaim := { program := "ytnkohgdfipgdoab", sum := "0580e539b07c3d7b39bc4b4e95185451aa51d8e8cad18c2f32214cb28a8bab40", func := "loop.example/linkstaterouting/laws.FnSyncTwice", spec := "fnSyncTwice", unfollowed := true, recurses := true, apart := false }
def FnSyncTwiceSaid : Prop := fnSyncTwiceRow.holds Try.pinned (OpenSpec.ofChange fnSyncTwiceSpec)

/-- ITS FALSE NEIGHBOUR: 'it returns false'. Refute it at one input. -/
def fnSyncTwiceWrong : ChangeSpec := { name := "fnSyncTwice", fn := fun _ => fun
  | [d] => { results := [.lit (.bool false)], args := [d] }
  | _ => none }
def FnSyncTwiceWrongFalsely : Prop := fnSyncTwiceRow.holds Try.pinned (OpenSpec.ofChange fnSyncTwiceWrong)

/-- 'laws.FnDbGraph': WHATEVER THE INPUT: true; the input reads as it did. -/
def fnDbGraphSpec : ChangeSpec := { name := "fnDbGraph", fn := fun _ => fun
  | [d] => { results := [.lit (.bool true)], args := [d] }
  | _ => none }
def fnDbGraphRow : OpenClaim := { program := "ytnkohgdfipgdoab", sum := "0580e539b07c3d7b39bc4b4e95185451aa51d8e8cad18c2f32214cb28a8bab40", func := "loop.example/linkstaterouting/laws.FnDbGraph", spec := "fnDbGraph", unfollowed := true, recurses := true, apart := false }
def FnDbGraphSaid : Prop := fnDbGraphRow.holds Try.pinned (OpenSpec.ofChange fnDbGraphSpec)

/-- ITS FALSE NEIGHBOUR: 'it returns false'. Refute it at one input. -/
def fnDbGraphWrong : ChangeSpec := { name := "fnDbGraph", fn := fun _ => fun
  | [d] => { results := [.lit (.bool false)], args := [d] }
  | _ => none }
def FnDbGraphWrongFalsely : Prop := fnDbGraphRow.holds Try.pinned (OpenSpec.ofChange fnDbGraphWrong)

/-- 'laws.FnDbGraphLess': WHATEVER THE INPUT: true; the input reads as it did. -/
def fnDbGraphLessSpec : ChangeSpec := { name := "fnDbGraphLess", fn := fun _ => fun
  | [d1, d2] => { results := [.lit (.bool true)], args := [d1, d2] }
  | _ => none }
def fnDbGraphLessRow : OpenClaim := { program := "ytnkohgdfipgdoab", sum := "0580e539b07c3d7b39bc4b4e95185451aa51d8e8cad18c2f32214cb28a8bab40", func := "loop.example/linkstaterouting/laws.FnDbGraphLess", spec := "fnDbGraphLess", unfollowed := true, recurses := true, apart := false }
def FnDbGraphLessSaid : Prop := fnDbGraphLessRow.holds Try.pinned (OpenSpec.ofChange fnDbGraphLessSpec)

/-- ITS FALSE NEIGHBOUR: 'it returns false'. Refute it at one input. -/
def fnDbGraphLessWrong : ChangeSpec := { name := "fnDbGraphLess", fn := fun _ => fun
  | [d1, d2] => { results := [.lit (.bool false)], args := [d1, d2] }
  | _ => none }
def FnDbGraphLessWrongFalsely : Prop := fnDbGraphLessRow.holds Try.pinned (OpenSpec.ofChange fnDbGraphLessWrong)

/- THE SECOND FORM. 'bulk': how many values and letters a reading holds, each counted each time it is reached (what is shared counts as often as it is met; a slice's spare places count too). A statement '..UptoSaid' is the law's where the arguments, and the package variables that the reading takes, are together of bulk at most 1048576: NARROWER than '..Said'. Prove '..Said' where nothing that the law and all that it calls make is longer than what came in: it says more and counts as full. Else prove '..UptoSaid'. A law counts once. -/
mutual
def uptoBulk {H : Type} : DataW H → Nat
  | .lit (.string bytes) => bytes.length + 1
  | .lit _ => 1
  | .nil => 1
  | .ptr d => uptoBulk d + 1
  | .slice elems spare => uptoBulkAll elems + uptoBulkAll spare + 1
  | .agg parts => uptoBulkAll parts + 1
  | .iface _ d => uptoBulk d + 1
  | .map entries => uptoBulkEntries entries + 1
  | .held _ => 1
def uptoBulkAll {H : Type} : List (DataW H) → Nat
  | [] => 0
  | d :: r => uptoBulk d + uptoBulkAll r
def uptoBulkEntries {H : Type} : List (Lit × DataW H) → Nat
  | [] => 0
  | x :: r => uptoBulkEntry x + uptoBulkEntries r
def uptoBulkEntry {H : Type} : Lit × DataW H → Nat
  | (.string bytes, d) => bytes.length + uptoBulk d + 1
  | (_, d) => uptoBulk d + 1
 end
def uptoSmall : (H : Type) → List (DataW H) → Bool := fun _ ds => decide (uptoBulkAll ds ≤ 1048576)
def OpenSpec.upto (s : _root_.Go.ChangeSpec) : _root_.Go.OpenSpec := { _root_.Go.OpenSpec.ofChange s with cond := some uptoSmall }

/-- 'laws.FnExactAdjacencySync', WHERE WHAT IT READS IS OF BULK AT MOST 1048576: true; the input reads as it did. -/
def fnExactAdjacencySyncUptoRow : OpenClaim := { program := "ytnkohgdfipgdoab", sum := "0580e539b07c3d7b39bc4b4e95185451aa51d8e8cad18c2f32214cb28a8bab40", func := "loop.example/linkstaterouting/laws.FnExactAdjacencySync", spec := "fnExactAdjacencySync", unfollowed := true, recurses := true, apart := false, narrowed := true }
def FnExactAdjacencySyncUptoSaid : Prop := fnExactAdjacencySyncUptoRow.holds Try.pinned (OpenSpec.upto fnExactAdjacencySyncSpec)

/-- 'laws.FnSync', WHERE WHAT IT READS IS OF BULK AT MOST 1048576: true; the input reads as it did. -/
def fnSyncUptoRow : OpenClaim := { program := "ytnkohgdfipgdoab", sum := "0580e539b07c3d7b39bc4b4e95185451aa51d8e8cad18c2f32214cb28a8bab40", func := "loop.example/linkstaterouting/laws.FnSync", spec := "fnSync", unfollowed := true, recurses := true, apart := false, narrowed := true }
def FnSyncUptoSaid : Prop := fnSyncUptoRow.holds Try.pinned (OpenSpec.upto fnSyncSpec)

/-- 'laws.FnSyncMerge', WHERE WHAT IT READS IS OF BULK AT MOST 1048576: true; the input reads as it did. -/
def fnSyncMergeUptoRow : OpenClaim := { program := "ytnkohgdfipgdoab", sum := "0580e539b07c3d7b39bc4b4e95185451aa51d8e8cad18c2f32214cb28a8bab40", func := "loop.example/linkstaterouting/laws.FnSyncMerge", spec := "fnSyncMerge", unfollowed := true, recurses := true, apart := false, narrowed := true }
def FnSyncMergeUptoSaid : Prop := fnSyncMergeUptoRow.holds Try.pinned (OpenSpec.upto fnSyncMergeSpec)

/-- 'laws.FnSyncTwice', WHERE WHAT IT READS IS OF BULK AT MOST 1048576: true; the input reads as it did. -/
def fnSyncTwiceUptoRow : OpenClaim := { program := "ytnkohgdfipgdoab", sum := "0580e539b07c3d7b39bc4b4e95185451aa51d8e8cad18c2f32214cb28a8bab40", func := "loop.example/linkstaterouting/laws.FnSyncTwice", spec := "fnSyncTwice", unfollowed := true, recurses := true, apart := false, narrowed := true }
def FnSyncTwiceUptoSaid : Prop := fnSyncTwiceUptoRow.holds Try.pinned (OpenSpec.upto fnSyncTwiceSpec)

/-- 'laws.FnDbGraph', WHERE WHAT IT READS IS OF BULK AT MOST 1048576: true; the input reads as it did. -/
def fnDbGraphUptoRow : OpenClaim := { program := "ytnkohgdfipgdoab", sum := "0580e539b07c3d7b39bc4b4e95185451aa51d8e8cad18c2f32214cb28a8bab40", func := "loop.example/linkstaterouting/laws.FnDbGraph", spec := "fnDbGraph", unfollowed := true, recurses := true, apart := false, narrowed := true }
def FnDbGraphUptoSaid : Prop := fnDbGraphUptoRow.holds Try.pinned (OpenSpec.upto fnDbGraphSpec)

/-- 'laws.FnDbGraphLess', WHERE WHAT IT READS IS OF BULK AT MOST 1048576: true; the input reads as it did. -/
def fnDbGraphLessUptoRow : OpenClaim := { program := "ytnkohgdfipgdoab", sum := "0580e539b07c3d7b39bc4b4e95185451aa51d8e8cad18c2f32214cb28a8bab40", func := "loop.example/linkstaterouting/laws.FnDbGraphLess", spec := "fnDbGraphLess", unfollowed := true, recurses := true, apart := false, narrowed := true }
def FnDbGraphLessUptoSaid : Prop := fnDbGraphLessUptoRow.holds Try.pinned (OpenSpec.upto fnDbGraphLessSpec)

end Rows
end Go.Proofs.Ytnkohgdfipgdoab
