/-
  No cell of these rows narrows 'for every input' (looked for: loops, veiled, ifaces, maps, wideKeys, modest, calm, conditions, laid).
  DERIVED. THE GIVEN ROWS OF THIS SEAT. 6 by the template 'for every input the law returns true; each argument reads behind the call as it read before'; 0 by the template 'total and deterministic' (their statements: YtonnihalmomglaaTotals.lean).
  GIVEN WITH THE SEED: the statements are not yours to turn. If you find one false, say at which input.
  Laid BY PROGRAM, IN A SANDBOX (cutbox-rows.mjs): the forced cells as the released guide's own fill.sh prints them over the translation 44d5f69960ab860e… (all of the seat's roots in one cut). By AI agents, Wed Nov 11 2026. No macro, syntax, notation, axiom, sorry.
-/
import Derived.Test.YtonnihalmomglaaChecked
import GoSem.Claim
import GoSem.ClaimJoined
import GoSem.ClaimMapViews
import Derived.JoinedTies
import Derived.KernelRfl
namespace Go.Proofs.Ytonnihalmomglaa
/- THE CELL 'sum', in the pinned program and in every row, IS THE sha256 OF THE DUMP (.gsa) THAT YtonnihalmomglaaProg.lean LOADS. Nothing in Lean hashes anything: it is a label: what it is worth is what the hold of that sum in a sandbox is worth. -/
noncomputable def Try.pinned : Pinned := { name := "ytonnihalmomglaa", sum := "44d5f69960ab860e034ee341ad0e7b5873453a6a90f56b589aa65efab3d09458", checked := Try.checked }
namespace Rows
def none {H : Type} : Left H := { results := [], args := [] }

/-- 'laws.FnExactPathValid': WHATEVER THE INPUT: true; the input reads as it did. -/
def fnExactPathValidSpec : ChangeSpec := { name := "fnExactPathValid", fn := fun _ => fun
  | [d1, d2] => { results := [.lit (.bool true)], args := [d1, d2] }
  | _ => none }
def fnExactPathValidRow : OpenClaim := { program := "ytonnihalmomglaa", sum := "44d5f69960ab860e034ee341ad0e7b5873453a6a90f56b589aa65efab3d09458", func := "loop.example/linkstaterouting/laws.FnExactPathValid", spec := "fnExactPathValid", unfollowed := true, recurses := true, apart := false }
def FnExactPathValidSaid : Prop := fnExactPathValidRow.holds Try.pinned (OpenSpec.ofChange fnExactPathValidSpec)

/-- ITS FALSE NEIGHBOUR: 'it returns false'. Refute it at one input. -/
def fnExactPathValidWrong : ChangeSpec := { name := "fnExactPathValid", fn := fun _ => fun
  | [d1, d2] => { results := [.lit (.bool false)], args := [d1, d2] }
  | _ => none }
def FnExactPathValidWrongFalsely : Prop := fnExactPathValidRow.holds Try.pinned (OpenSpec.ofChange fnExactPathValidWrong)

/-- 'laws.FnExactPathCost': WHATEVER THE INPUT: true; the input reads as it did. -/
def fnExactPathCostSpec : ChangeSpec := { name := "fnExactPathCost", fn := fun _ => fun
  | [d1, d2] => { results := [.lit (.bool true)], args := [d1, d2] }
  | _ => none }
def fnExactPathCostRow : OpenClaim := { program := "ytonnihalmomglaa", sum := "44d5f69960ab860e034ee341ad0e7b5873453a6a90f56b589aa65efab3d09458", func := "loop.example/linkstaterouting/laws.FnExactPathCost", spec := "fnExactPathCost", unfollowed := true, recurses := true, apart := false }
def FnExactPathCostSaid : Prop := fnExactPathCostRow.holds Try.pinned (OpenSpec.ofChange fnExactPathCostSpec)

/-- ITS FALSE NEIGHBOUR: 'it returns false'. Refute it at one input. -/
def fnExactPathCostWrong : ChangeSpec := { name := "fnExactPathCost", fn := fun _ => fun
  | [d1, d2] => { results := [.lit (.bool false)], args := [d1, d2] }
  | _ => none }
def FnExactPathCostWrongFalsely : Prop := fnExactPathCostRow.holds Try.pinned (OpenSpec.ofChange fnExactPathCostWrong)

/-- 'laws.FnExactStackCompile': WHATEVER THE INPUT: true; the input reads as it did. -/
def fnExactStackCompileSpec : ChangeSpec := { name := "fnExactStackCompile", fn := fun _ => fun
  | [d1, d2] => { results := [.lit (.bool true)], args := [d1, d2] }
  | _ => none }
def fnExactStackCompileRow : OpenClaim := { program := "ytonnihalmomglaa", sum := "44d5f69960ab860e034ee341ad0e7b5873453a6a90f56b589aa65efab3d09458", func := "loop.example/linkstaterouting/laws.FnExactStackCompile", spec := "fnExactStackCompile", unfollowed := true, recurses := true, apart := false }
def FnExactStackCompileSaid : Prop := fnExactStackCompileRow.holds Try.pinned (OpenSpec.ofChange fnExactStackCompileSpec)

/-- ITS FALSE NEIGHBOUR: 'it returns false'. Refute it at one input. -/
def fnExactStackCompileWrong : ChangeSpec := { name := "fnExactStackCompile", fn := fun _ => fun
  | [d1, d2] => { results := [.lit (.bool false)], args := [d1, d2] }
  | _ => none }
def FnExactStackCompileWrongFalsely : Prop := fnExactStackCompileRow.holds Try.pinned (OpenSpec.ofChange fnExactStackCompileWrong)

/-- 'laws.FnPathValid': WHATEVER THE INPUT: true; the input reads as it did. -/
def fnPathValidSpec : ChangeSpec := { name := "fnPathValid", fn := fun _ => fun
  | [d] => { results := [.lit (.bool true)], args := [d] }
  | _ => none }
def fnPathValidRow : OpenClaim := { program := "ytonnihalmomglaa", sum := "44d5f69960ab860e034ee341ad0e7b5873453a6a90f56b589aa65efab3d09458", func := "loop.example/linkstaterouting/laws.FnPathValid", spec := "fnPathValid", unfollowed := true, recurses := true, apart := false }
def FnPathValidSaid : Prop := fnPathValidRow.holds Try.pinned (OpenSpec.ofChange fnPathValidSpec)

/-- ITS FALSE NEIGHBOUR: 'it returns false'. Refute it at one input. -/
def fnPathValidWrong : ChangeSpec := { name := "fnPathValid", fn := fun _ => fun
  | [d] => { results := [.lit (.bool false)], args := [d] }
  | _ => none }
def FnPathValidWrongFalsely : Prop := fnPathValidRow.holds Try.pinned (OpenSpec.ofChange fnPathValidWrong)

/-- 'laws.FnPathCost': WHATEVER THE INPUT: true; the input reads as it did. -/
def fnPathCostSpec : ChangeSpec := { name := "fnPathCost", fn := fun _ => fun
  | [d] => { results := [.lit (.bool true)], args := [d] }
  | _ => none }
def fnPathCostRow : OpenClaim := { program := "ytonnihalmomglaa", sum := "44d5f69960ab860e034ee341ad0e7b5873453a6a90f56b589aa65efab3d09458", func := "loop.example/linkstaterouting/laws.FnPathCost", spec := "fnPathCost", unfollowed := true, recurses := true, apart := false }
def FnPathCostSaid : Prop := fnPathCostRow.holds Try.pinned (OpenSpec.ofChange fnPathCostSpec)

/-- ITS FALSE NEIGHBOUR: 'it returns false'. Refute it at one input. -/
def fnPathCostWrong : ChangeSpec := { name := "fnPathCost", fn := fun _ => fun
  | [d] => { results := [.lit (.bool false)], args := [d] }
  | _ => none }
def FnPathCostWrongFalsely : Prop := fnPathCostRow.holds Try.pinned (OpenSpec.ofChange fnPathCostWrong)

/-- 'laws.FnCompile': WHATEVER THE INPUT: true; the input reads as it did. -/
def fnCompileSpec : ChangeSpec := { name := "fnCompile", fn := fun _ => fun
  | [d] => { results := [.lit (.bool true)], args := [d] }
  | _ => none }
def fnCompileRow : OpenClaim := { program := "ytonnihalmomglaa", sum := "44d5f69960ab860e034ee341ad0e7b5873453a6a90f56b589aa65efab3d09458", func := "loop.example/linkstaterouting/laws.FnCompile", spec := "fnCompile", unfollowed := true, recurses := true, apart := false }
def FnCompileSaid : Prop := fnCompileRow.holds Try.pinned (OpenSpec.ofChange fnCompileSpec)

/-- ITS FALSE NEIGHBOUR: 'it returns false'. Refute it at one input. -/
def fnCompileWrong : ChangeSpec := { name := "fnCompile", fn := fun _ => fun
  | [d] => { results := [.lit (.bool false)], args := [d] }
  | _ => none }
def FnCompileWrongFalsely : Prop := fnCompileRow.holds Try.pinned (OpenSpec.ofChange fnCompileWrong)

/- THE SECOND FORM. 'bulk': how many values and letters a reading holds, each counted each time it is reached (what is shared counts as often as it is met; a slice's spare places count too). A statement '..UptoSaid' is the law's where the arguments, and the package variables that the reading takes, are together of bulk at most 1048576: NARROWER than '..Said'. Prove '..Said' where nothing that the law and all that it calls make is longer than what came in: it says more and counts as full. Else prove '..UptoSaid'. A law counts once. -/
mutual
def uptoBulk {H : Type} : DataW H → Nat
  | .lit (.string bytes) => bytes.length + 1
  | .lit _ => 1
  | .nil => 1
  | .ptr d => uptoBulk d + 1
  | .slice elems spare => uptoBulkAll elems + uptoBulkAll spare + 1
  | .agg parts => uptoBulkAll parts + 1
  | .iface _ d => uptoBulk d + 1
  | .map entries => uptoBulkEntries entries + 1
  | .held _ => 1
def uptoBulkAll {H : Type} : List (DataW H) → Nat
  | [] => 0
  | d :: r => uptoBulk d + uptoBulkAll r
def uptoBulkEntries {H : Type} : List (Lit × DataW H) → Nat
  | [] => 0
  | x :: r => uptoBulkEntry x + uptoBulkEntries r
def uptoBulkEntry {H : Type} : Lit × DataW H → Nat
  | (.string bytes, d) => bytes.length + uptoBulk d + 1
  | (_, d) => uptoBulk d + 1
 end
def uptoSmall : (H : Type) → List (DataW H) → Bool := fun _ ds => decide (uptoBulkAll ds ≤ 1048576)
def OpenSpec.upto (s : _root_.Go.ChangeSpec) : _root_.Go.OpenSpec := { _root_.Go.OpenSpec.ofChange s with cond := some uptoSmall }

/-- 'laws.FnExactPathValid', WHERE WHAT IT READS IS OF BULK AT MOST 1048576: true; the input reads as it did. -/
def fnExactPathValidUptoRow : OpenClaim := { program := "ytonnihalmomglaa", sum := "44d5f69960ab860e034ee341ad0e7b5873453a6a90f56b589aa65efab3d09458", func := "loop.example/linkstaterouting/laws.FnExactPathValid", spec := "fnExactPathValid", unfollowed := true, recurses := true, apart := false, narrowed := true }
def FnExactPathValidUptoSaid : Prop := fnExactPathValidUptoRow.holds Try.pinned (OpenSpec.upto fnExactPathValidSpec)

/-- 'laws.FnExactPathCost', WHERE WHAT IT READS IS OF BULK AT MOST 1048576: true; the input reads as it did. -/
def fnExactPathCostUptoRow : OpenClaim := { program := "ytonnihalmomglaa", sum := "44d5f69960ab860e034ee341ad0e7b5873453a6a90f56b589aa65efab3d09458", func := "loop.example/linkstaterouting/laws.FnExactPathCost", spec := "fnExactPathCost", unfollowed := true, recurses := true, apart := false, narrowed := true }
def FnExactPathCostUptoSaid : Prop := fnExactPathCostUptoRow.holds Try.pinned (OpenSpec.upto fnExactPathCostSpec)

/-- 'laws.FnExactStackCompile', WHERE WHAT IT READS IS OF BULK AT MOST 1048576: true; the input reads as it did. -/
def fnExactStackCompileUptoRow : OpenClaim := { program := "ytonnihalmomglaa", sum := "44d5f69960ab860e034ee341ad0e7b5873453a6a90f56b589aa65efab3d09458", func := "loop.example/linkstaterouting/laws.FnExactStackCompile", spec := "fnExactStackCompile", unfollowed := true, recurses := true, apart := false, narrowed := true }
def FnExactStackCompileUptoSaid : Prop := fnExactStackCompileUptoRow.holds Try.pinned (OpenSpec.upto fnExactStackCompileSpec)

/-- 'laws.FnPathValid', WHERE WHAT IT READS IS OF BULK AT MOST 1048576: true; the input reads as it did. -/
def fnPathValidUptoRow : OpenClaim := { program := "ytonnihalmomglaa", sum := "44d5f69960ab860e034ee341ad0e7b5873453a6a90f56b589aa65efab3d09458", func := "loop.example/linkstaterouting/laws.FnPathValid", spec := "fnPathValid", unfollowed := true, recurses := true, apart := false, narrowed := true }
def FnPathValidUptoSaid : Prop := fnPathValidUptoRow.holds Try.pinned (OpenSpec.upto fnPathValidSpec)

/-- 'laws.FnPathCost', WHERE WHAT IT READS IS OF BULK AT MOST 1048576: true; the input reads as it did. -/
def fnPathCostUptoRow : OpenClaim := { program := "ytonnihalmomglaa", sum := "44d5f69960ab860e034ee341ad0e7b5873453a6a90f56b589aa65efab3d09458", func := "loop.example/linkstaterouting/laws.FnPathCost", spec := "fnPathCost", unfollowed := true, recurses := true, apart := false, narrowed := true }
def FnPathCostUptoSaid : Prop := fnPathCostUptoRow.holds Try.pinned (OpenSpec.upto fnPathCostSpec)

/-- 'laws.FnCompile', WHERE WHAT IT READS IS OF BULK AT MOST 1048576: true; the input reads as it did. -/
def fnCompileUptoRow : OpenClaim := { program := "ytonnihalmomglaa", sum := "44d5f69960ab860e034ee341ad0e7b5873453a6a90f56b589aa65efab3d09458", func := "loop.example/linkstaterouting/laws.FnCompile", spec := "fnCompile", unfollowed := true, recurses := true, apart := false, narrowed := true }
def FnCompileUptoSaid : Prop := fnCompileUptoRow.holds Try.pinned (OpenSpec.upto fnCompileSpec)

end Rows
end Go.Proofs.Ytonnihalmomglaa
