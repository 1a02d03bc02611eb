/-
  No cell of these rows narrows 'for every input' (looked for: loops, veiled, ifaces, maps, wideKeys, modest, calm, conditions, laid).
  DERIVED. THE GIVEN ROWS OF THIS SEAT. 8 by the template 'for every input the law returns true; each argument reads behind the call as it read before'; 0 by the template 'total and deterministic' (their statements: YtenlofomkchlaacTotals.lean).
  GIVEN WITH THE SEED: the statements are not yours to turn. If you find one false, say at which input.
  Laid BY PROGRAM, IN A SANDBOX (cutbox-rows.mjs): the forced cells as the released guide's own fill.sh prints them over the translation ef51047304a33914… (all of the seat's roots in one cut). By AI agents, Wed Nov 11 2026. No macro, syntax, notation, axiom, sorry.
-/
import Derived.Test.YtenlofomkchlaacChecked
import GoSem.Claim
import GoSem.ClaimJoined
import GoSem.ClaimMapViews
import Derived.JoinedTies
import Derived.KernelRfl
namespace Go.Proofs.Ytenlofomkchlaac
/- THE CELL 'sum', in the pinned program and in every row, IS THE sha256 OF THE DUMP (.gsa) THAT YtenlofomkchlaacProg.lean LOADS. Nothing in Lean hashes anything: it is a label: what it is worth is what the hold of that sum in a sandbox is worth. -/
noncomputable def Try.pinned : Pinned := { name := "ytenlofomkchlaac", sum := "ef51047304a339144ba557485b21c0e8cfd87442868d07d11038379bc7501ed0", checked := Try.checked }
namespace Rows
def none {H : Type} : Left H := { results := [], args := [] }

/-- 'laws.FnExactStackCompile': WHATEVER THE INPUT: true; the input reads as it did. -/
def fnExactStackCompileSpec : ChangeSpec := { name := "fnExactStackCompile", fn := fun _ => fun
  | [d1, d2] => { results := [.lit (.bool true)], args := [d1, d2] }
  | _ => none }
def fnExactStackCompileRow : OpenClaim := { program := "ytenlofomkchlaac", sum := "ef51047304a339144ba557485b21c0e8cfd87442868d07d11038379bc7501ed0", func := "loop.example/linkstaterouting/laws.FnExactStackCompile", spec := "fnExactStackCompile", unfollowed := true, recurses := true, apart := false }
def FnExactStackCompileSaid : Prop := fnExactStackCompileRow.holds Try.pinned (OpenSpec.ofChange fnExactStackCompileSpec)

/-- ITS FALSE NEIGHBOUR: 'it returns false'. Refute it at one input. -/
def fnExactStackCompileWrong : ChangeSpec := { name := "fnExactStackCompile", fn := fun _ => fun
  | [d1, d2] => { results := [.lit (.bool false)], args := [d1, d2] }
  | _ => none }
def FnExactStackCompileWrongFalsely : Prop := fnExactStackCompileRow.holds Try.pinned (OpenSpec.ofChange fnExactStackCompileWrong)

/-- 'laws.FnCompile': WHATEVER THE INPUT: true; the input reads as it did. -/
def fnCompileSpec : ChangeSpec := { name := "fnCompile", fn := fun _ => fun
  | [d] => { results := [.lit (.bool true)], args := [d] }
  | _ => none }
def fnCompileRow : OpenClaim := { program := "ytenlofomkchlaac", sum := "ef51047304a339144ba557485b21c0e8cfd87442868d07d11038379bc7501ed0", func := "loop.example/linkstaterouting/laws.FnCompile", spec := "fnCompile", unfollowed := true, recurses := true, apart := false }
def FnCompileSaid : Prop := fnCompileRow.holds Try.pinned (OpenSpec.ofChange fnCompileSpec)

/-- ITS FALSE NEIGHBOUR: 'it returns false'. Refute it at one input. -/
def fnCompileWrong : ChangeSpec := { name := "fnCompile", fn := fun _ => fun
  | [d] => { results := [.lit (.bool false)], args := [d] }
  | _ => none }
def FnCompileWrongFalsely : Prop := fnCompileRow.holds Try.pinned (OpenSpec.ofChange fnCompileWrong)

/-- 'laws.FnCompileCost': WHATEVER THE INPUT: true; the input reads as it did. -/
def fnCompileCostSpec : ChangeSpec := { name := "fnCompileCost", fn := fun _ => fun
  | [d] => { results := [.lit (.bool true)], args := [d] }
  | _ => none }
def fnCompileCostRow : OpenClaim := { program := "ytenlofomkchlaac", sum := "ef51047304a339144ba557485b21c0e8cfd87442868d07d11038379bc7501ed0", func := "loop.example/linkstaterouting/laws.FnCompileCost", spec := "fnCompileCost", unfollowed := true, recurses := true, apart := false }
def FnCompileCostSaid : Prop := fnCompileCostRow.holds Try.pinned (OpenSpec.ofChange fnCompileCostSpec)

/-- ITS FALSE NEIGHBOUR: 'it returns false'. Refute it at one input. -/
def fnCompileCostWrong : ChangeSpec := { name := "fnCompileCost", fn := fun _ => fun
  | [d] => { results := [.lit (.bool false)], args := [d] }
  | _ => none }
def FnCompileCostWrongFalsely : Prop := fnCompileCostRow.holds Try.pinned (OpenSpec.ofChange fnCompileCostWrong)

/-- 'laws.FnCompileShort': WHATEVER THE INPUT: true; the input reads as it did. -/
def fnCompileShortSpec : ChangeSpec := { name := "fnCompileShort", fn := fun _ => fun
  | [d1, d2] => { results := [.lit (.bool true)], args := [d1, d2] }
  | _ => none }
def fnCompileShortRow : OpenClaim := { program := "ytenlofomkchlaac", sum := "ef51047304a339144ba557485b21c0e8cfd87442868d07d11038379bc7501ed0", func := "loop.example/linkstaterouting/laws.FnCompileShort", spec := "fnCompileShort", unfollowed := true, recurses := true, apart := false }
def FnCompileShortSaid : Prop := fnCompileShortRow.holds Try.pinned (OpenSpec.ofChange fnCompileShortSpec)

/-- ITS FALSE NEIGHBOUR: 'it returns false'. Refute it at one input. -/
def fnCompileShortWrong : ChangeSpec := { name := "fnCompileShort", fn := fun _ => fun
  | [d1, d2] => { results := [.lit (.bool false)], args := [d1, d2] }
  | _ => none }
def FnCompileShortWrongFalsely : Prop := fnCompileShortRow.holds Try.pinned (OpenSpec.ofChange fnCompileShortWrong)

/-- 'laws.FnCompileOne': WHATEVER THE INPUT: true; the input reads as it did. -/
def fnCompileOneSpec : ChangeSpec := { name := "fnCompileOne", fn := fun _ => fun
  | [d] => { results := [.lit (.bool true)], args := [d] }
  | _ => none }
def fnCompileOneRow : OpenClaim := { program := "ytenlofomkchlaac", sum := "ef51047304a339144ba557485b21c0e8cfd87442868d07d11038379bc7501ed0", func := "loop.example/linkstaterouting/laws.FnCompileOne", spec := "fnCompileOne", unfollowed := true, recurses := true, apart := false }
def FnCompileOneSaid : Prop := fnCompileOneRow.holds Try.pinned (OpenSpec.ofChange fnCompileOneSpec)

/-- ITS FALSE NEIGHBOUR: 'it returns false'. Refute it at one input. -/
def fnCompileOneWrong : ChangeSpec := { name := "fnCompileOne", fn := fun _ => fun
  | [d] => { results := [.lit (.bool false)], args := [d] }
  | _ => none }
def FnCompileOneWrongFalsely : Prop := fnCompileOneRow.holds Try.pinned (OpenSpec.ofChange fnCompileOneWrong)

/-- 'laws.FnCompileOther': WHATEVER THE INPUT: true; the input reads as it did. -/
def fnCompileOtherSpec : ChangeSpec := { name := "fnCompileOther", fn := fun _ => fun
  | [d] => { results := [.lit (.bool true)], args := [d] }
  | _ => none }
def fnCompileOtherRow : OpenClaim := { program := "ytenlofomkchlaac", sum := "ef51047304a339144ba557485b21c0e8cfd87442868d07d11038379bc7501ed0", func := "loop.example/linkstaterouting/laws.FnCompileOther", spec := "fnCompileOther", unfollowed := true, recurses := true, apart := false }
def FnCompileOtherSaid : Prop := fnCompileOtherRow.holds Try.pinned (OpenSpec.ofChange fnCompileOtherSpec)

/-- ITS FALSE NEIGHBOUR: 'it returns false'. Refute it at one input. -/
def fnCompileOtherWrong : ChangeSpec := { name := "fnCompileOther", fn := fun _ => fun
  | [d] => { results := [.lit (.bool false)], args := [d] }
  | _ => none }
def FnCompileOtherWrongFalsely : Prop := fnCompileOtherRow.holds Try.pinned (OpenSpec.ofChange fnCompileOtherWrong)

/-- 'laws.FnCompileBack': WHATEVER THE INPUT: true; the input reads as it did. -/
def fnCompileBackSpec : ChangeSpec := { name := "fnCompileBack", fn := fun _ => fun
  | [d] => { results := [.lit (.bool true)], args := [d] }
  | _ => none }
def fnCompileBackRow : OpenClaim := { program := "ytenlofomkchlaac", sum := "ef51047304a339144ba557485b21c0e8cfd87442868d07d11038379bc7501ed0", func := "loop.example/linkstaterouting/laws.FnCompileBack", spec := "fnCompileBack", unfollowed := true, recurses := true, apart := false }
def FnCompileBackSaid : Prop := fnCompileBackRow.holds Try.pinned (OpenSpec.ofChange fnCompileBackSpec)

/-- ITS FALSE NEIGHBOUR: 'it returns false'. Refute it at one input. -/
def fnCompileBackWrong : ChangeSpec := { name := "fnCompileBack", fn := fun _ => fun
  | [d] => { results := [.lit (.bool false)], args := [d] }
  | _ => none }
def FnCompileBackWrongFalsely : Prop := fnCompileBackRow.holds Try.pinned (OpenSpec.ofChange fnCompileBackWrong)

/-- 'laws.FnCompileShortest': WHATEVER THE INPUT: true; the input reads as it did. -/
def fnCompileShortestSpec : ChangeSpec := { name := "fnCompileShortest", fn := fun _ => fun
  | [d] => { results := [.lit (.bool true)], args := [d] }
  | _ => none }
def fnCompileShortestRow : OpenClaim := { program := "ytenlofomkchlaac", sum := "ef51047304a339144ba557485b21c0e8cfd87442868d07d11038379bc7501ed0", func := "loop.example/linkstaterouting/laws.FnCompileShortest", spec := "fnCompileShortest", unfollowed := true, recurses := true, apart := false }
def FnCompileShortestSaid : Prop := fnCompileShortestRow.holds Try.pinned (OpenSpec.ofChange fnCompileShortestSpec)

/-- ITS FALSE NEIGHBOUR: 'it returns false'. Refute it at one input. -/
def fnCompileShortestWrong : ChangeSpec := { name := "fnCompileShortest", fn := fun _ => fun
  | [d] => { results := [.lit (.bool false)], args := [d] }
  | _ => none }
def FnCompileShortestWrongFalsely : Prop := fnCompileShortestRow.holds Try.pinned (OpenSpec.ofChange fnCompileShortestWrong)

/- THE SECOND FORM. 'bulk': how many values and letters a reading holds, each counted each time it is reached (what is shared counts as often as it is met; a slice's spare places count too). A statement '..UptoSaid' is the law's where the arguments, and the package variables that the reading takes, are together of bulk at most 1048576: NARROWER than '..Said'. Prove '..Said' where nothing that the law and all that it calls make is longer than what came in: it says more and counts as full. Else prove '..UptoSaid'. A law counts once. -/
mutual
def uptoBulk {H : Type} : DataW H → Nat
  | .lit (.string bytes) => bytes.length + 1
  | .lit _ => 1
  | .nil => 1
  | .ptr d => uptoBulk d + 1
  | .slice elems spare => uptoBulkAll elems + uptoBulkAll spare + 1
  | .agg parts => uptoBulkAll parts + 1
  | .iface _ d => uptoBulk d + 1
  | .map entries => uptoBulkEntries entries + 1
  | .held _ => 1
def uptoBulkAll {H : Type} : List (DataW H) → Nat
  | [] => 0
  | d :: r => uptoBulk d + uptoBulkAll r
def uptoBulkEntries {H : Type} : List (Lit × DataW H) → Nat
  | [] => 0
  | x :: r => uptoBulkEntry x + uptoBulkEntries r
def uptoBulkEntry {H : Type} : Lit × DataW H → Nat
  | (.string bytes, d) => bytes.length + uptoBulk d + 1
  | (_, d) => uptoBulk d + 1
 end
def uptoSmall : (H : Type) → List (DataW H) → Bool := fun _ ds => decide (uptoBulkAll ds ≤ 1048576)
def OpenSpec.upto (s : _root_.Go.ChangeSpec) : _root_.Go.OpenSpec := { _root_.Go.OpenSpec.ofChange s with cond := some uptoSmall }

/-- 'laws.FnExactStackCompile', WHERE WHAT IT READS IS OF BULK AT MOST 1048576: true; the input reads as it did. -/
def fnExactStackCompileUptoRow : OpenClaim := { program := "ytenlofomkchlaac", sum := "ef51047304a339144ba557485b21c0e8cfd87442868d07d11038379bc7501ed0", func := "loop.example/linkstaterouting/laws.FnExactStackCompile", spec := "fnExactStackCompile", unfollowed := true, recurses := true, apart := false, narrowed := true }
def FnExactStackCompileUptoSaid : Prop := fnExactStackCompileUptoRow.holds Try.pinned (OpenSpec.upto fnExactStackCompileSpec)

/-- 'laws.FnCompile', WHERE WHAT IT READS IS OF BULK AT MOST 1048576: true; the input reads as it did. -/
def fnCompileUptoRow : OpenClaim := { program := "ytenlofomkchlaac", sum := "ef51047304a339144ba557485b21c0e8cfd87442868d07d11038379bc7501ed0", func := "loop.example/linkstaterouting/laws.FnCompile", spec := "fnCompile", unfollowed := true, recurses := true, apart := false, narrowed := true }
def FnCompileUptoSaid : Prop := fnCompileUptoRow.holds Try.pinned (OpenSpec.upto fnCompileSpec)

/-- 'laws.FnCompileCost', WHERE WHAT IT READS IS OF BULK AT MOST 1048576: true; the input reads as it did. -/
def fnCompileCostUptoRow : OpenClaim := { program := "ytenlofomkchlaac", sum := "ef51047304a339144ba557485b21c0e8cfd87442868d07d11038379bc7501ed0", func := "loop.example/linkstaterouting/laws.FnCompileCost", spec := "fnCompileCost", unfollowed := true, recurses := true, apart := false, narrowed := true }
def FnCompileCostUptoSaid : Prop := fnCompileCostUptoRow.holds Try.pinned (OpenSpec.upto fnCompileCostSpec)

/-- 'laws.FnCompileShort', WHERE WHAT IT READS IS OF BULK AT MOST 1048576: true; the input reads as it did. -/
def fnCompileShortUptoRow : OpenClaim := { program := "ytenlofomkchlaac", sum := "ef51047304a339144ba557485b21c0e8cfd87442868d07d11038379bc7501ed0", func := "loop.example/linkstaterouting/laws.FnCompileShort", spec := "fnCompileShort", unfollowed := true, recurses := true, apart := false, narrowed := true }
def FnCompileShortUptoSaid : Prop := fnCompileShortUptoRow.holds Try.pinned (OpenSpec.upto fnCompileShortSpec)

/-- 'laws.FnCompileOne', WHERE WHAT IT READS IS OF BULK AT MOST 1048576: true; the input reads as it did. -/
def fnCompileOneUptoRow : OpenClaim := { program := "ytenlofomkchlaac", sum := "ef51047304a339144ba557485b21c0e8cfd87442868d07d11038379bc7501ed0", func := "loop.example/linkstaterouting/laws.FnCompileOne", spec := "fnCompileOne", unfollowed := true, recurses := true, apart := false, narrowed := true }
def FnCompileOneUptoSaid : Prop := fnCompileOneUptoRow.holds Try.pinned (OpenSpec.upto fnCompileOneSpec)

/-- 'laws.FnCompileOther', WHERE WHAT IT READS IS OF BULK AT MOST 1048576: true; the input reads as it did. -/
def fnCompileOtherUptoRow : OpenClaim := { program := "ytenlofomkchlaac", sum := "ef51047304a339144ba557485b21c0e8cfd87442868d07d11038379bc7501ed0", func := "loop.example/linkstaterouting/laws.FnCompileOther", spec := "fnCompileOther", unfollowed := true, recurses := true, apart := false, narrowed := true }
def FnCompileOtherUptoSaid : Prop := fnCompileOtherUptoRow.holds Try.pinned (OpenSpec.upto fnCompileOtherSpec)

/-- 'laws.FnCompileBack', WHERE WHAT IT READS IS OF BULK AT MOST 1048576: true; the input reads as it did. -/
def fnCompileBackUptoRow : OpenClaim := { program := "ytenlofomkchlaac", sum := "ef51047304a339144ba557485b21c0e8cfd87442868d07d11038379bc7501ed0", func := "loop.example/linkstaterouting/laws.FnCompileBack", spec := "fnCompileBack", unfollowed := true, recurses := true, apart := false, narrowed := true }
def FnCompileBackUptoSaid : Prop := fnCompileBackUptoRow.holds Try.pinned (OpenSpec.upto fnCompileBackSpec)

/-- 'laws.FnCompileShortest', WHERE WHAT IT READS IS OF BULK AT MOST 1048576: true; the input reads as it did. -/
def fnCompileShortestUptoRow : OpenClaim := { program := "ytenlofomkchlaac", sum := "ef51047304a339144ba557485b21c0e8cfd87442868d07d11038379bc7501ed0", func := "loop.example/linkstaterouting/laws.FnCompileShortest", spec := "fnCompileShortest", unfollowed := true, recurses := true, apart := false, narrowed := true }
def FnCompileShortestUptoSaid : Prop := fnCompileShortestUptoRow.holds Try.pinned (OpenSpec.upto fnCompileShortestSpec)

end Rows
end Go.Proofs.Ytenlofomkchlaac
