/-
  No cell of these rows narrows 'for every input' (looked for: loops, veiled, ifaces, maps, wideKeys, modest, calm, conditions, laid).
  DERIVED. THE GIVEN ROWS OF THIS SEAT. 8 by the template 'for every input the law returns true; each argument reads behind the call as it read before'; 0 by the template 'total and deterministic' (their statements: YtenlofomkchlaaaTotals.lean).
  GIVEN WITH THE SEED: the statements are not yours to turn. If you find one false, say at which input.
  Laid BY PROGRAM, IN A SANDBOX (cutbox-rows.mjs): the forced cells as the released guide's own fill.sh prints them over the translation f5c5d54615d4b8f4… (all of the seat's roots in one cut). By AI agents, Wed Nov 11 2026. No macro, syntax, notation, axiom, sorry.
-/
import Derived.Test.YtenlofomkchlaaaChecked
import GoSem.Claim
import GoSem.ClaimJoined
import GoSem.ClaimMapViews
import Derived.JoinedTies
import Derived.KernelRfl
namespace Go.Proofs.Ytenlofomkchlaaa
/- THE CELL 'sum', in the pinned program and in every row, IS THE sha256 OF THE DUMP (.gsa) THAT YtenlofomkchlaaaProg.lean LOADS. Nothing in Lean hashes anything: it is a label: what it is worth is what the hold of that sum in a sandbox is worth. -/
noncomputable def Try.pinned : Pinned := { name := "ytenlofomkchlaaa", sum := "f5c5d54615d4b8f4f0c21370879d88180bebf6e060026e0fbac123d71ea6afe8", checked := Try.checked }
namespace Rows
def none {H : Type} : Left H := { results := [], args := [] }

/-- 'laws.FnExactRepairSafe': WHATEVER THE INPUT: true; the input reads as it did. -/
def fnExactRepairSafeSpec : ChangeSpec := { name := "fnExactRepairSafe", fn := fun _ => fun
  | [d1, d2, d3] => { results := [.lit (.bool true)], args := [d1, d2, d3] }
  | _ => none }
def fnExactRepairSafeRow : OpenClaim := { program := "ytenlofomkchlaaa", sum := "f5c5d54615d4b8f4f0c21370879d88180bebf6e060026e0fbac123d71ea6afe8", func := "loop.example/linkstaterouting/laws.FnExactRepairSafe", spec := "fnExactRepairSafe", unfollowed := true, recurses := true, apart := false }
def FnExactRepairSafeSaid : Prop := fnExactRepairSafeRow.holds Try.pinned (OpenSpec.ofChange fnExactRepairSafeSpec)

/-- ITS FALSE NEIGHBOUR: 'it returns false'. Refute it at one input. -/
def fnExactRepairSafeWrong : ChangeSpec := { name := "fnExactRepairSafe", fn := fun _ => fun
  | [d1, d2, d3] => { results := [.lit (.bool false)], args := [d1, d2, d3] }
  | _ => none }
def FnExactRepairSafeWrongFalsely : Prop := fnExactRepairSafeRow.holds Try.pinned (OpenSpec.ofChange fnExactRepairSafeWrong)

/-- 'laws.FnExactRepairPath': WHATEVER THE INPUT: true; the input reads as it did. -/
def fnExactRepairPathSpec : ChangeSpec := { name := "fnExactRepairPath", fn := fun _ => fun
  | [d1, d2, d3, d4] => { results := [.lit (.bool true)], args := [d1, d2, d3, d4] }
  | _ => none }
def fnExactRepairPathRow : OpenClaim := { program := "ytenlofomkchlaaa", sum := "f5c5d54615d4b8f4f0c21370879d88180bebf6e060026e0fbac123d71ea6afe8", func := "loop.example/linkstaterouting/laws.FnExactRepairPath", spec := "fnExactRepairPath", unfollowed := true, recurses := true, apart := false }
def FnExactRepairPathSaid : Prop := fnExactRepairPathRow.holds Try.pinned (OpenSpec.ofChange fnExactRepairPathSpec)

/-- ITS FALSE NEIGHBOUR: 'it returns false'. Refute it at one input. -/
def fnExactRepairPathWrong : ChangeSpec := { name := "fnExactRepairPath", fn := fun _ => fun
  | [d1, d2, d3, d4] => { results := [.lit (.bool false)], args := [d1, d2, d3, d4] }
  | _ => none }
def FnExactRepairPathWrongFalsely : Prop := fnExactRepairPathRow.holds Try.pinned (OpenSpec.ofChange fnExactRepairPathWrong)

/-- 'laws.FnExactRepairNeeded': WHATEVER THE INPUT: true; the input reads as it did. -/
def fnExactRepairNeededSpec : ChangeSpec := { name := "fnExactRepairNeeded", fn := fun _ => fun
  | [d1, d2, d3] => { results := [.lit (.bool true)], args := [d1, d2, d3] }
  | _ => none }
def fnExactRepairNeededRow : OpenClaim := { program := "ytenlofomkchlaaa", sum := "f5c5d54615d4b8f4f0c21370879d88180bebf6e060026e0fbac123d71ea6afe8", func := "loop.example/linkstaterouting/laws.FnExactRepairNeeded", spec := "fnExactRepairNeeded", unfollowed := true, recurses := true, apart := false }
def FnExactRepairNeededSaid : Prop := fnExactRepairNeededRow.holds Try.pinned (OpenSpec.ofChange fnExactRepairNeededSpec)

/-- ITS FALSE NEIGHBOUR: 'it returns false'. Refute it at one input. -/
def fnExactRepairNeededWrong : ChangeSpec := { name := "fnExactRepairNeeded", fn := fun _ => fun
  | [d1, d2, d3] => { results := [.lit (.bool false)], args := [d1, d2, d3] }
  | _ => none }
def FnExactRepairNeededWrongFalsely : Prop := fnExactRepairNeededRow.holds Try.pinned (OpenSpec.ofChange fnExactRepairNeededWrong)

/-- 'laws.FnSafeNodes': WHATEVER THE INPUT: true; the input reads as it did. -/
def fnSafeNodesSpec : ChangeSpec := { name := "fnSafeNodes", fn := fun _ => fun
  | [d] => { results := [.lit (.bool true)], args := [d] }
  | _ => none }
def fnSafeNodesRow : OpenClaim := { program := "ytenlofomkchlaaa", sum := "f5c5d54615d4b8f4f0c21370879d88180bebf6e060026e0fbac123d71ea6afe8", func := "loop.example/linkstaterouting/laws.FnSafeNodes", spec := "fnSafeNodes", unfollowed := true, recurses := true, apart := false }
def FnSafeNodesSaid : Prop := fnSafeNodesRow.holds Try.pinned (OpenSpec.ofChange fnSafeNodesSpec)

/-- ITS FALSE NEIGHBOUR: 'it returns false'. Refute it at one input. -/
def fnSafeNodesWrong : ChangeSpec := { name := "fnSafeNodes", fn := fun _ => fun
  | [d] => { results := [.lit (.bool false)], args := [d] }
  | _ => none }
def FnSafeNodesWrongFalsely : Prop := fnSafeNodesRow.holds Try.pinned (OpenSpec.ofChange fnSafeNodesWrong)

/-- 'laws.FnSafeSame': WHATEVER THE INPUT: true; the input reads as it did. -/
def fnSafeSameSpec : ChangeSpec := { name := "fnSafeSame", fn := fun _ => fun
  | [d] => { results := [.lit (.bool true)], args := [d] }
  | _ => none }
def fnSafeSameRow : OpenClaim := { program := "ytenlofomkchlaaa", sum := "f5c5d54615d4b8f4f0c21370879d88180bebf6e060026e0fbac123d71ea6afe8", func := "loop.example/linkstaterouting/laws.FnSafeSame", spec := "fnSafeSame", unfollowed := true, recurses := true, apart := false }
def FnSafeSameSaid : Prop := fnSafeSameRow.holds Try.pinned (OpenSpec.ofChange fnSafeSameSpec)

/-- ITS FALSE NEIGHBOUR: 'it returns false'. Refute it at one input. -/
def fnSafeSameWrong : ChangeSpec := { name := "fnSafeSame", fn := fun _ => fun
  | [d] => { results := [.lit (.bool false)], args := [d] }
  | _ => none }
def FnSafeSameWrongFalsely : Prop := fnSafeSameRow.holds Try.pinned (OpenSpec.ofChange fnSafeSameWrong)

/-- 'laws.FnNeeded': WHATEVER THE INPUT: true; the input reads as it did. -/
def fnNeededSpec : ChangeSpec := { name := "fnNeeded", fn := fun _ => fun
  | [d] => { results := [.lit (.bool true)], args := [d] }
  | _ => none }
def fnNeededRow : OpenClaim := { program := "ytenlofomkchlaaa", sum := "f5c5d54615d4b8f4f0c21370879d88180bebf6e060026e0fbac123d71ea6afe8", func := "loop.example/linkstaterouting/laws.FnNeeded", spec := "fnNeeded", unfollowed := true, recurses := true, apart := false }
def FnNeededSaid : Prop := fnNeededRow.holds Try.pinned (OpenSpec.ofChange fnNeededSpec)

/-- ITS FALSE NEIGHBOUR: 'it returns false'. Refute it at one input. -/
def fnNeededWrong : ChangeSpec := { name := "fnNeeded", fn := fun _ => fun
  | [d] => { results := [.lit (.bool false)], args := [d] }
  | _ => none }
def FnNeededWrongFalsely : Prop := fnNeededRow.holds Try.pinned (OpenSpec.ofChange fnNeededWrong)

/-- 'laws.FnNeededBack': WHATEVER THE INPUT: true; the input reads as it did. -/
def fnNeededBackSpec : ChangeSpec := { name := "fnNeededBack", fn := fun _ => fun
  | [d1, d2] => { results := [.lit (.bool true)], args := [d1, d2] }
  | _ => none }
def fnNeededBackRow : OpenClaim := { program := "ytenlofomkchlaaa", sum := "f5c5d54615d4b8f4f0c21370879d88180bebf6e060026e0fbac123d71ea6afe8", func := "loop.example/linkstaterouting/laws.FnNeededBack", spec := "fnNeededBack", unfollowed := true, recurses := true, apart := false }
def FnNeededBackSaid : Prop := fnNeededBackRow.holds Try.pinned (OpenSpec.ofChange fnNeededBackSpec)

/-- ITS FALSE NEIGHBOUR: 'it returns false'. Refute it at one input. -/
def fnNeededBackWrong : ChangeSpec := { name := "fnNeededBack", fn := fun _ => fun
  | [d1, d2] => { results := [.lit (.bool false)], args := [d1, d2] }
  | _ => none }
def FnNeededBackWrongFalsely : Prop := fnNeededBackRow.holds Try.pinned (OpenSpec.ofChange fnNeededBackWrong)

/-- 'laws.FnRepairPath': WHATEVER THE INPUT: true; the input reads as it did. -/
def fnRepairPathSpec : ChangeSpec := { name := "fnRepairPath", fn := fun _ => fun
  | [d] => { results := [.lit (.bool true)], args := [d] }
  | _ => none }
def fnRepairPathRow : OpenClaim := { program := "ytenlofomkchlaaa", sum := "f5c5d54615d4b8f4f0c21370879d88180bebf6e060026e0fbac123d71ea6afe8", func := "loop.example/linkstaterouting/laws.FnRepairPath", spec := "fnRepairPath", unfollowed := true, recurses := true, apart := false }
def FnRepairPathSaid : Prop := fnRepairPathRow.holds Try.pinned (OpenSpec.ofChange fnRepairPathSpec)

/-- ITS FALSE NEIGHBOUR: 'it returns false'. Refute it at one input. -/
def fnRepairPathWrong : ChangeSpec := { name := "fnRepairPath", fn := fun _ => fun
  | [d] => { results := [.lit (.bool false)], args := [d] }
  | _ => none }
def FnRepairPathWrongFalsely : Prop := fnRepairPathRow.holds Try.pinned (OpenSpec.ofChange fnRepairPathWrong)

/- THE SECOND FORM. 'bulk': how many values and letters a reading holds, each counted each time it is reached (what is shared counts as often as it is met; a slice's spare places count too). A statement '..UptoSaid' is the law's where the arguments, and the package variables that the reading takes, are together of bulk at most 1048576: NARROWER than '..Said'. Prove '..Said' where nothing that the law and all that it calls make is longer than what came in: it says more and counts as full. Else prove '..UptoSaid'. A law counts once. -/
mutual
def uptoBulk {H : Type} : DataW H → Nat
  | .lit (.string bytes) => bytes.length + 1
  | .lit _ => 1
  | .nil => 1
  | .ptr d => uptoBulk d + 1
  | .slice elems spare => uptoBulkAll elems + uptoBulkAll spare + 1
  | .agg parts => uptoBulkAll parts + 1
  | .iface _ d => uptoBulk d + 1
  | .map entries => uptoBulkEntries entries + 1
  | .held _ => 1
def uptoBulkAll {H : Type} : List (DataW H) → Nat
  | [] => 0
  | d :: r => uptoBulk d + uptoBulkAll r
def uptoBulkEntries {H : Type} : List (Lit × DataW H) → Nat
  | [] => 0
  | x :: r => uptoBulkEntry x + uptoBulkEntries r
def uptoBulkEntry {H : Type} : Lit × DataW H → Nat
  | (.string bytes, d) => bytes.length + uptoBulk d + 1
  | (_, d) => uptoBulk d + 1
 end
def uptoSmall : (H : Type) → List (DataW H) → Bool := fun _ ds => decide (uptoBulkAll ds ≤ 1048576)
def OpenSpec.upto (s : _root_.Go.ChangeSpec) : _root_.Go.OpenSpec := { _root_.Go.OpenSpec.ofChange s with cond := some uptoSmall }

/-- 'laws.FnExactRepairSafe', WHERE WHAT IT READS IS OF BULK AT MOST 1048576: true; the input reads as it did. -/
def fnExactRepairSafeUptoRow : OpenClaim := { program := "ytenlofomkchlaaa", sum := "f5c5d54615d4b8f4f0c21370879d88180bebf6e060026e0fbac123d71ea6afe8", func := "loop.example/linkstaterouting/laws.FnExactRepairSafe", spec := "fnExactRepairSafe", unfollowed := true, recurses := true, apart := false, narrowed := true }
def FnExactRepairSafeUptoSaid : Prop := fnExactRepairSafeUptoRow.holds Try.pinned (OpenSpec.upto fnExactRepairSafeSpec)

/-- 'laws.FnExactRepairPath', WHERE WHAT IT READS IS OF BULK AT MOST 1048576: true; the input reads as it did. -/
def fnExactRepairPathUptoRow : OpenClaim := { program := "ytenlofomkchlaaa", sum := "f5c5d54615d4b8f4f0c21370879d88180bebf6e060026e0fbac123d71ea6afe8", func := "loop.example/linkstaterouting/laws.FnExactRepairPath", spec := "fnExactRepairPath", unfollowed := true, recurses := true, apart := false, narrowed := true }
def FnExactRepairPathUptoSaid : Prop := fnExactRepairPathUptoRow.holds Try.pinned (OpenSpec.upto fnExactRepairPathSpec)

/-- 'laws.FnExactRepairNeeded', WHERE WHAT IT READS IS OF BULK AT MOST 1048576: true; the input reads as it did. -/
def fnExactRepairNeededUptoRow : OpenClaim := { program := "ytenlofomkchlaaa", sum := "f5c5d54615d4b8f4f0c21370879d88180bebf6e060026e0fbac123d71ea6afe8", func := "loop.example/linkstaterouting/laws.FnExactRepairNeeded", spec := "fnExactRepairNeeded", unfollowed := true, recurses := true, apart := false, narrowed := true }
def FnExactRepairNeededUptoSaid : Prop := fnExactRepairNeededUptoRow.holds Try.pinned (OpenSpec.upto fnExactRepairNeededSpec)

/-- 'laws.FnSafeNodes', WHERE WHAT IT READS IS OF BULK AT MOST 1048576: true; the input reads as it did. -/
def fnSafeNodesUptoRow : OpenClaim := { program := "ytenlofomkchlaaa", sum := "f5c5d54615d4b8f4f0c21370879d88180bebf6e060026e0fbac123d71ea6afe8", func := "loop.example/linkstaterouting/laws.FnSafeNodes", spec := "fnSafeNodes", unfollowed := true, recurses := true, apart := false, narrowed := true }
def FnSafeNodesUptoSaid : Prop := fnSafeNodesUptoRow.holds Try.pinned (OpenSpec.upto fnSafeNodesSpec)

/-- 'laws.FnSafeSame', WHERE WHAT IT READS IS OF BULK AT MOST 1048576: true; the input reads as it did. -/
def fnSafeSameUptoRow : OpenClaim := { program := "ytenlofomkchlaaa", sum := "f5c5d54615d4b8f4f0c21370879d88180bebf6e060026e0fbac123d71ea6afe8", func := "loop.example/linkstaterouting/laws.FnSafeSame", spec := "fnSafeSame", unfollowed := true, recurses := true, apart := false, narrowed := true }
def FnSafeSameUptoSaid : Prop := fnSafeSameUptoRow.holds Try.pinned (OpenSpec.upto fnSafeSameSpec)

/-- 'laws.FnNeeded', WHERE WHAT IT READS IS OF BULK AT MOST 1048576: true; the input reads as it did. -/
def fnNeededUptoRow : OpenClaim := { program := "ytenlofomkchlaaa", sum := "f5c5d54615d4b8f4f0c21370879d88180bebf6e060026e0fbac123d71ea6afe8", func := "loop.example/linkstaterouting/laws.FnNeeded", spec := "fnNeeded", unfollowed := true, recurses := true, apart := false, narrowed := true }
def FnNeededUptoSaid : Prop := fnNeededUptoRow.holds Try.pinned (OpenSpec.upto fnNeededSpec)

/-- 'laws.FnNeededBack', WHERE WHAT IT READS IS OF BULK AT MOST 1048576: true; the input reads as it did. -/
def fnNeededBackUptoRow : OpenClaim := { program := "ytenlofomkchlaaa", sum := "f5c5d54615d4b8f4f0c21370879d88180bebf6e060026e0fbac123d71ea6afe8", func := "loop.example/linkstaterouting/laws.FnNeededBack", spec := "fnNeededBack", unfollowed := true, recurses := true, apart := false, narrowed := true }
def FnNeededBackUptoSaid : Prop := fnNeededBackUptoRow.holds Try.pinned (OpenSpec.upto fnNeededBackSpec)

/-- 'laws.FnRepairPath', WHERE WHAT IT READS IS OF BULK AT MOST 1048576: true; the input reads as it did. -/
def fnRepairPathUptoRow : OpenClaim := { program := "ytenlofomkchlaaa", sum := "f5c5d54615d4b8f4f0c21370879d88180bebf6e060026e0fbac123d71ea6afe8", func := "loop.example/linkstaterouting/laws.FnRepairPath", spec := "fnRepairPath", unfollowed := true, recurses := true, apart := false, narrowed := true }
def FnRepairPathUptoSaid : Prop := fnRepairPathUptoRow.holds Try.pinned (OpenSpec.upto fnRepairPathSpec)

end Rows
end Go.Proofs.Ytenlofomkchlaaa
