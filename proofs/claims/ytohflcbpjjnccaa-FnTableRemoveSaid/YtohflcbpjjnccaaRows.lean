/-
  No cell of these rows narrows 'for every input' (looked for: loops, veiled, ifaces, maps, wideKeys, modest, calm, conditions, laid).
  DERIVED. THE GIVEN ROWS OF THIS SEAT. 10 by the template 'for every input the law returns true; each argument reads behind the call as it read before'; 0 by the template 'total and deterministic' (their statements: YtohflcbpjjnccaaTotals.lean).
  GIVEN WITH THE SEED: the statements are not yours to turn. If you find one false, say at which input.
  Laid BY PROGRAM, IN A SANDBOX (cutbox-rows.mjs): the forced cells as the released guide's own fill.sh prints them over the translation b2e8524aaa811fd1… (all of the seat's roots in one cut). By AI agents, Wed Nov 11 2026. No macro, syntax, notation, axiom, sorry.
-/
import Derived.Test.YtohflcbpjjnccaaChecked
import GoSem.Claim
import GoSem.ClaimJoined
import GoSem.ClaimMapViews
import Derived.JoinedTies
import Derived.KernelRfl
namespace Go.Proofs.Ytohflcbpjjnccaa
/- THE CELL 'sum', in the pinned program and in every row, IS THE sha256 OF THE DUMP (.gsa) THAT YtohflcbpjjnccaaProg.lean LOADS. Nothing in Lean hashes anything: it is a label: what it is worth is what the hold of that sum in a sandbox is worth. -/
noncomputable def Try.pinned : Pinned := { name := "ytohflcbpjjnccaa", sum := "b2e8524aaa811fd17cb96178676a220fde04e2366cec66dbed2eb01576deb34d", checked := Try.checked }
namespace Rows
def none {H : Type} : Left H := { results := [], args := [] }

/-- 'laws.FnTableAdd': WHATEVER THE INPUT: true; the input reads as it did. -/
def fnTableAddSpec : ChangeSpec := { name := "fnTableAdd", fn := fun _ => fun
  | [d] => { results := [.lit (.bool true)], args := [d] }
  | _ => none }
def fnTableAddRow : OpenClaim := { program := "ytohflcbpjjnccaa", sum := "b2e8524aaa811fd17cb96178676a220fde04e2366cec66dbed2eb01576deb34d", func := "loop.example/linkstaterouting/laws.FnTableAdd", spec := "fnTableAdd", inPlace := ["slices.overlaps[loop.example/linkstaterouting/impl.Route]"], unfollowed := true, recurses := true, apart := false }
def FnTableAddSaid : Prop := fnTableAddRow.holds Try.pinned (OpenSpec.ofChange fnTableAddSpec)

/-- ITS FALSE NEIGHBOUR: 'it returns false'. Refute it at one input. -/
def fnTableAddWrong : ChangeSpec := { name := "fnTableAdd", fn := fun _ => fun
  | [d] => { results := [.lit (.bool false)], args := [d] }
  | _ => none }
def FnTableAddWrongFalsely : Prop := fnTableAddRow.holds Try.pinned (OpenSpec.ofChange fnTableAddWrong)

/-- 'laws.FnTableAddTwice': WHATEVER THE INPUT: true; the input reads as it did. -/
def fnTableAddTwiceSpec : ChangeSpec := { name := "fnTableAddTwice", fn := fun _ => fun
  | [d] => { results := [.lit (.bool true)], args := [d] }
  | _ => none }
def fnTableAddTwiceRow : OpenClaim := { program := "ytohflcbpjjnccaa", sum := "b2e8524aaa811fd17cb96178676a220fde04e2366cec66dbed2eb01576deb34d", func := "loop.example/linkstaterouting/laws.FnTableAddTwice", spec := "fnTableAddTwice", inPlace := ["slices.overlaps[loop.example/linkstaterouting/impl.Route]"], unfollowed := true, recurses := true, apart := false }
def FnTableAddTwiceSaid : Prop := fnTableAddTwiceRow.holds Try.pinned (OpenSpec.ofChange fnTableAddTwiceSpec)

/-- ITS FALSE NEIGHBOUR: 'it returns false'. Refute it at one input. -/
def fnTableAddTwiceWrong : ChangeSpec := { name := "fnTableAddTwice", fn := fun _ => fun
  | [d] => { results := [.lit (.bool false)], args := [d] }
  | _ => none }
def FnTableAddTwiceWrongFalsely : Prop := fnTableAddTwiceRow.holds Try.pinned (OpenSpec.ofChange fnTableAddTwiceWrong)

/-- 'laws.FnTableAddFull': WHATEVER THE INPUT: true; the input reads as it did. -/
def fnTableAddFullSpec : ChangeSpec := { name := "fnTableAddFull", fn := fun _ => fun
  | [d] => { results := [.lit (.bool true)], args := [d] }
  | _ => none }
def fnTableAddFullRow : OpenClaim := { program := "ytohflcbpjjnccaa", sum := "b2e8524aaa811fd17cb96178676a220fde04e2366cec66dbed2eb01576deb34d", func := "loop.example/linkstaterouting/laws.FnTableAddFull", spec := "fnTableAddFull", inPlace := ["slices.overlaps[loop.example/linkstaterouting/impl.Route]"], unfollowed := true, recurses := true, apart := false }
def FnTableAddFullSaid : Prop := fnTableAddFullRow.holds Try.pinned (OpenSpec.ofChange fnTableAddFullSpec)

/-- ITS FALSE NEIGHBOUR: 'it returns false'. Refute it at one input. -/
def fnTableAddFullWrong : ChangeSpec := { name := "fnTableAddFull", fn := fun _ => fun
  | [d] => { results := [.lit (.bool false)], args := [d] }
  | _ => none }
def FnTableAddFullWrongFalsely : Prop := fnTableAddFullRow.holds Try.pinned (OpenSpec.ofChange fnTableAddFullWrong)

/-- 'laws.FnTableAddOrder': WHATEVER THE INPUT: true; the input reads as it did. -/
def fnTableAddOrderSpec : ChangeSpec := { name := "fnTableAddOrder", fn := fun _ => fun
  | [d1, d2] => { results := [.lit (.bool true)], args := [d1, d2] }
  | _ => none }
def fnTableAddOrderRow : OpenClaim := { program := "ytohflcbpjjnccaa", sum := "b2e8524aaa811fd17cb96178676a220fde04e2366cec66dbed2eb01576deb34d", func := "loop.example/linkstaterouting/laws.FnTableAddOrder", spec := "fnTableAddOrder", inPlace := ["slices.overlaps[loop.example/linkstaterouting/impl.Route]"], unfollowed := true, recurses := true, apart := false }
def FnTableAddOrderSaid : Prop := fnTableAddOrderRow.holds Try.pinned (OpenSpec.ofChange fnTableAddOrderSpec)

/-- ITS FALSE NEIGHBOUR: 'it returns false'. Refute it at one input. -/
def fnTableAddOrderWrong : ChangeSpec := { name := "fnTableAddOrder", fn := fun _ => fun
  | [d1, d2] => { results := [.lit (.bool false)], args := [d1, d2] }
  | _ => none }
def FnTableAddOrderWrongFalsely : Prop := fnTableAddOrderRow.holds Try.pinned (OpenSpec.ofChange fnTableAddOrderWrong)

/-- 'laws.FnTableRemove': WHATEVER THE INPUT: true; the input reads as it did. -/
def fnTableRemoveSpec : ChangeSpec := { name := "fnTableRemove", fn := fun _ => fun
  | [d] => { results := [.lit (.bool true)], args := [d] }
  | _ => none }
def fnTableRemoveRow : OpenClaim := { program := "ytohflcbpjjnccaa", sum := "b2e8524aaa811fd17cb96178676a220fde04e2366cec66dbed2eb01576deb34d", func := "loop.example/linkstaterouting/laws.FnTableRemove", spec := "fnTableRemove", inPlace := ["slices.overlaps[loop.example/linkstaterouting/impl.Route]"], unfollowed := true, recurses := true, apart := false }
def FnTableRemoveSaid : Prop := fnTableRemoveRow.holds Try.pinned (OpenSpec.ofChange fnTableRemoveSpec)

/-- ITS FALSE NEIGHBOUR: 'it returns false'. Refute it at one input. -/
def fnTableRemoveWrong : ChangeSpec := { name := "fnTableRemove", fn := fun _ => fun
  | [d] => { results := [.lit (.bool false)], args := [d] }
  | _ => none }
def FnTableRemoveWrongFalsely : Prop := fnTableRemoveRow.holds Try.pinned (OpenSpec.ofChange fnTableRemoveWrong)

/-- 'laws.FnTableHopOthers': WHATEVER THE INPUT: true; the input reads as it did. -/
def fnTableHopOthersSpec : ChangeSpec := { name := "fnTableHopOthers", fn := fun _ => fun
  | [d1, d2] => { results := [.lit (.bool true)], args := [d1, d2] }
  | _ => none }
def fnTableHopOthersRow : OpenClaim := { program := "ytohflcbpjjnccaa", sum := "b2e8524aaa811fd17cb96178676a220fde04e2366cec66dbed2eb01576deb34d", func := "loop.example/linkstaterouting/laws.FnTableHopOthers", spec := "fnTableHopOthers", inPlace := ["slices.overlaps[loop.example/linkstaterouting/impl.Route]"], unfollowed := true, recurses := true, apart := false }
def FnTableHopOthersSaid : Prop := fnTableHopOthersRow.holds Try.pinned (OpenSpec.ofChange fnTableHopOthersSpec)

/-- ITS FALSE NEIGHBOUR: 'it returns false'. Refute it at one input. -/
def fnTableHopOthersWrong : ChangeSpec := { name := "fnTableHopOthers", fn := fun _ => fun
  | [d1, d2] => { results := [.lit (.bool false)], args := [d1, d2] }
  | _ => none }
def FnTableHopOthersWrongFalsely : Prop := fnTableHopOthersRow.holds Try.pinned (OpenSpec.ofChange fnTableHopOthersWrong)

/-- 'laws.FnTableDefault': WHATEVER THE INPUT: true; the input reads as it did. -/
def fnTableDefaultSpec : ChangeSpec := { name := "fnTableDefault", fn := fun _ => fun
  | [d1, d2] => { results := [.lit (.bool true)], args := [d1, d2] }
  | _ => none }
def fnTableDefaultRow : OpenClaim := { program := "ytohflcbpjjnccaa", sum := "b2e8524aaa811fd17cb96178676a220fde04e2366cec66dbed2eb01576deb34d", func := "loop.example/linkstaterouting/laws.FnTableDefault", spec := "fnTableDefault", inPlace := ["slices.overlaps[loop.example/linkstaterouting/impl.Route]"], unfollowed := true, recurses := true, apart := false }
def FnTableDefaultSaid : Prop := fnTableDefaultRow.holds Try.pinned (OpenSpec.ofChange fnTableDefaultSpec)

/-- ITS FALSE NEIGHBOUR: 'it returns false'. Refute it at one input. -/
def fnTableDefaultWrong : ChangeSpec := { name := "fnTableDefault", fn := fun _ => fun
  | [d1, d2] => { results := [.lit (.bool false)], args := [d1, d2] }
  | _ => none }
def FnTableDefaultWrongFalsely : Prop := fnTableDefaultRow.holds Try.pinned (OpenSpec.ofChange fnTableDefaultWrong)

/-- 'laws.FnTableRemoveOthers': WHATEVER THE INPUT: true; the input reads as it did. -/
def fnTableRemoveOthersSpec : ChangeSpec := { name := "fnTableRemoveOthers", fn := fun _ => fun
  | [d1, d2] => { results := [.lit (.bool true)], args := [d1, d2] }
  | _ => none }
def fnTableRemoveOthersRow : OpenClaim := { program := "ytohflcbpjjnccaa", sum := "b2e8524aaa811fd17cb96178676a220fde04e2366cec66dbed2eb01576deb34d", func := "loop.example/linkstaterouting/laws.FnTableRemoveOthers", spec := "fnTableRemoveOthers", unfollowed := true, recurses := true, apart := false }
def FnTableRemoveOthersSaid : Prop := fnTableRemoveOthersRow.holds Try.pinned (OpenSpec.ofChange fnTableRemoveOthersSpec)

/-- ITS FALSE NEIGHBOUR: 'it returns false'. Refute it at one input. -/
def fnTableRemoveOthersWrong : ChangeSpec := { name := "fnTableRemoveOthers", fn := fun _ => fun
  | [d1, d2] => { results := [.lit (.bool false)], args := [d1, d2] }
  | _ => none }
def FnTableRemoveOthersWrongFalsely : Prop := fnTableRemoveOthersRow.holds Try.pinned (OpenSpec.ofChange fnTableRemoveOthersWrong)

/-- 'laws.FnTableFind': WHATEVER THE INPUT: true; the input reads as it did. -/
def fnTableFindSpec : ChangeSpec := { name := "fnTableFind", fn := fun _ => fun
  | [d] => { results := [.lit (.bool true)], args := [d] }
  | _ => none }
def fnTableFindRow : OpenClaim := { program := "ytohflcbpjjnccaa", sum := "b2e8524aaa811fd17cb96178676a220fde04e2366cec66dbed2eb01576deb34d", func := "loop.example/linkstaterouting/laws.FnTableFind", spec := "fnTableFind", unfollowed := true, recurses := true, apart := false }
def FnTableFindSaid : Prop := fnTableFindRow.holds Try.pinned (OpenSpec.ofChange fnTableFindSpec)

/-- ITS FALSE NEIGHBOUR: 'it returns false'. Refute it at one input. -/
def fnTableFindWrong : ChangeSpec := { name := "fnTableFind", fn := fun _ => fun
  | [d] => { results := [.lit (.bool false)], args := [d] }
  | _ => none }
def FnTableFindWrongFalsely : Prop := fnTableFindRow.holds Try.pinned (OpenSpec.ofChange fnTableFindWrong)

/-- 'laws.FnTableExact': WHATEVER THE INPUT: true; the input reads as it did. -/
def fnTableExactSpec : ChangeSpec := { name := "fnTableExact", fn := fun _ => fun
  | [d] => { results := [.lit (.bool true)], args := [d] }
  | _ => none }
def fnTableExactRow : OpenClaim := { program := "ytohflcbpjjnccaa", sum := "b2e8524aaa811fd17cb96178676a220fde04e2366cec66dbed2eb01576deb34d", func := "loop.example/linkstaterouting/laws.FnTableExact", spec := "fnTableExact", unfollowed := true, recurses := true, apart := false }
def FnTableExactSaid : Prop := fnTableExactRow.holds Try.pinned (OpenSpec.ofChange fnTableExactSpec)

/-- ITS FALSE NEIGHBOUR: 'it returns false'. Refute it at one input. -/
def fnTableExactWrong : ChangeSpec := { name := "fnTableExact", fn := fun _ => fun
  | [d] => { results := [.lit (.bool false)], args := [d] }
  | _ => none }
def FnTableExactWrongFalsely : Prop := fnTableExactRow.holds Try.pinned (OpenSpec.ofChange fnTableExactWrong)

/- THE SECOND FORM. 'bulk': how many values and letters a reading holds, each counted each time it is reached (what is shared counts as often as it is met; a slice's spare places count too). A statement '..UptoSaid' is the law's where the arguments, and the package variables that the reading takes, are together of bulk at most 1048576: NARROWER than '..Said'. Prove '..Said' where nothing that the law and all that it calls make is longer than what came in: it says more and counts as full. Else prove '..UptoSaid'. A law counts once. -/
mutual
def uptoBulk {H : Type} : DataW H → Nat
  | .lit (.string bytes) => bytes.length + 1
  | .lit _ => 1
  | .nil => 1
  | .ptr d => uptoBulk d + 1
  | .slice elems spare => uptoBulkAll elems + uptoBulkAll spare + 1
  | .agg parts => uptoBulkAll parts + 1
  | .iface _ d => uptoBulk d + 1
  | .map entries => uptoBulkEntries entries + 1
  | .held _ => 1
def uptoBulkAll {H : Type} : List (DataW H) → Nat
  | [] => 0
  | d :: r => uptoBulk d + uptoBulkAll r
def uptoBulkEntries {H : Type} : List (Lit × DataW H) → Nat
  | [] => 0
  | x :: r => uptoBulkEntry x + uptoBulkEntries r
def uptoBulkEntry {H : Type} : Lit × DataW H → Nat
  | (.string bytes, d) => bytes.length + uptoBulk d + 1
  | (_, d) => uptoBulk d + 1
 end
def uptoSmall : (H : Type) → List (DataW H) → Bool := fun _ ds => decide (uptoBulkAll ds ≤ 1048576)
def OpenSpec.upto (s : _root_.Go.ChangeSpec) : _root_.Go.OpenSpec := { _root_.Go.OpenSpec.ofChange s with cond := some uptoSmall }

/-- 'laws.FnTableAdd', WHERE WHAT IT READS IS OF BULK AT MOST 1048576: true; the input reads as it did. -/
def fnTableAddUptoRow : OpenClaim := { program := "ytohflcbpjjnccaa", sum := "b2e8524aaa811fd17cb96178676a220fde04e2366cec66dbed2eb01576deb34d", func := "loop.example/linkstaterouting/laws.FnTableAdd", spec := "fnTableAdd", inPlace := ["slices.overlaps[loop.example/linkstaterouting/impl.Route]"], unfollowed := true, recurses := true, apart := false, narrowed := true }
def FnTableAddUptoSaid : Prop := fnTableAddUptoRow.holds Try.pinned (OpenSpec.upto fnTableAddSpec)

/-- 'laws.FnTableAddTwice', WHERE WHAT IT READS IS OF BULK AT MOST 1048576: true; the input reads as it did. -/
def fnTableAddTwiceUptoRow : OpenClaim := { program := "ytohflcbpjjnccaa", sum := "b2e8524aaa811fd17cb96178676a220fde04e2366cec66dbed2eb01576deb34d", func := "loop.example/linkstaterouting/laws.FnTableAddTwice", spec := "fnTableAddTwice", inPlace := ["slices.overlaps[loop.example/linkstaterouting/impl.Route]"], unfollowed := true, recurses := true, apart := false, narrowed := true }
def FnTableAddTwiceUptoSaid : Prop := fnTableAddTwiceUptoRow.holds Try.pinned (OpenSpec.upto fnTableAddTwiceSpec)

/-- 'laws.FnTableAddFull', WHERE WHAT IT READS IS OF BULK AT MOST 1048576: true; the input reads as it did. -/
def fnTableAddFullUptoRow : OpenClaim := { program := "ytohflcbpjjnccaa", sum := "b2e8524aaa811fd17cb96178676a220fde04e2366cec66dbed2eb01576deb34d", func := "loop.example/linkstaterouting/laws.FnTableAddFull", spec := "fnTableAddFull", inPlace := ["slices.overlaps[loop.example/linkstaterouting/impl.Route]"], unfollowed := true, recurses := true, apart := false, narrowed := true }
def FnTableAddFullUptoSaid : Prop := fnTableAddFullUptoRow.holds Try.pinned (OpenSpec.upto fnTableAddFullSpec)

/-- 'laws.FnTableAddOrder', WHERE WHAT IT READS IS OF BULK AT MOST 1048576: true; the input reads as it did. -/
def fnTableAddOrderUptoRow : OpenClaim := { program := "ytohflcbpjjnccaa", sum := "b2e8524aaa811fd17cb96178676a220fde04e2366cec66dbed2eb01576deb34d", func := "loop.example/linkstaterouting/laws.FnTableAddOrder", spec := "fnTableAddOrder", inPlace := ["slices.overlaps[loop.example/linkstaterouting/impl.Route]"], unfollowed := true, recurses := true, apart := false, narrowed := true }
def FnTableAddOrderUptoSaid : Prop := fnTableAddOrderUptoRow.holds Try.pinned (OpenSpec.upto fnTableAddOrderSpec)

/-- 'laws.FnTableRemove', WHERE WHAT IT READS IS OF BULK AT MOST 1048576: true; the input reads as it did. -/
def fnTableRemoveUptoRow : OpenClaim := { program := "ytohflcbpjjnccaa", sum := "b2e8524aaa811fd17cb96178676a220fde04e2366cec66dbed2eb01576deb34d", func := "loop.example/linkstaterouting/laws.FnTableRemove", spec := "fnTableRemove", inPlace := ["slices.overlaps[loop.example/linkstaterouting/impl.Route]"], unfollowed := true, recurses := true, apart := false, narrowed := true }
def FnTableRemoveUptoSaid : Prop := fnTableRemoveUptoRow.holds Try.pinned (OpenSpec.upto fnTableRemoveSpec)

/-- 'laws.FnTableHopOthers', WHERE WHAT IT READS IS OF BULK AT MOST 1048576: true; the input reads as it did. -/
def fnTableHopOthersUptoRow : OpenClaim := { program := "ytohflcbpjjnccaa", sum := "b2e8524aaa811fd17cb96178676a220fde04e2366cec66dbed2eb01576deb34d", func := "loop.example/linkstaterouting/laws.FnTableHopOthers", spec := "fnTableHopOthers", inPlace := ["slices.overlaps[loop.example/linkstaterouting/impl.Route]"], unfollowed := true, recurses := true, apart := false, narrowed := true }
def FnTableHopOthersUptoSaid : Prop := fnTableHopOthersUptoRow.holds Try.pinned (OpenSpec.upto fnTableHopOthersSpec)

/-- 'laws.FnTableDefault', WHERE WHAT IT READS IS OF BULK AT MOST 1048576: true; the input reads as it did. -/
def fnTableDefaultUptoRow : OpenClaim := { program := "ytohflcbpjjnccaa", sum := "b2e8524aaa811fd17cb96178676a220fde04e2366cec66dbed2eb01576deb34d", func := "loop.example/linkstaterouting/laws.FnTableDefault", spec := "fnTableDefault", inPlace := ["slices.overlaps[loop.example/linkstaterouting/impl.Route]"], unfollowed := true, recurses := true, apart := false, narrowed := true }
def FnTableDefaultUptoSaid : Prop := fnTableDefaultUptoRow.holds Try.pinned (OpenSpec.upto fnTableDefaultSpec)

/-- 'laws.FnTableRemoveOthers', WHERE WHAT IT READS IS OF BULK AT MOST 1048576: true; the input reads as it did. -/
def fnTableRemoveOthersUptoRow : OpenClaim := { program := "ytohflcbpjjnccaa", sum := "b2e8524aaa811fd17cb96178676a220fde04e2366cec66dbed2eb01576deb34d", func := "loop.example/linkstaterouting/laws.FnTableRemoveOthers", spec := "fnTableRemoveOthers", unfollowed := true, recurses := true, apart := false, narrowed := true }
def FnTableRemoveOthersUptoSaid : Prop := fnTableRemoveOthersUptoRow.holds Try.pinned (OpenSpec.upto fnTableRemoveOthersSpec)

/-- 'laws.FnTableFind', WHERE WHAT IT READS IS OF BULK AT MOST 1048576: true; the input reads as it did. -/
def fnTableFindUptoRow : OpenClaim := { program := "ytohflcbpjjnccaa", sum := "b2e8524aaa811fd17cb96178676a220fde04e2366cec66dbed2eb01576deb34d", func := "loop.example/linkstaterouting/laws.FnTableFind", spec := "fnTableFind", unfollowed := true, recurses := true, apart := false, narrowed := true }
def FnTableFindUptoSaid : Prop := fnTableFindUptoRow.holds Try.pinned (OpenSpec.upto fnTableFindSpec)

/-- 'laws.FnTableExact', WHERE WHAT IT READS IS OF BULK AT MOST 1048576: true; the input reads as it did. -/
def fnTableExactUptoRow : OpenClaim := { program := "ytohflcbpjjnccaa", sum := "b2e8524aaa811fd17cb96178676a220fde04e2366cec66dbed2eb01576deb34d", func := "loop.example/linkstaterouting/laws.FnTableExact", spec := "fnTableExact", unfollowed := true, recurses := true, apart := false, narrowed := true }
def FnTableExactUptoSaid : Prop := fnTableExactUptoRow.holds Try.pinned (OpenSpec.upto fnTableExactSpec)

end Rows
end Go.Proofs.Ytohflcbpjjnccaa
