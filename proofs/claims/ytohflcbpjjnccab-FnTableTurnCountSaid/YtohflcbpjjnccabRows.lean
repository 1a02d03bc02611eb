/-
  No cell of these rows narrows 'for every input' (looked for: loops, veiled, ifaces, maps, wideKeys, modest, calm, conditions, laid).
  DERIVED. THE GIVEN ROWS OF THIS SEAT. 9 by the template 'for every input the law returns true; each argument reads behind the call as it read before'; 0 by the template 'total and deterministic' (their statements: YtohflcbpjjnccabTotals.lean).
  GIVEN WITH THE SEED: the statements are not yours to turn. If you find one false, say at which input.
  Laid BY PROGRAM, IN A SANDBOX (cutbox-rows.mjs): the forced cells as the released guide's own fill.sh prints them over the translation d2d405d611505c70… (all of the seat's roots in one cut). By AI agents, Wed Nov 11 2026. No macro, syntax, notation, axiom, sorry.
-/
import Derived.Test.YtohflcbpjjnccabChecked
import GoSem.Claim
import GoSem.ClaimJoined
import GoSem.ClaimMapViews
import Derived.JoinedTies
import Derived.KernelRfl
namespace Go.Proofs.Ytohflcbpjjnccab
/- THE CELL 'sum', in the pinned program and in every row, IS THE sha256 OF THE DUMP (.gsa) THAT YtohflcbpjjnccabProg.lean LOADS. Nothing in Lean hashes anything: it is a label: what it is worth is what the hold of that sum in a sandbox is worth. -/
noncomputable def Try.pinned : Pinned := { name := "ytohflcbpjjnccab", sum := "d2d405d611505c705af328a90046f91d29b4f7c1140241df768ebc86156a91d7", checked := Try.checked }
namespace Rows
def none {H : Type} : Left H := { results := [], args := [] }

/-- 'laws.FnExactTableValid': WHATEVER THE INPUT: true; the input reads as it did. -/
def fnExactTableValidSpec : ChangeSpec := { name := "fnExactTableValid", fn := fun _ => fun
  | [d] => { results := [.lit (.bool true)], args := [d] }
  | _ => none }
def fnExactTableValidRow : OpenClaim := { program := "ytohflcbpjjnccab", sum := "d2d405d611505c705af328a90046f91d29b4f7c1140241df768ebc86156a91d7", func := "loop.example/linkstaterouting/laws.FnExactTableValid", spec := "fnExactTableValid", unfollowed := true, recurses := true, apart := false }
def FnExactTableValidSaid : Prop := fnExactTableValidRow.holds Try.pinned (OpenSpec.ofChange fnExactTableValidSpec)

/-- ITS FALSE NEIGHBOUR: 'it returns false'. Refute it at one input. -/
def fnExactTableValidWrong : ChangeSpec := { name := "fnExactTableValid", fn := fun _ => fun
  | [d] => { results := [.lit (.bool false)], args := [d] }
  | _ => none }
def FnExactTableValidWrongFalsely : Prop := fnExactTableValidRow.holds Try.pinned (OpenSpec.ofChange fnExactTableValidWrong)

/-- 'laws.FnExactTableAdd': WHATEVER THE INPUT: true; the input reads as it did. -/
def fnExactTableAddSpec : ChangeSpec := { name := "fnExactTableAdd", fn := fun _ => fun
  | [d1, d2] => { results := [.lit (.bool true)], args := [d1, d2] }
  | _ => none }
def fnExactTableAddRow : OpenClaim := { program := "ytohflcbpjjnccab", sum := "d2d405d611505c705af328a90046f91d29b4f7c1140241df768ebc86156a91d7", func := "loop.example/linkstaterouting/laws.FnExactTableAdd", spec := "fnExactTableAdd", inPlace := ["slices.overlaps[loop.example/linkstaterouting/impl.Route]"], unfollowed := true, recurses := true, apart := false }
def FnExactTableAddSaid : Prop := fnExactTableAddRow.holds Try.pinned (OpenSpec.ofChange fnExactTableAddSpec)

/-- ITS FALSE NEIGHBOUR: 'it returns false'. Refute it at one input. -/
def fnExactTableAddWrong : ChangeSpec := { name := "fnExactTableAdd", fn := fun _ => fun
  | [d1, d2] => { results := [.lit (.bool false)], args := [d1, d2] }
  | _ => none }
def FnExactTableAddWrongFalsely : Prop := fnExactTableAddRow.holds Try.pinned (OpenSpec.ofChange fnExactTableAddWrong)

/-- 'laws.FnExactTableRemove': WHATEVER THE INPUT: true; the input reads as it did. -/
def fnExactTableRemoveSpec : ChangeSpec := { name := "fnExactTableRemove", fn := fun _ => fun
  | [d1, d2, d3] => { results := [.lit (.bool true)], args := [d1, d2, d3] }
  | _ => none }
def fnExactTableRemoveRow : OpenClaim := { program := "ytohflcbpjjnccab", sum := "d2d405d611505c705af328a90046f91d29b4f7c1140241df768ebc86156a91d7", func := "loop.example/linkstaterouting/laws.FnExactTableRemove", spec := "fnExactTableRemove", unfollowed := true, recurses := true, apart := false }
def FnExactTableRemoveSaid : Prop := fnExactTableRemoveRow.holds Try.pinned (OpenSpec.ofChange fnExactTableRemoveSpec)

/-- ITS FALSE NEIGHBOUR: 'it returns false'. Refute it at one input. -/
def fnExactTableRemoveWrong : ChangeSpec := { name := "fnExactTableRemove", fn := fun _ => fun
  | [d1, d2, d3] => { results := [.lit (.bool false)], args := [d1, d2, d3] }
  | _ => none }
def FnExactTableRemoveWrongFalsely : Prop := fnExactTableRemoveRow.holds Try.pinned (OpenSpec.ofChange fnExactTableRemoveWrong)

/-- 'laws.FnExactTableFind': WHATEVER THE INPUT: true; the input reads as it did. -/
def fnExactTableFindSpec : ChangeSpec := { name := "fnExactTableFind", fn := fun _ => fun
  | [d1, d2] => { results := [.lit (.bool true)], args := [d1, d2] }
  | _ => none }
def fnExactTableFindRow : OpenClaim := { program := "ytohflcbpjjnccab", sum := "d2d405d611505c705af328a90046f91d29b4f7c1140241df768ebc86156a91d7", func := "loop.example/linkstaterouting/laws.FnExactTableFind", spec := "fnExactTableFind", unfollowed := true, recurses := true, apart := false }
def FnExactTableFindSaid : Prop := fnExactTableFindRow.holds Try.pinned (OpenSpec.ofChange fnExactTableFindSpec)

/-- ITS FALSE NEIGHBOUR: 'it returns false'. Refute it at one input. -/
def fnExactTableFindWrong : ChangeSpec := { name := "fnExactTableFind", fn := fun _ => fun
  | [d1, d2] => { results := [.lit (.bool false)], args := [d1, d2] }
  | _ => none }
def FnExactTableFindWrongFalsely : Prop := fnExactTableFindRow.holds Try.pinned (OpenSpec.ofChange fnExactTableFindWrong)

/-- 'laws.FnExactTableHop': WHATEVER THE INPUT: true; the input reads as it did. -/
def fnExactTableHopSpec : ChangeSpec := { name := "fnExactTableHop", fn := fun _ => fun
  | [d1, d2] => { results := [.lit (.bool true)], args := [d1, d2] }
  | _ => none }
def fnExactTableHopRow : OpenClaim := { program := "ytohflcbpjjnccab", sum := "d2d405d611505c705af328a90046f91d29b4f7c1140241df768ebc86156a91d7", func := "loop.example/linkstaterouting/laws.FnExactTableHop", spec := "fnExactTableHop", unfollowed := true, recurses := true, apart := false }
def FnExactTableHopSaid : Prop := fnExactTableHopRow.holds Try.pinned (OpenSpec.ofChange fnExactTableHopSpec)

/-- ITS FALSE NEIGHBOUR: 'it returns false'. Refute it at one input. -/
def fnExactTableHopWrong : ChangeSpec := { name := "fnExactTableHop", fn := fun _ => fun
  | [d1, d2] => { results := [.lit (.bool false)], args := [d1, d2] }
  | _ => none }
def FnExactTableHopWrongFalsely : Prop := fnExactTableHopRow.holds Try.pinned (OpenSpec.ofChange fnExactTableHopWrong)

/-- 'laws.FnExactTableTurn': WHATEVER THE INPUT: true; the input reads as it did. -/
def fnExactTableTurnSpec : ChangeSpec := { name := "fnExactTableTurn", fn := fun _ => fun
  | [d1, d2, d3] => { results := [.lit (.bool true)], args := [d1, d2, d3] }
  | _ => none }
def fnExactTableTurnRow : OpenClaim := { program := "ytohflcbpjjnccab", sum := "d2d405d611505c705af328a90046f91d29b4f7c1140241df768ebc86156a91d7", func := "loop.example/linkstaterouting/laws.FnExactTableTurn", spec := "fnExactTableTurn", unfollowed := true, recurses := true, apart := false }
def FnExactTableTurnSaid : Prop := fnExactTableTurnRow.holds Try.pinned (OpenSpec.ofChange fnExactTableTurnSpec)

/-- ITS FALSE NEIGHBOUR: 'it returns false'. Refute it at one input. -/
def fnExactTableTurnWrong : ChangeSpec := { name := "fnExactTableTurn", fn := fun _ => fun
  | [d1, d2, d3] => { results := [.lit (.bool false)], args := [d1, d2, d3] }
  | _ => none }
def FnExactTableTurnWrongFalsely : Prop := fnExactTableTurnRow.holds Try.pinned (OpenSpec.ofChange fnExactTableTurnWrong)

/-- 'laws.FnTableHop': WHATEVER THE INPUT: true; the input reads as it did. -/
def fnTableHopSpec : ChangeSpec := { name := "fnTableHop", fn := fun _ => fun
  | [d] => { results := [.lit (.bool true)], args := [d] }
  | _ => none }
def fnTableHopRow : OpenClaim := { program := "ytohflcbpjjnccab", sum := "d2d405d611505c705af328a90046f91d29b4f7c1140241df768ebc86156a91d7", func := "loop.example/linkstaterouting/laws.FnTableHop", spec := "fnTableHop", unfollowed := true, recurses := true, apart := false }
def FnTableHopSaid : Prop := fnTableHopRow.holds Try.pinned (OpenSpec.ofChange fnTableHopSpec)

/-- ITS FALSE NEIGHBOUR: 'it returns false'. Refute it at one input. -/
def fnTableHopWrong : ChangeSpec := { name := "fnTableHop", fn := fun _ => fun
  | [d] => { results := [.lit (.bool false)], args := [d] }
  | _ => none }
def FnTableHopWrongFalsely : Prop := fnTableHopRow.holds Try.pinned (OpenSpec.ofChange fnTableHopWrong)

/-- 'laws.FnTableTurn': WHATEVER THE INPUT: true; the input reads as it did. -/
def fnTableTurnSpec : ChangeSpec := { name := "fnTableTurn", fn := fun _ => fun
  | [d] => { results := [.lit (.bool true)], args := [d] }
  | _ => none }
def fnTableTurnRow : OpenClaim := { program := "ytohflcbpjjnccab", sum := "d2d405d611505c705af328a90046f91d29b4f7c1140241df768ebc86156a91d7", func := "loop.example/linkstaterouting/laws.FnTableTurn", spec := "fnTableTurn", unfollowed := true, recurses := true, apart := false }
def FnTableTurnSaid : Prop := fnTableTurnRow.holds Try.pinned (OpenSpec.ofChange fnTableTurnSpec)

/-- ITS FALSE NEIGHBOUR: 'it returns false'. Refute it at one input. -/
def fnTableTurnWrong : ChangeSpec := { name := "fnTableTurn", fn := fun _ => fun
  | [d] => { results := [.lit (.bool false)], args := [d] }
  | _ => none }
def FnTableTurnWrongFalsely : Prop := fnTableTurnRow.holds Try.pinned (OpenSpec.ofChange fnTableTurnWrong)

/-- 'laws.FnTableTurnCount': WHATEVER THE INPUT: true; the input reads as it did. -/
def fnTableTurnCountSpec : ChangeSpec := { name := "fnTableTurnCount", fn := fun _ => fun
  | [d] => { results := [.lit (.bool true)], args := [d] }
  | _ => none }
def fnTableTurnCountRow : OpenClaim := { program := "ytohflcbpjjnccab", sum := "d2d405d611505c705af328a90046f91d29b4f7c1140241df768ebc86156a91d7", func := "loop.example/linkstaterouting/laws.FnTableTurnCount", spec := "fnTableTurnCount", unfollowed := true, recurses := true, apart := false }
def FnTableTurnCountSaid : Prop := fnTableTurnCountRow.holds Try.pinned (OpenSpec.ofChange fnTableTurnCountSpec)

/-- ITS FALSE NEIGHBOUR: 'it returns false'. Refute it at one input. -/
def fnTableTurnCountWrong : ChangeSpec := { name := "fnTableTurnCount", fn := fun _ => fun
  | [d] => { results := [.lit (.bool false)], args := [d] }
  | _ => none }
def FnTableTurnCountWrongFalsely : Prop := fnTableTurnCountRow.holds Try.pinned (OpenSpec.ofChange fnTableTurnCountWrong)

/- THE SECOND FORM. 'bulk': how many values and letters a reading holds, each counted each time it is reached (what is shared counts as often as it is met; a slice's spare places count too). A statement '..UptoSaid' is the law's where the arguments, and the package variables that the reading takes, are together of bulk at most 1048576: NARROWER than '..Said'. Prove '..Said' where nothing that the law and all that it calls make is longer than what came in: it says more and counts as full. Else prove '..UptoSaid'. A law counts once. -/
mutual
def uptoBulk {H : Type} : DataW H → Nat
  | .lit (.string bytes) => bytes.length + 1
  | .lit _ => 1
  | .nil => 1
  | .ptr d => uptoBulk d + 1
  | .slice elems spare => uptoBulkAll elems + uptoBulkAll spare + 1
  | .agg parts => uptoBulkAll parts + 1
  | .iface _ d => uptoBulk d + 1
  | .map entries => uptoBulkEntries entries + 1
  | .held _ => 1
def uptoBulkAll {H : Type} : List (DataW H) → Nat
  | [] => 0
  | d :: r => uptoBulk d + uptoBulkAll r
def uptoBulkEntries {H : Type} : List (Lit × DataW H) → Nat
  | [] => 0
  | x :: r => uptoBulkEntry x + uptoBulkEntries r
def uptoBulkEntry {H : Type} : Lit × DataW H → Nat
  | (.string bytes, d) => bytes.length + uptoBulk d + 1
  | (_, d) => uptoBulk d + 1
 end
def uptoSmall : (H : Type) → List (DataW H) → Bool := fun _ ds => decide (uptoBulkAll ds ≤ 1048576)
def OpenSpec.upto (s : _root_.Go.ChangeSpec) : _root_.Go.OpenSpec := { _root_.Go.OpenSpec.ofChange s with cond := some uptoSmall }

/-- 'laws.FnExactTableValid', WHERE WHAT IT READS IS OF BULK AT MOST 1048576: true; the input reads as it did. -/
def fnExactTableValidUptoRow : OpenClaim := { program := "ytohflcbpjjnccab", sum := "d2d405d611505c705af328a90046f91d29b4f7c1140241df768ebc86156a91d7", func := "loop.example/linkstaterouting/laws.FnExactTableValid", spec := "fnExactTableValid", unfollowed := true, recurses := true, apart := false, narrowed := true }
def FnExactTableValidUptoSaid : Prop := fnExactTableValidUptoRow.holds Try.pinned (OpenSpec.upto fnExactTableValidSpec)

/-- 'laws.FnExactTableAdd', WHERE WHAT IT READS IS OF BULK AT MOST 1048576: true; the input reads as it did. -/
def fnExactTableAddUptoRow : OpenClaim := { program := "ytohflcbpjjnccab", sum := "d2d405d611505c705af328a90046f91d29b4f7c1140241df768ebc86156a91d7", func := "loop.example/linkstaterouting/laws.FnExactTableAdd", spec := "fnExactTableAdd", inPlace := ["slices.overlaps[loop.example/linkstaterouting/impl.Route]"], unfollowed := true, recurses := true, apart := false, narrowed := true }
def FnExactTableAddUptoSaid : Prop := fnExactTableAddUptoRow.holds Try.pinned (OpenSpec.upto fnExactTableAddSpec)

/-- 'laws.FnExactTableRemove', WHERE WHAT IT READS IS OF BULK AT MOST 1048576: true; the input reads as it did. -/
def fnExactTableRemoveUptoRow : OpenClaim := { program := "ytohflcbpjjnccab", sum := "d2d405d611505c705af328a90046f91d29b4f7c1140241df768ebc86156a91d7", func := "loop.example/linkstaterouting/laws.FnExactTableRemove", spec := "fnExactTableRemove", unfollowed := true, recurses := true, apart := false, narrowed := true }
def FnExactTableRemoveUptoSaid : Prop := fnExactTableRemoveUptoRow.holds Try.pinned (OpenSpec.upto fnExactTableRemoveSpec)

/-- 'laws.FnExactTableFind', WHERE WHAT IT READS IS OF BULK AT MOST 1048576: true; the input reads as it did. -/
def fnExactTableFindUptoRow : OpenClaim := { program := "ytohflcbpjjnccab", sum := "d2d405d611505c705af328a90046f91d29b4f7c1140241df768ebc86156a91d7", func := "loop.example/linkstaterouting/laws.FnExactTableFind", spec := "fnExactTableFind", unfollowed := true, recurses := true, apart := false, narrowed := true }
def FnExactTableFindUptoSaid : Prop := fnExactTableFindUptoRow.holds Try.pinned (OpenSpec.upto fnExactTableFindSpec)

/-- 'laws.FnExactTableHop', WHERE WHAT IT READS IS OF BULK AT MOST 1048576: true; the input reads as it did. -/
def fnExactTableHopUptoRow : OpenClaim := { program := "ytohflcbpjjnccab", sum := "d2d405d611505c705af328a90046f91d29b4f7c1140241df768ebc86156a91d7", func := "loop.example/linkstaterouting/laws.FnExactTableHop", spec := "fnExactTableHop", unfollowed := true, recurses := true, apart := false, narrowed := true }
def FnExactTableHopUptoSaid : Prop := fnExactTableHopUptoRow.holds Try.pinned (OpenSpec.upto fnExactTableHopSpec)

/-- 'laws.FnExactTableTurn', WHERE WHAT IT READS IS OF BULK AT MOST 1048576: true; the input reads as it did. -/
def fnExactTableTurnUptoRow : OpenClaim := { program := "ytohflcbpjjnccab", sum := "d2d405d611505c705af328a90046f91d29b4f7c1140241df768ebc86156a91d7", func := "loop.example/linkstaterouting/laws.FnExactTableTurn", spec := "fnExactTableTurn", unfollowed := true, recurses := true, apart := false, narrowed := true }
def FnExactTableTurnUptoSaid : Prop := fnExactTableTurnUptoRow.holds Try.pinned (OpenSpec.upto fnExactTableTurnSpec)

/-- 'laws.FnTableHop', WHERE WHAT IT READS IS OF BULK AT MOST 1048576: true; the input reads as it did. -/
def fnTableHopUptoRow : OpenClaim := { program := "ytohflcbpjjnccab", sum := "d2d405d611505c705af328a90046f91d29b4f7c1140241df768ebc86156a91d7", func := "loop.example/linkstaterouting/laws.FnTableHop", spec := "fnTableHop", unfollowed := true, recurses := true, apart := false, narrowed := true }
def FnTableHopUptoSaid : Prop := fnTableHopUptoRow.holds Try.pinned (OpenSpec.upto fnTableHopSpec)

/-- 'laws.FnTableTurn', WHERE WHAT IT READS IS OF BULK AT MOST 1048576: true; the input reads as it did. -/
def fnTableTurnUptoRow : OpenClaim := { program := "ytohflcbpjjnccab", sum := "d2d405d611505c705af328a90046f91d29b4f7c1140241df768ebc86156a91d7", func := "loop.example/linkstaterouting/laws.FnTableTurn", spec := "fnTableTurn", unfollowed := true, recurses := true, apart := false, narrowed := true }
def FnTableTurnUptoSaid : Prop := fnTableTurnUptoRow.holds Try.pinned (OpenSpec.upto fnTableTurnSpec)

/-- 'laws.FnTableTurnCount', WHERE WHAT IT READS IS OF BULK AT MOST 1048576: true; the input reads as it did. -/
def fnTableTurnCountUptoRow : OpenClaim := { program := "ytohflcbpjjnccab", sum := "d2d405d611505c705af328a90046f91d29b4f7c1140241df768ebc86156a91d7", func := "loop.example/linkstaterouting/laws.FnTableTurnCount", spec := "fnTableTurnCount", unfollowed := true, recurses := true, apart := false, narrowed := true }
def FnTableTurnCountUptoSaid : Prop := fnTableTurnCountUptoRow.holds Try.pinned (OpenSpec.upto fnTableTurnCountSpec)

end Rows
end Go.Proofs.Ytohflcbpjjnccab
