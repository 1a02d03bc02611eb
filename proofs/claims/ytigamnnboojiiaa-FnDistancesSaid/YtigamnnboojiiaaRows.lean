/-
  No cell of these rows narrows 'for every input' (looked for: loops, veiled, ifaces, maps, wideKeys, modest, calm, conditions, laid).
  DERIVED. THE GIVEN ROWS OF THIS SEAT. 10 by the template 'for every input the law returns true; each argument reads behind the call as it read before'; 0 by the template 'total and deterministic' (their statements: YtigamnnboojiiaaTotals.lean).
  GIVEN WITH THE SEED: the statements are not yours to turn. If you find one false, say at which input.
  Laid BY PROGRAM, IN A SANDBOX (cutbox-rows.mjs): the forced cells as the released guide's own fill.sh prints them over the translation 3e57161aac3a6bae… (all of the seat's roots in one cut). By AI agents, Wed Nov 11 2026. No macro, syntax, notation, axiom, sorry.
-/
import Derived.Test.YtigamnnboojiiaaChecked
import GoSem.Claim
import GoSem.ClaimJoined
import GoSem.ClaimMapViews
import Derived.JoinedTies
import Derived.KernelRfl
namespace Go.Proofs.Ytigamnnboojiiaa
/- THE CELL 'sum', in the pinned program and in every row, IS THE sha256 OF THE DUMP (.gsa) THAT YtigamnnboojiiaaProg.lean LOADS. Nothing in Lean hashes anything: it is a label: what it is worth is what the hold of that sum in a sandbox is worth. -/
noncomputable def Try.pinned : Pinned := { name := "ytigamnnboojiiaa", sum := "3e57161aac3a6bae5c87a3dc3127c6ee1f77987b8a39d800e58fa8439bd94cce", checked := Try.checked }
namespace Rows
def none {H : Type} : Left H := { results := [], args := [] }

/-- 'laws.FnExactGraphReach': WHATEVER THE INPUT: true; the input reads as it did. -/
def fnExactGraphReachSpec : ChangeSpec := { name := "fnExactGraphReach", fn := fun _ => fun
  | [d1, d2] => { results := [.lit (.bool true)], args := [d1, d2] }
  | _ => none }
def fnExactGraphReachRow : OpenClaim := { program := "ytigamnnboojiiaa", sum := "3e57161aac3a6bae5c87a3dc3127c6ee1f77987b8a39d800e58fa8439bd94cce", func := "loop.example/linkstaterouting/laws.FnExactGraphReach", spec := "fnExactGraphReach", unfollowed := true, recurses := true, apart := false }
def FnExactGraphReachSaid : Prop := fnExactGraphReachRow.holds Try.pinned (OpenSpec.ofChange fnExactGraphReachSpec)

/-- ITS FALSE NEIGHBOUR: 'it returns false'. Refute it at one input. -/
def fnExactGraphReachWrong : ChangeSpec := { name := "fnExactGraphReach", fn := fun _ => fun
  | [d1, d2] => { results := [.lit (.bool false)], args := [d1, d2] }
  | _ => none }
def FnExactGraphReachWrongFalsely : Prop := fnExactGraphReachRow.holds Try.pinned (OpenSpec.ofChange fnExactGraphReachWrong)

/-- 'laws.FnExactDistances': WHATEVER THE INPUT: true; the input reads as it did. -/
def fnExactDistancesSpec : ChangeSpec := { name := "fnExactDistances", fn := fun _ => fun
  | [d1, d2] => { results := [.lit (.bool true)], args := [d1, d2] }
  | _ => none }
def fnExactDistancesRow : OpenClaim := { program := "ytigamnnboojiiaa", sum := "3e57161aac3a6bae5c87a3dc3127c6ee1f77987b8a39d800e58fa8439bd94cce", func := "loop.example/linkstaterouting/laws.FnExactDistances", spec := "fnExactDistances", unfollowed := true, recurses := true, apart := false }
def FnExactDistancesSaid : Prop := fnExactDistancesRow.holds Try.pinned (OpenSpec.ofChange fnExactDistancesSpec)

/-- ITS FALSE NEIGHBOUR: 'it returns false'. Refute it at one input. -/
def fnExactDistancesWrong : ChangeSpec := { name := "fnExactDistances", fn := fun _ => fun
  | [d1, d2] => { results := [.lit (.bool false)], args := [d1, d2] }
  | _ => none }
def FnExactDistancesWrongFalsely : Prop := fnExactDistancesRow.holds Try.pinned (OpenSpec.ofChange fnExactDistancesWrong)

/-- 'laws.FnReach': WHATEVER THE INPUT: true; the input reads as it did. -/
def fnReachSpec : ChangeSpec := { name := "fnReach", fn := fun _ => fun
  | [d] => { results := [.lit (.bool true)], args := [d] }
  | _ => none }
def fnReachRow : OpenClaim := { program := "ytigamnnboojiiaa", sum := "3e57161aac3a6bae5c87a3dc3127c6ee1f77987b8a39d800e58fa8439bd94cce", func := "loop.example/linkstaterouting/laws.FnReach", spec := "fnReach", unfollowed := true, recurses := true, apart := false }
def FnReachSaid : Prop := fnReachRow.holds Try.pinned (OpenSpec.ofChange fnReachSpec)

/-- ITS FALSE NEIGHBOUR: 'it returns false'. Refute it at one input. -/
def fnReachWrong : ChangeSpec := { name := "fnReach", fn := fun _ => fun
  | [d] => { results := [.lit (.bool false)], args := [d] }
  | _ => none }
def FnReachWrongFalsely : Prop := fnReachRow.holds Try.pinned (OpenSpec.ofChange fnReachWrong)

/-- 'laws.FnReachSame': WHATEVER THE INPUT: true; the input reads as it did. -/
def fnReachSameSpec : ChangeSpec := { name := "fnReachSame", fn := fun _ => fun
  | [d1, d2] => { results := [.lit (.bool true)], args := [d1, d2] }
  | _ => none }
def fnReachSameRow : OpenClaim := { program := "ytigamnnboojiiaa", sum := "3e57161aac3a6bae5c87a3dc3127c6ee1f77987b8a39d800e58fa8439bd94cce", func := "loop.example/linkstaterouting/laws.FnReachSame", spec := "fnReachSame", unfollowed := true, recurses := true, apart := false }
def FnReachSameSaid : Prop := fnReachSameRow.holds Try.pinned (OpenSpec.ofChange fnReachSameSpec)

/-- ITS FALSE NEIGHBOUR: 'it returns false'. Refute it at one input. -/
def fnReachSameWrong : ChangeSpec := { name := "fnReachSame", fn := fun _ => fun
  | [d1, d2] => { results := [.lit (.bool false)], args := [d1, d2] }
  | _ => none }
def FnReachSameWrongFalsely : Prop := fnReachSameRow.holds Try.pinned (OpenSpec.ofChange fnReachSameWrong)

/-- 'laws.FnIsolateReach': WHATEVER THE INPUT: true; the input reads as it did. -/
def fnIsolateReachSpec : ChangeSpec := { name := "fnIsolateReach", fn := fun _ => fun
  | [d] => { results := [.lit (.bool true)], args := [d] }
  | _ => none }
def fnIsolateReachRow : OpenClaim := { program := "ytigamnnboojiiaa", sum := "3e57161aac3a6bae5c87a3dc3127c6ee1f77987b8a39d800e58fa8439bd94cce", func := "loop.example/linkstaterouting/laws.FnIsolateReach", spec := "fnIsolateReach", unfollowed := true, recurses := true, apart := false }
def FnIsolateReachSaid : Prop := fnIsolateReachRow.holds Try.pinned (OpenSpec.ofChange fnIsolateReachSpec)

/-- ITS FALSE NEIGHBOUR: 'it returns false'. Refute it at one input. -/
def fnIsolateReachWrong : ChangeSpec := { name := "fnIsolateReach", fn := fun _ => fun
  | [d] => { results := [.lit (.bool false)], args := [d] }
  | _ => none }
def FnIsolateReachWrongFalsely : Prop := fnIsolateReachRow.holds Try.pinned (OpenSpec.ofChange fnIsolateReachWrong)

/-- 'laws.FnDistances': WHATEVER THE INPUT: true; the input reads as it did. -/
def fnDistancesSpec : ChangeSpec := { name := "fnDistances", fn := fun _ => fun
  | [d] => { results := [.lit (.bool true)], args := [d] }
  | _ => none }
def fnDistancesRow : OpenClaim := { program := "ytigamnnboojiiaa", sum := "3e57161aac3a6bae5c87a3dc3127c6ee1f77987b8a39d800e58fa8439bd94cce", func := "loop.example/linkstaterouting/laws.FnDistances", spec := "fnDistances", unfollowed := true, recurses := true, apart := false }
def FnDistancesSaid : Prop := fnDistancesRow.holds Try.pinned (OpenSpec.ofChange fnDistancesSpec)

/-- ITS FALSE NEIGHBOUR: 'it returns false'. Refute it at one input. -/
def fnDistancesWrong : ChangeSpec := { name := "fnDistances", fn := fun _ => fun
  | [d] => { results := [.lit (.bool false)], args := [d] }
  | _ => none }
def FnDistancesWrongFalsely : Prop := fnDistancesRow.holds Try.pinned (OpenSpec.ofChange fnDistancesWrong)

/-- 'laws.FnDistancesBack': WHATEVER THE INPUT: true; the input reads as it did. -/
def fnDistancesBackSpec : ChangeSpec := { name := "fnDistancesBack", fn := fun _ => fun
  | [d1, d2] => { results := [.lit (.bool true)], args := [d1, d2] }
  | _ => none }
def fnDistancesBackRow : OpenClaim := { program := "ytigamnnboojiiaa", sum := "3e57161aac3a6bae5c87a3dc3127c6ee1f77987b8a39d800e58fa8439bd94cce", func := "loop.example/linkstaterouting/laws.FnDistancesBack", spec := "fnDistancesBack", unfollowed := true, recurses := true, apart := false }
def FnDistancesBackSaid : Prop := fnDistancesBackRow.holds Try.pinned (OpenSpec.ofChange fnDistancesBackSpec)

/-- ITS FALSE NEIGHBOUR: 'it returns false'. Refute it at one input. -/
def fnDistancesBackWrong : ChangeSpec := { name := "fnDistancesBack", fn := fun _ => fun
  | [d1, d2] => { results := [.lit (.bool false)], args := [d1, d2] }
  | _ => none }
def FnDistancesBackWrongFalsely : Prop := fnDistancesBackRow.holds Try.pinned (OpenSpec.ofChange fnDistancesBackWrong)

/-- 'laws.FnDistancesThree': WHATEVER THE INPUT: true; the input reads as it did. -/
def fnDistancesThreeSpec : ChangeSpec := { name := "fnDistancesThree", fn := fun _ => fun
  | [d1, d2] => { results := [.lit (.bool true)], args := [d1, d2] }
  | _ => none }
def fnDistancesThreeRow : OpenClaim := { program := "ytigamnnboojiiaa", sum := "3e57161aac3a6bae5c87a3dc3127c6ee1f77987b8a39d800e58fa8439bd94cce", func := "loop.example/linkstaterouting/laws.FnDistancesThree", spec := "fnDistancesThree", unfollowed := true, recurses := true, apart := false }
def FnDistancesThreeSaid : Prop := fnDistancesThreeRow.holds Try.pinned (OpenSpec.ofChange fnDistancesThreeSpec)

/-- ITS FALSE NEIGHBOUR: 'it returns false'. Refute it at one input. -/
def fnDistancesThreeWrong : ChangeSpec := { name := "fnDistancesThree", fn := fun _ => fun
  | [d1, d2] => { results := [.lit (.bool false)], args := [d1, d2] }
  | _ => none }
def FnDistancesThreeWrongFalsely : Prop := fnDistancesThreeRow.holds Try.pinned (OpenSpec.ofChange fnDistancesThreeWrong)

/-- 'laws.FnDistancesReach': WHATEVER THE INPUT: true; the input reads as it did. -/
def fnDistancesReachSpec : ChangeSpec := { name := "fnDistancesReach", fn := fun _ => fun
  | [d] => { results := [.lit (.bool true)], args := [d] }
  | _ => none }
def fnDistancesReachRow : OpenClaim := { program := "ytigamnnboojiiaa", sum := "3e57161aac3a6bae5c87a3dc3127c6ee1f77987b8a39d800e58fa8439bd94cce", func := "loop.example/linkstaterouting/laws.FnDistancesReach", spec := "fnDistancesReach", unfollowed := true, recurses := true, apart := false }
def FnDistancesReachSaid : Prop := fnDistancesReachRow.holds Try.pinned (OpenSpec.ofChange fnDistancesReachSpec)

/-- ITS FALSE NEIGHBOUR: 'it returns false'. Refute it at one input. -/
def fnDistancesReachWrong : ChangeSpec := { name := "fnDistancesReach", fn := fun _ => fun
  | [d] => { results := [.lit (.bool false)], args := [d] }
  | _ => none }
def FnDistancesReachWrongFalsely : Prop := fnDistancesReachRow.holds Try.pinned (OpenSpec.ofChange fnDistancesReachWrong)

/-- 'laws.FnDistancesLink': WHATEVER THE INPUT: true; the input reads as it did. -/
def fnDistancesLinkSpec : ChangeSpec := { name := "fnDistancesLink", fn := fun _ => fun
  | [d] => { results := [.lit (.bool true)], args := [d] }
  | _ => none }
def fnDistancesLinkRow : OpenClaim := { program := "ytigamnnboojiiaa", sum := "3e57161aac3a6bae5c87a3dc3127c6ee1f77987b8a39d800e58fa8439bd94cce", func := "loop.example/linkstaterouting/laws.FnDistancesLink", spec := "fnDistancesLink", unfollowed := true, recurses := true, apart := false }
def FnDistancesLinkSaid : Prop := fnDistancesLinkRow.holds Try.pinned (OpenSpec.ofChange fnDistancesLinkSpec)

/-- ITS FALSE NEIGHBOUR: 'it returns false'. Refute it at one input. -/
def fnDistancesLinkWrong : ChangeSpec := { name := "fnDistancesLink", fn := fun _ => fun
  | [d] => { results := [.lit (.bool false)], args := [d] }
  | _ => none }
def FnDistancesLinkWrongFalsely : Prop := fnDistancesLinkRow.holds Try.pinned (OpenSpec.ofChange fnDistancesLinkWrong)

/- THE SECOND FORM. 'bulk': how many values and letters a reading holds, each counted each time it is reached (what is shared counts as often as it is met; a slice's spare places count too). A statement '..UptoSaid' is the law's where the arguments, and the package variables that the reading takes, are together of bulk at most 1048576: NARROWER than '..Said'. Prove '..Said' where nothing that the law and all that it calls make is longer than what came in: it says more and counts as full. Else prove '..UptoSaid'. A law counts once. -/
mutual
def uptoBulk {H : Type} : DataW H → Nat
  | .lit (.string bytes) => bytes.length + 1
  | .lit _ => 1
  | .nil => 1
  | .ptr d => uptoBulk d + 1
  | .slice elems spare => uptoBulkAll elems + uptoBulkAll spare + 1
  | .agg parts => uptoBulkAll parts + 1
  | .iface _ d => uptoBulk d + 1
  | .map entries => uptoBulkEntries entries + 1
  | .held _ => 1
def uptoBulkAll {H : Type} : List (DataW H) → Nat
  | [] => 0
  | d :: r => uptoBulk d + uptoBulkAll r
def uptoBulkEntries {H : Type} : List (Lit × DataW H) → Nat
  | [] => 0
  | x :: r => uptoBulkEntry x + uptoBulkEntries r
def uptoBulkEntry {H : Type} : Lit × DataW H → Nat
  | (.string bytes, d) => bytes.length + uptoBulk d + 1
  | (_, d) => uptoBulk d + 1
 end
def uptoSmall : (H : Type) → List (DataW H) → Bool := fun _ ds => decide (uptoBulkAll ds ≤ 1048576)
def OpenSpec.upto (s : _root_.Go.ChangeSpec) : _root_.Go.OpenSpec := { _root_.Go.OpenSpec.ofChange s with cond := some uptoSmall }

/-- 'laws.FnExactGraphReach', WHERE WHAT IT READS IS OF BULK AT MOST 1048576: true; the input reads as it did. -/
def fnExactGraphReachUptoRow : OpenClaim := { program := "ytigamnnboojiiaa", sum := "3e57161aac3a6bae5c87a3dc3127c6ee1f77987b8a39d800e58fa8439bd94cce", func := "loop.example/linkstaterouting/laws.FnExactGraphReach", spec := "fnExactGraphReach", unfollowed := true, recurses := true, apart := false, narrowed := true }
def FnExactGraphReachUptoSaid : Prop := fnExactGraphReachUptoRow.holds Try.pinned (OpenSpec.upto fnExactGraphReachSpec)

/-- 'laws.FnExactDistances', WHERE WHAT IT READS IS OF BULK AT MOST 1048576: true; the input reads as it did. -/
def fnExactDistancesUptoRow : OpenClaim := { program := "ytigamnnboojiiaa", sum := "3e57161aac3a6bae5c87a3dc3127c6ee1f77987b8a39d800e58fa8439bd94cce", func := "loop.example/linkstaterouting/laws.FnExactDistances", spec := "fnExactDistances", unfollowed := true, recurses := true, apart := false, narrowed := true }
def FnExactDistancesUptoSaid : Prop := fnExactDistancesUptoRow.holds Try.pinned (OpenSpec.upto fnExactDistancesSpec)

/-- 'laws.FnReach', WHERE WHAT IT READS IS OF BULK AT MOST 1048576: true; the input reads as it did. -/
def fnReachUptoRow : OpenClaim := { program := "ytigamnnboojiiaa", sum := "3e57161aac3a6bae5c87a3dc3127c6ee1f77987b8a39d800e58fa8439bd94cce", func := "loop.example/linkstaterouting/laws.FnReach", spec := "fnReach", unfollowed := true, recurses := true, apart := false, narrowed := true }
def FnReachUptoSaid : Prop := fnReachUptoRow.holds Try.pinned (OpenSpec.upto fnReachSpec)

/-- 'laws.FnReachSame', WHERE WHAT IT READS IS OF BULK AT MOST 1048576: true; the input reads as it did. -/
def fnReachSameUptoRow : OpenClaim := { program := "ytigamnnboojiiaa", sum := "3e57161aac3a6bae5c87a3dc3127c6ee1f77987b8a39d800e58fa8439bd94cce", func := "loop.example/linkstaterouting/laws.FnReachSame", spec := "fnReachSame", unfollowed := true, recurses := true, apart := false, narrowed := true }
def FnReachSameUptoSaid : Prop := fnReachSameUptoRow.holds Try.pinned (OpenSpec.upto fnReachSameSpec)

/-- 'laws.FnIsolateReach', WHERE WHAT IT READS IS OF BULK AT MOST 1048576: true; the input reads as it did. -/
def fnIsolateReachUptoRow : OpenClaim := { program := "ytigamnnboojiiaa", sum := "3e57161aac3a6bae5c87a3dc3127c6ee1f77987b8a39d800e58fa8439bd94cce", func := "loop.example/linkstaterouting/laws.FnIsolateReach", spec := "fnIsolateReach", unfollowed := true, recurses := true, apart := false, narrowed := true }
def FnIsolateReachUptoSaid : Prop := fnIsolateReachUptoRow.holds Try.pinned (OpenSpec.upto fnIsolateReachSpec)

/-- 'laws.FnDistances', WHERE WHAT IT READS IS OF BULK AT MOST 1048576: true; the input reads as it did. -/
def fnDistancesUptoRow : OpenClaim := { program := "ytigamnnboojiiaa", sum := "3e57161aac3a6bae5c87a3dc3127c6ee1f77987b8a39d800e58fa8439bd94cce", func := "loop.example/linkstaterouting/laws.FnDistances", spec := "fnDistances", unfollowed := true, recurses := true, apart := false, narrowed := true }
def FnDistancesUptoSaid : Prop := fnDistancesUptoRow.holds Try.pinned (OpenSpec.upto fnDistancesSpec)

/-- 'laws.FnDistancesBack', WHERE WHAT IT READS IS OF BULK AT MOST 1048576: true; the input reads as it did. -/
def fnDistancesBackUptoRow : OpenClaim := { program := "ytigamnnboojiiaa", sum := "3e57161aac3a6bae5c87a3dc3127c6ee1f77987b8a39d800e58fa8439bd94cce", func := "loop.example/linkstaterouting/laws.FnDistancesBack", spec := "fnDistancesBack", unfollowed := true, recurses := true, apart := false, narrowed := true }
def FnDistancesBackUptoSaid : Prop := fnDistancesBackUptoRow.holds Try.pinned (OpenSpec.upto fnDistancesBackSpec)

/-- 'laws.FnDistancesThree', WHERE WHAT IT READS IS OF BULK AT MOST 1048576: true; the input reads as it did. -/
def fnDistancesThreeUptoRow : OpenClaim := { program := "ytigamnnboojiiaa", sum := "3e57161aac3a6bae5c87a3dc3127c6ee1f77987b8a39d800e58fa8439bd94cce", func := "loop.example/linkstaterouting/laws.FnDistancesThree", spec := "fnDistancesThree", unfollowed := true, recurses := true, apart := false, narrowed := true }
def FnDistancesThreeUptoSaid : Prop := fnDistancesThreeUptoRow.holds Try.pinned (OpenSpec.upto fnDistancesThreeSpec)

/-- 'laws.FnDistancesReach', WHERE WHAT IT READS IS OF BULK AT MOST 1048576: true; the input reads as it did. -/
def fnDistancesReachUptoRow : OpenClaim := { program := "ytigamnnboojiiaa", sum := "3e57161aac3a6bae5c87a3dc3127c6ee1f77987b8a39d800e58fa8439bd94cce", func := "loop.example/linkstaterouting/laws.FnDistancesReach", spec := "fnDistancesReach", unfollowed := true, recurses := true, apart := false, narrowed := true }
def FnDistancesReachUptoSaid : Prop := fnDistancesReachUptoRow.holds Try.pinned (OpenSpec.upto fnDistancesReachSpec)

/-- 'laws.FnDistancesLink', WHERE WHAT IT READS IS OF BULK AT MOST 1048576: true; the input reads as it did. -/
def fnDistancesLinkUptoRow : OpenClaim := { program := "ytigamnnboojiiaa", sum := "3e57161aac3a6bae5c87a3dc3127c6ee1f77987b8a39d800e58fa8439bd94cce", func := "loop.example/linkstaterouting/laws.FnDistancesLink", spec := "fnDistancesLink", unfollowed := true, recurses := true, apart := false, narrowed := true }
def FnDistancesLinkUptoSaid : Prop := fnDistancesLinkUptoRow.holds Try.pinned (OpenSpec.upto fnDistancesLinkSpec)

end Rows
end Go.Proofs.Ytigamnnboojiiaa
