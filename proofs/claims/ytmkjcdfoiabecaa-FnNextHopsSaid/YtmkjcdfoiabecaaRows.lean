/-
  No cell of these rows narrows 'for every input' (looked for: loops, veiled, ifaces, maps, wideKeys, modest, calm, conditions, laid).
  DERIVED. THE GIVEN ROWS OF THIS SEAT. 12 by the template 'for every input the law returns true; each argument reads behind the call as it read before'; 0 by the template 'total and deterministic' (their statements: YtmkjcdfoiabecaaTotals.lean).
  GIVEN WITH THE SEED: the statements are not yours to turn. If you find one false, say at which input.
  Laid BY PROGRAM, IN A SANDBOX (cutbox-rows.mjs): the forced cells as the released guide's own fill.sh prints them over the translation dbede17862868df7… (all of the seat's roots in one cut). By AI agents, Wed Nov 11 2026. No macro, syntax, notation, axiom, sorry.
-/
import Derived.Test.YtmkjcdfoiabecaaChecked
import GoSem.Claim
import GoSem.ClaimJoined
import GoSem.ClaimMapViews
import Derived.JoinedTies
import Derived.KernelRfl
namespace Go.Proofs.Ytmkjcdfoiabecaa
/- THE CELL 'sum', in the pinned program and in every row, IS THE sha256 OF THE DUMP (.gsa) THAT YtmkjcdfoiabecaaProg.lean LOADS. Nothing in Lean hashes anything: it is a label: what it is worth is what the hold of that sum in a sandbox is worth. -/
noncomputable def Try.pinned : Pinned := { name := "ytmkjcdfoiabecaa", sum := "dbede17862868df7ca1fab35585d87e1224b1f246b7980cd161a61a55db01c11", checked := Try.checked }
namespace Rows
def none {H : Type} : Left H := { results := [], args := [] }

/-- 'laws.FnExactNextHops': WHATEVER THE INPUT: true; the input reads as it did. -/
def fnExactNextHopsSpec : ChangeSpec := { name := "fnExactNextHops", fn := fun _ => fun
  | [d1, d2, d3] => { results := [.lit (.bool true)], args := [d1, d2, d3] }
  | _ => none }
def fnExactNextHopsRow : OpenClaim := { program := "ytmkjcdfoiabecaa", sum := "dbede17862868df7ca1fab35585d87e1224b1f246b7980cd161a61a55db01c11", func := "loop.example/linkstaterouting/laws.FnExactNextHops", spec := "fnExactNextHops", unfollowed := true, recurses := true, apart := false }
def FnExactNextHopsSaid : Prop := fnExactNextHopsRow.holds Try.pinned (OpenSpec.ofChange fnExactNextHopsSpec)

/-- ITS FALSE NEIGHBOUR: 'it returns false'. Refute it at one input. -/
def fnExactNextHopsWrong : ChangeSpec := { name := "fnExactNextHops", fn := fun _ => fun
  | [d1, d2, d3] => { results := [.lit (.bool false)], args := [d1, d2, d3] }
  | _ => none }
def FnExactNextHopsWrongFalsely : Prop := fnExactNextHopsRow.holds Try.pinned (OpenSpec.ofChange fnExactNextHopsWrong)

/-- 'laws.FnExactLinkUsed': WHATEVER THE INPUT: true; the input reads as it did. -/
def fnExactLinkUsedSpec : ChangeSpec := { name := "fnExactLinkUsed", fn := fun _ => fun
  | [d1, d2, d3, d4] => { results := [.lit (.bool true)], args := [d1, d2, d3, d4] }
  | _ => none }
def fnExactLinkUsedRow : OpenClaim := { program := "ytmkjcdfoiabecaa", sum := "dbede17862868df7ca1fab35585d87e1224b1f246b7980cd161a61a55db01c11", func := "loop.example/linkstaterouting/laws.FnExactLinkUsed", spec := "fnExactLinkUsed", unfollowed := true, recurses := true, apart := false }
def FnExactLinkUsedSaid : Prop := fnExactLinkUsedRow.holds Try.pinned (OpenSpec.ofChange fnExactLinkUsedSpec)

/-- ITS FALSE NEIGHBOUR: 'it returns false'. Refute it at one input. -/
def fnExactLinkUsedWrong : ChangeSpec := { name := "fnExactLinkUsed", fn := fun _ => fun
  | [d1, d2, d3, d4] => { results := [.lit (.bool false)], args := [d1, d2, d3, d4] }
  | _ => none }
def FnExactLinkUsedWrongFalsely : Prop := fnExactLinkUsedRow.holds Try.pinned (OpenSpec.ofChange fnExactLinkUsedWrong)

/-- 'laws.FnExactNodeUsed': WHATEVER THE INPUT: true; the input reads as it did. -/
def fnExactNodeUsedSpec : ChangeSpec := { name := "fnExactNodeUsed", fn := fun _ => fun
  | [d1, d2, d3, d4] => { results := [.lit (.bool true)], args := [d1, d2, d3, d4] }
  | _ => none }
def fnExactNodeUsedRow : OpenClaim := { program := "ytmkjcdfoiabecaa", sum := "dbede17862868df7ca1fab35585d87e1224b1f246b7980cd161a61a55db01c11", func := "loop.example/linkstaterouting/laws.FnExactNodeUsed", spec := "fnExactNodeUsed", unfollowed := true, recurses := true, apart := false }
def FnExactNodeUsedSaid : Prop := fnExactNodeUsedRow.holds Try.pinned (OpenSpec.ofChange fnExactNodeUsedSpec)

/-- ITS FALSE NEIGHBOUR: 'it returns false'. Refute it at one input. -/
def fnExactNodeUsedWrong : ChangeSpec := { name := "fnExactNodeUsed", fn := fun _ => fun
  | [d1, d2, d3, d4] => { results := [.lit (.bool false)], args := [d1, d2, d3, d4] }
  | _ => none }
def FnExactNodeUsedWrongFalsely : Prop := fnExactNodeUsedRow.holds Try.pinned (OpenSpec.ofChange fnExactNodeUsedWrong)

/-- 'laws.FnExactPathCount': WHATEVER THE INPUT: true; the input reads as it did. -/
def fnExactPathCountSpec : ChangeSpec := { name := "fnExactPathCount", fn := fun _ => fun
  | [d1, d2, d3] => { results := [.lit (.bool true)], args := [d1, d2, d3] }
  | _ => none }
def fnExactPathCountRow : OpenClaim := { program := "ytmkjcdfoiabecaa", sum := "dbede17862868df7ca1fab35585d87e1224b1f246b7980cd161a61a55db01c11", func := "loop.example/linkstaterouting/laws.FnExactPathCount", spec := "fnExactPathCount", unfollowed := true, recurses := true, apart := false }
def FnExactPathCountSaid : Prop := fnExactPathCountRow.holds Try.pinned (OpenSpec.ofChange fnExactPathCountSpec)

/-- ITS FALSE NEIGHBOUR: 'it returns false'. Refute it at one input. -/
def fnExactPathCountWrong : ChangeSpec := { name := "fnExactPathCount", fn := fun _ => fun
  | [d1, d2, d3] => { results := [.lit (.bool false)], args := [d1, d2, d3] }
  | _ => none }
def FnExactPathCountWrongFalsely : Prop := fnExactPathCountRow.holds Try.pinned (OpenSpec.ofChange fnExactPathCountWrong)

/-- 'laws.FnNextHops': WHATEVER THE INPUT: true; the input reads as it did. -/
def fnNextHopsSpec : ChangeSpec := { name := "fnNextHops", fn := fun _ => fun
  | [d] => { results := [.lit (.bool true)], args := [d] }
  | _ => none }
def fnNextHopsRow : OpenClaim := { program := "ytmkjcdfoiabecaa", sum := "dbede17862868df7ca1fab35585d87e1224b1f246b7980cd161a61a55db01c11", func := "loop.example/linkstaterouting/laws.FnNextHops", spec := "fnNextHops", unfollowed := true, recurses := true, apart := false }
def FnNextHopsSaid : Prop := fnNextHopsRow.holds Try.pinned (OpenSpec.ofChange fnNextHopsSpec)

/-- ITS FALSE NEIGHBOUR: 'it returns false'. Refute it at one input. -/
def fnNextHopsWrong : ChangeSpec := { name := "fnNextHops", fn := fun _ => fun
  | [d] => { results := [.lit (.bool false)], args := [d] }
  | _ => none }
def FnNextHopsWrongFalsely : Prop := fnNextHopsRow.holds Try.pinned (OpenSpec.ofChange fnNextHopsWrong)

/-- 'laws.FnNextHopsNone': WHATEVER THE INPUT: true; the input reads as it did. -/
def fnNextHopsNoneSpec : ChangeSpec := { name := "fnNextHopsNone", fn := fun _ => fun
  | [d] => { results := [.lit (.bool true)], args := [d] }
  | _ => none }
def fnNextHopsNoneRow : OpenClaim := { program := "ytmkjcdfoiabecaa", sum := "dbede17862868df7ca1fab35585d87e1224b1f246b7980cd161a61a55db01c11", func := "loop.example/linkstaterouting/laws.FnNextHopsNone", spec := "fnNextHopsNone", unfollowed := true, recurses := true, apart := false }
def FnNextHopsNoneSaid : Prop := fnNextHopsNoneRow.holds Try.pinned (OpenSpec.ofChange fnNextHopsNoneSpec)

/-- ITS FALSE NEIGHBOUR: 'it returns false'. Refute it at one input. -/
def fnNextHopsNoneWrong : ChangeSpec := { name := "fnNextHopsNone", fn := fun _ => fun
  | [d] => { results := [.lit (.bool false)], args := [d] }
  | _ => none }
def FnNextHopsNoneWrongFalsely : Prop := fnNextHopsNoneRow.holds Try.pinned (OpenSpec.ofChange fnNextHopsNoneWrong)

/-- 'laws.FnHopsUsed': WHATEVER THE INPUT: true; the input reads as it did. -/
def fnHopsUsedSpec : ChangeSpec := { name := "fnHopsUsed", fn := fun _ => fun
  | [d] => { results := [.lit (.bool true)], args := [d] }
  | _ => none }
def fnHopsUsedRow : OpenClaim := { program := "ytmkjcdfoiabecaa", sum := "dbede17862868df7ca1fab35585d87e1224b1f246b7980cd161a61a55db01c11", func := "loop.example/linkstaterouting/laws.FnHopsUsed", spec := "fnHopsUsed", unfollowed := true, recurses := true, apart := false }
def FnHopsUsedSaid : Prop := fnHopsUsedRow.holds Try.pinned (OpenSpec.ofChange fnHopsUsedSpec)

/-- ITS FALSE NEIGHBOUR: 'it returns false'. Refute it at one input. -/
def fnHopsUsedWrong : ChangeSpec := { name := "fnHopsUsed", fn := fun _ => fun
  | [d] => { results := [.lit (.bool false)], args := [d] }
  | _ => none }
def FnHopsUsedWrongFalsely : Prop := fnHopsUsedRow.holds Try.pinned (OpenSpec.ofChange fnHopsUsedWrong)

/-- 'laws.FnLinkUsedBack': WHATEVER THE INPUT: true; the input reads as it did. -/
def fnLinkUsedBackSpec : ChangeSpec := { name := "fnLinkUsedBack", fn := fun _ => fun
  | [d] => { results := [.lit (.bool true)], args := [d] }
  | _ => none }
def fnLinkUsedBackRow : OpenClaim := { program := "ytmkjcdfoiabecaa", sum := "dbede17862868df7ca1fab35585d87e1224b1f246b7980cd161a61a55db01c11", func := "loop.example/linkstaterouting/laws.FnLinkUsedBack", spec := "fnLinkUsedBack", unfollowed := true, recurses := true, apart := false }
def FnLinkUsedBackSaid : Prop := fnLinkUsedBackRow.holds Try.pinned (OpenSpec.ofChange fnLinkUsedBackSpec)

/-- ITS FALSE NEIGHBOUR: 'it returns false'. Refute it at one input. -/
def fnLinkUsedBackWrong : ChangeSpec := { name := "fnLinkUsedBack", fn := fun _ => fun
  | [d] => { results := [.lit (.bool false)], args := [d] }
  | _ => none }
def FnLinkUsedBackWrongFalsely : Prop := fnLinkUsedBackRow.holds Try.pinned (OpenSpec.ofChange fnLinkUsedBackWrong)

/-- 'laws.FnLinkUsedEnds': WHATEVER THE INPUT: true; the input reads as it did. -/
def fnLinkUsedEndsSpec : ChangeSpec := { name := "fnLinkUsedEnds", fn := fun _ => fun
  | [d1, d2] => { results := [.lit (.bool true)], args := [d1, d2] }
  | _ => none }
def fnLinkUsedEndsRow : OpenClaim := { program := "ytmkjcdfoiabecaa", sum := "dbede17862868df7ca1fab35585d87e1224b1f246b7980cd161a61a55db01c11", func := "loop.example/linkstaterouting/laws.FnLinkUsedEnds", spec := "fnLinkUsedEnds", unfollowed := true, recurses := true, apart := false }
def FnLinkUsedEndsSaid : Prop := fnLinkUsedEndsRow.holds Try.pinned (OpenSpec.ofChange fnLinkUsedEndsSpec)

/-- ITS FALSE NEIGHBOUR: 'it returns false'. Refute it at one input. -/
def fnLinkUsedEndsWrong : ChangeSpec := { name := "fnLinkUsedEnds", fn := fun _ => fun
  | [d1, d2] => { results := [.lit (.bool false)], args := [d1, d2] }
  | _ => none }
def FnLinkUsedEndsWrongFalsely : Prop := fnLinkUsedEndsRow.holds Try.pinned (OpenSpec.ofChange fnLinkUsedEndsWrong)

/-- 'laws.FnNodeUsed': WHATEVER THE INPUT: true; the input reads as it did. -/
def fnNodeUsedSpec : ChangeSpec := { name := "fnNodeUsed", fn := fun _ => fun
  | [d] => { results := [.lit (.bool true)], args := [d] }
  | _ => none }
def fnNodeUsedRow : OpenClaim := { program := "ytmkjcdfoiabecaa", sum := "dbede17862868df7ca1fab35585d87e1224b1f246b7980cd161a61a55db01c11", func := "loop.example/linkstaterouting/laws.FnNodeUsed", spec := "fnNodeUsed", unfollowed := true, recurses := true, apart := false }
def FnNodeUsedSaid : Prop := fnNodeUsedRow.holds Try.pinned (OpenSpec.ofChange fnNodeUsedSpec)

/-- ITS FALSE NEIGHBOUR: 'it returns false'. Refute it at one input. -/
def fnNodeUsedWrong : ChangeSpec := { name := "fnNodeUsed", fn := fun _ => fun
  | [d] => { results := [.lit (.bool false)], args := [d] }
  | _ => none }
def FnNodeUsedWrongFalsely : Prop := fnNodeUsedRow.holds Try.pinned (OpenSpec.ofChange fnNodeUsedWrong)

/-- 'laws.FnCount': WHATEVER THE INPUT: true; the input reads as it did. -/
def fnCountSpec : ChangeSpec := { name := "fnCount", fn := fun _ => fun
  | [d] => { results := [.lit (.bool true)], args := [d] }
  | _ => none }
def fnCountRow : OpenClaim := { program := "ytmkjcdfoiabecaa", sum := "dbede17862868df7ca1fab35585d87e1224b1f246b7980cd161a61a55db01c11", func := "loop.example/linkstaterouting/laws.FnCount", spec := "fnCount", unfollowed := true, recurses := true, apart := false }
def FnCountSaid : Prop := fnCountRow.holds Try.pinned (OpenSpec.ofChange fnCountSpec)

/-- ITS FALSE NEIGHBOUR: 'it returns false'. Refute it at one input. -/
def fnCountWrong : ChangeSpec := { name := "fnCount", fn := fun _ => fun
  | [d] => { results := [.lit (.bool false)], args := [d] }
  | _ => none }
def FnCountWrongFalsely : Prop := fnCountRow.holds Try.pinned (OpenSpec.ofChange fnCountWrong)

/-- 'laws.FnCountReach': WHATEVER THE INPUT: true; the input reads as it did. -/
def fnCountReachSpec : ChangeSpec := { name := "fnCountReach", fn := fun _ => fun
  | [d] => { results := [.lit (.bool true)], args := [d] }
  | _ => none }
def fnCountReachRow : OpenClaim := { program := "ytmkjcdfoiabecaa", sum := "dbede17862868df7ca1fab35585d87e1224b1f246b7980cd161a61a55db01c11", func := "loop.example/linkstaterouting/laws.FnCountReach", spec := "fnCountReach", unfollowed := true, recurses := true, apart := false }
def FnCountReachSaid : Prop := fnCountReachRow.holds Try.pinned (OpenSpec.ofChange fnCountReachSpec)

/-- ITS FALSE NEIGHBOUR: 'it returns false'. Refute it at one input. -/
def fnCountReachWrong : ChangeSpec := { name := "fnCountReach", fn := fun _ => fun
  | [d] => { results := [.lit (.bool false)], args := [d] }
  | _ => none }
def FnCountReachWrongFalsely : Prop := fnCountReachRow.holds Try.pinned (OpenSpec.ofChange fnCountReachWrong)

/- THE SECOND FORM. 'bulk': how many values and letters a reading holds, each counted each time it is reached (what is shared counts as often as it is met; a slice's spare places count too). A statement '..UptoSaid' is the law's where the arguments, and the package variables that the reading takes, are together of bulk at most 1048576: NARROWER than '..Said'. Prove '..Said' where nothing that the law and all that it calls make is longer than what came in: it says more and counts as full. Else prove '..UptoSaid'. A law counts once. -/
mutual
def uptoBulk {H : Type} : DataW H → Nat
  | .lit (.string bytes) => bytes.length + 1
  | .lit _ => 1
  | .nil => 1
  | .ptr d => uptoBulk d + 1
  | .slice elems spare => uptoBulkAll elems + uptoBulkAll spare + 1
  | .agg parts => uptoBulkAll parts + 1
  | .iface _ d => uptoBulk d + 1
  | .map entries => uptoBulkEntries entries + 1
  | .held _ => 1
def uptoBulkAll {H : Type} : List (DataW H) → Nat
  | [] => 0
  | d :: r => uptoBulk d + uptoBulkAll r
def uptoBulkEntries {H : Type} : List (Lit × DataW H) → Nat
  | [] => 0
  | x :: r => uptoBulkEntry x + uptoBulkEntries r
def uptoBulkEntry {H : Type} : Lit × DataW H → Nat
  | (.string bytes, d) => bytes.length + uptoBulk d + 1
  | (_, d) => uptoBulk d + 1
 end
def uptoSmall : (H : Type) → List (DataW H) → Bool := fun _ ds => decide (uptoBulkAll ds ≤ 1048576)
def OpenSpec.upto (s : _root_.Go.ChangeSpec) : _root_.Go.OpenSpec := { _root_.Go.OpenSpec.ofChange s with cond := some uptoSmall }

/-- 'laws.FnExactNextHops', WHERE WHAT IT READS IS OF BULK AT MOST 1048576: true; the input reads as it did. -/
def fnExactNextHopsUptoRow : OpenClaim := { program := "ytmkjcdfoiabecaa", sum := "dbede17862868df7ca1fab35585d87e1224b1f246b7980cd161a61a55db01c11", func := "loop.example/linkstaterouting/laws.FnExactNextHops", spec := "fnExactNextHops", unfollowed := true, recurses := true, apart := false, narrowed := true }
def FnExactNextHopsUptoSaid : Prop := fnExactNextHopsUptoRow.holds Try.pinned (OpenSpec.upto fnExactNextHopsSpec)

/-- 'laws.FnExactLinkUsed', WHERE WHAT IT READS IS OF BULK AT MOST 1048576: true; the input reads as it did. -/
def fnExactLinkUsedUptoRow : OpenClaim := { program := "ytmkjcdfoiabecaa", sum := "dbede17862868df7ca1fab35585d87e1224b1f246b7980cd161a61a55db01c11", func := "loop.example/linkstaterouting/laws.FnExactLinkUsed", spec := "fnExactLinkUsed", unfollowed := true, recurses := true, apart := false, narrowed := true }
def FnExactLinkUsedUptoSaid : Prop := fnExactLinkUsedUptoRow.holds Try.pinned (OpenSpec.upto fnExactLinkUsedSpec)

/-- 'laws.FnExactNodeUsed', WHERE WHAT IT READS IS OF BULK AT MOST 1048576: true; the input reads as it did. -/
def fnExactNodeUsedUptoRow : OpenClaim := { program := "ytmkjcdfoiabecaa", sum := "dbede17862868df7ca1fab35585d87e1224b1f246b7980cd161a61a55db01c11", func := "loop.example/linkstaterouting/laws.FnExactNodeUsed", spec := "fnExactNodeUsed", unfollowed := true, recurses := true, apart := false, narrowed := true }
def FnExactNodeUsedUptoSaid : Prop := fnExactNodeUsedUptoRow.holds Try.pinned (OpenSpec.upto fnExactNodeUsedSpec)

/-- 'laws.FnExactPathCount', WHERE WHAT IT READS IS OF BULK AT MOST 1048576: true; the input reads as it did. -/
def fnExactPathCountUptoRow : OpenClaim := { program := "ytmkjcdfoiabecaa", sum := "dbede17862868df7ca1fab35585d87e1224b1f246b7980cd161a61a55db01c11", func := "loop.example/linkstaterouting/laws.FnExactPathCount", spec := "fnExactPathCount", unfollowed := true, recurses := true, apart := false, narrowed := true }
def FnExactPathCountUptoSaid : Prop := fnExactPathCountUptoRow.holds Try.pinned (OpenSpec.upto fnExactPathCountSpec)

/-- 'laws.FnNextHops', WHERE WHAT IT READS IS OF BULK AT MOST 1048576: true; the input reads as it did. -/
def fnNextHopsUptoRow : OpenClaim := { program := "ytmkjcdfoiabecaa", sum := "dbede17862868df7ca1fab35585d87e1224b1f246b7980cd161a61a55db01c11", func := "loop.example/linkstaterouting/laws.FnNextHops", spec := "fnNextHops", unfollowed := true, recurses := true, apart := false, narrowed := true }
def FnNextHopsUptoSaid : Prop := fnNextHopsUptoRow.holds Try.pinned (OpenSpec.upto fnNextHopsSpec)

/-- 'laws.FnNextHopsNone', WHERE WHAT IT READS IS OF BULK AT MOST 1048576: true; the input reads as it did. -/
def fnNextHopsNoneUptoRow : OpenClaim := { program := "ytmkjcdfoiabecaa", sum := "dbede17862868df7ca1fab35585d87e1224b1f246b7980cd161a61a55db01c11", func := "loop.example/linkstaterouting/laws.FnNextHopsNone", spec := "fnNextHopsNone", unfollowed := true, recurses := true, apart := false, narrowed := true }
def FnNextHopsNoneUptoSaid : Prop := fnNextHopsNoneUptoRow.holds Try.pinned (OpenSpec.upto fnNextHopsNoneSpec)

/-- 'laws.FnHopsUsed', WHERE WHAT IT READS IS OF BULK AT MOST 1048576: true; the input reads as it did. -/
def fnHopsUsedUptoRow : OpenClaim := { program := "ytmkjcdfoiabecaa", sum := "dbede17862868df7ca1fab35585d87e1224b1f246b7980cd161a61a55db01c11", func := "loop.example/linkstaterouting/laws.FnHopsUsed", spec := "fnHopsUsed", unfollowed := true, recurses := true, apart := false, narrowed := true }
def FnHopsUsedUptoSaid : Prop := fnHopsUsedUptoRow.holds Try.pinned (OpenSpec.upto fnHopsUsedSpec)

/-- 'laws.FnLinkUsedBack', WHERE WHAT IT READS IS OF BULK AT MOST 1048576: true; the input reads as it did. -/
def fnLinkUsedBackUptoRow : OpenClaim := { program := "ytmkjcdfoiabecaa", sum := "dbede17862868df7ca1fab35585d87e1224b1f246b7980cd161a61a55db01c11", func := "loop.example/linkstaterouting/laws.FnLinkUsedBack", spec := "fnLinkUsedBack", unfollowed := true, recurses := true, apart := false, narrowed := true }
def FnLinkUsedBackUptoSaid : Prop := fnLinkUsedBackUptoRow.holds Try.pinned (OpenSpec.upto fnLinkUsedBackSpec)

/-- 'laws.FnLinkUsedEnds', WHERE WHAT IT READS IS OF BULK AT MOST 1048576: true; the input reads as it did. -/
def fnLinkUsedEndsUptoRow : OpenClaim := { program := "ytmkjcdfoiabecaa", sum := "dbede17862868df7ca1fab35585d87e1224b1f246b7980cd161a61a55db01c11", func := "loop.example/linkstaterouting/laws.FnLinkUsedEnds", spec := "fnLinkUsedEnds", unfollowed := true, recurses := true, apart := false, narrowed := true }
def FnLinkUsedEndsUptoSaid : Prop := fnLinkUsedEndsUptoRow.holds Try.pinned (OpenSpec.upto fnLinkUsedEndsSpec)

/-- 'laws.FnNodeUsed', WHERE WHAT IT READS IS OF BULK AT MOST 1048576: true; the input reads as it did. -/
def fnNodeUsedUptoRow : OpenClaim := { program := "ytmkjcdfoiabecaa", sum := "dbede17862868df7ca1fab35585d87e1224b1f246b7980cd161a61a55db01c11", func := "loop.example/linkstaterouting/laws.FnNodeUsed", spec := "fnNodeUsed", unfollowed := true, recurses := true, apart := false, narrowed := true }
def FnNodeUsedUptoSaid : Prop := fnNodeUsedUptoRow.holds Try.pinned (OpenSpec.upto fnNodeUsedSpec)

/-- 'laws.FnCount', WHERE WHAT IT READS IS OF BULK AT MOST 1048576: true; the input reads as it did. -/
def fnCountUptoRow : OpenClaim := { program := "ytmkjcdfoiabecaa", sum := "dbede17862868df7ca1fab35585d87e1224b1f246b7980cd161a61a55db01c11", func := "loop.example/linkstaterouting/laws.FnCount", spec := "fnCount", unfollowed := true, recurses := true, apart := false, narrowed := true }
def FnCountUptoSaid : Prop := fnCountUptoRow.holds Try.pinned (OpenSpec.upto fnCountSpec)

/-- 'laws.FnCountReach', WHERE WHAT IT READS IS OF BULK AT MOST 1048576: true; the input reads as it did. -/
def fnCountReachUptoRow : OpenClaim := { program := "ytmkjcdfoiabecaa", sum := "dbede17862868df7ca1fab35585d87e1224b1f246b7980cd161a61a55db01c11", func := "loop.example/linkstaterouting/laws.FnCountReach", spec := "fnCountReach", unfollowed := true, recurses := true, apart := false, narrowed := true }
def FnCountReachUptoSaid : Prop := fnCountReachUptoRow.holds Try.pinned (OpenSpec.upto fnCountReachSpec)

end Rows
end Go.Proofs.Ytmkjcdfoiabecaa
