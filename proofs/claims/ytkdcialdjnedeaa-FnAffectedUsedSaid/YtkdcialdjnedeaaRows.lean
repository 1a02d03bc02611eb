/-
  No cell of these rows narrows 'for every input' (looked for: loops, veiled, ifaces, maps, wideKeys, modest, calm, conditions, laid).
  DERIVED. THE GIVEN ROWS OF THIS SEAT. 9 by the template 'for every input the law returns true; each argument reads behind the call as it read before'; 0 by the template 'total and deterministic' (their statements: YtkdcialdjnedeaaTotals.lean).
  GIVEN WITH THE SEED: the statements are not yours to turn. If you find one false, say at which input.
  Laid BY PROGRAM, IN A SANDBOX (cutbox-rows.mjs): the forced cells as the released guide's own fill.sh prints them over the translation c3b5739f879e56db… (all of the seat's roots in one cut). By AI agents, Wed Nov 11 2026. No macro, syntax, notation, axiom, sorry.
-/
import Derived.Test.YtkdcialdjnedeaaChecked
import GoSem.Claim
import GoSem.ClaimJoined
import GoSem.ClaimMapViews
import Derived.JoinedTies
import Derived.KernelRfl
namespace Go.Proofs.Ytkdcialdjnedeaa
/- THE CELL 'sum', in the pinned program and in every row, IS THE sha256 OF THE DUMP (.gsa) THAT YtkdcialdjnedeaaProg.lean LOADS. Nothing in Lean hashes anything: it is a label: what it is worth is what the hold of that sum in a sandbox is worth. -/
noncomputable def Try.pinned : Pinned := { name := "ytkdcialdjnedeaa", sum := "c3b5739f879e56db004069fa9e4ffef2f1b3d7152ecd3a7dfca2a2cc293166f5", checked := Try.checked }
namespace Rows
def none {H : Type} : Left H := { results := [], args := [] }

/-- 'laws.FnExactDistancesAfter': WHATEVER THE INPUT: true; the input reads as it did. -/
def fnExactDistancesAfterSpec : ChangeSpec := { name := "fnExactDistancesAfter", fn := fun _ => fun
  | [d1, d2, d3, d4] => { results := [.lit (.bool true)], args := [d1, d2, d3, d4] }
  | _ => none }
def fnExactDistancesAfterRow : OpenClaim := { program := "ytkdcialdjnedeaa", sum := "c3b5739f879e56db004069fa9e4ffef2f1b3d7152ecd3a7dfca2a2cc293166f5", func := "loop.example/linkstaterouting/laws.FnExactDistancesAfter", spec := "fnExactDistancesAfter", unfollowed := true, recurses := true, apart := false }
def FnExactDistancesAfterSaid : Prop := fnExactDistancesAfterRow.holds Try.pinned (OpenSpec.ofChange fnExactDistancesAfterSpec)

/-- ITS FALSE NEIGHBOUR: 'it returns false'. Refute it at one input. -/
def fnExactDistancesAfterWrong : ChangeSpec := { name := "fnExactDistancesAfter", fn := fun _ => fun
  | [d1, d2, d3, d4] => { results := [.lit (.bool false)], args := [d1, d2, d3, d4] }
  | _ => none }
def FnExactDistancesAfterWrongFalsely : Prop := fnExactDistancesAfterRow.holds Try.pinned (OpenSpec.ofChange fnExactDistancesAfterWrong)

/-- 'laws.FnExactAffected': WHATEVER THE INPUT: true; the input reads as it did. -/
def fnExactAffectedSpec : ChangeSpec := { name := "fnExactAffected", fn := fun _ => fun
  | [d1, d2, d3, d4] => { results := [.lit (.bool true)], args := [d1, d2, d3, d4] }
  | _ => none }
def fnExactAffectedRow : OpenClaim := { program := "ytkdcialdjnedeaa", sum := "c3b5739f879e56db004069fa9e4ffef2f1b3d7152ecd3a7dfca2a2cc293166f5", func := "loop.example/linkstaterouting/laws.FnExactAffected", spec := "fnExactAffected", unfollowed := true, recurses := true, apart := false }
def FnExactAffectedSaid : Prop := fnExactAffectedRow.holds Try.pinned (OpenSpec.ofChange fnExactAffectedSpec)

/-- ITS FALSE NEIGHBOUR: 'it returns false'. Refute it at one input. -/
def fnExactAffectedWrong : ChangeSpec := { name := "fnExactAffected", fn := fun _ => fun
  | [d1, d2, d3, d4] => { results := [.lit (.bool false)], args := [d1, d2, d3, d4] }
  | _ => none }
def FnExactAffectedWrongFalsely : Prop := fnExactAffectedRow.holds Try.pinned (OpenSpec.ofChange fnExactAffectedWrong)

/-- 'laws.FnAfter': WHATEVER THE INPUT: true; the input reads as it did. -/
def fnAfterSpec : ChangeSpec := { name := "fnAfter", fn := fun _ => fun
  | [d] => { results := [.lit (.bool true)], args := [d] }
  | _ => none }
def fnAfterRow : OpenClaim := { program := "ytkdcialdjnedeaa", sum := "c3b5739f879e56db004069fa9e4ffef2f1b3d7152ecd3a7dfca2a2cc293166f5", func := "loop.example/linkstaterouting/laws.FnAfter", spec := "fnAfter", unfollowed := true, recurses := true, apart := false }
def FnAfterSaid : Prop := fnAfterRow.holds Try.pinned (OpenSpec.ofChange fnAfterSpec)

/-- ITS FALSE NEIGHBOUR: 'it returns false'. Refute it at one input. -/
def fnAfterWrong : ChangeSpec := { name := "fnAfter", fn := fun _ => fun
  | [d] => { results := [.lit (.bool false)], args := [d] }
  | _ => none }
def FnAfterWrongFalsely : Prop := fnAfterRow.holds Try.pinned (OpenSpec.ofChange fnAfterWrong)

/-- 'laws.FnAfterWorse': WHATEVER THE INPUT: true; the input reads as it did. -/
def fnAfterWorseSpec : ChangeSpec := { name := "fnAfterWorse", fn := fun _ => fun
  | [d] => { results := [.lit (.bool true)], args := [d] }
  | _ => none }
def fnAfterWorseRow : OpenClaim := { program := "ytkdcialdjnedeaa", sum := "c3b5739f879e56db004069fa9e4ffef2f1b3d7152ecd3a7dfca2a2cc293166f5", func := "loop.example/linkstaterouting/laws.FnAfterWorse", spec := "fnAfterWorse", unfollowed := true, recurses := true, apart := false }
def FnAfterWorseSaid : Prop := fnAfterWorseRow.holds Try.pinned (OpenSpec.ofChange fnAfterWorseSpec)

/-- ITS FALSE NEIGHBOUR: 'it returns false'. Refute it at one input. -/
def fnAfterWorseWrong : ChangeSpec := { name := "fnAfterWorse", fn := fun _ => fun
  | [d] => { results := [.lit (.bool false)], args := [d] }
  | _ => none }
def FnAfterWorseWrongFalsely : Prop := fnAfterWorseRow.holds Try.pinned (OpenSpec.ofChange fnAfterWorseWrong)

/-- 'laws.FnAfterBound': WHATEVER THE INPUT: true; the input reads as it did. -/
def fnAfterBoundSpec : ChangeSpec := { name := "fnAfterBound", fn := fun _ => fun
  | [d] => { results := [.lit (.bool true)], args := [d] }
  | _ => none }
def fnAfterBoundRow : OpenClaim := { program := "ytkdcialdjnedeaa", sum := "c3b5739f879e56db004069fa9e4ffef2f1b3d7152ecd3a7dfca2a2cc293166f5", func := "loop.example/linkstaterouting/laws.FnAfterBound", spec := "fnAfterBound", unfollowed := true, recurses := true, apart := false }
def FnAfterBoundSaid : Prop := fnAfterBoundRow.holds Try.pinned (OpenSpec.ofChange fnAfterBoundSpec)

/-- ITS FALSE NEIGHBOUR: 'it returns false'. Refute it at one input. -/
def fnAfterBoundWrong : ChangeSpec := { name := "fnAfterBound", fn := fun _ => fun
  | [d] => { results := [.lit (.bool false)], args := [d] }
  | _ => none }
def FnAfterBoundWrongFalsely : Prop := fnAfterBoundRow.holds Try.pinned (OpenSpec.ofChange fnAfterBoundWrong)

/-- 'laws.FnAffected': WHATEVER THE INPUT: true; the input reads as it did. -/
def fnAffectedSpec : ChangeSpec := { name := "fnAffected", fn := fun _ => fun
  | [d] => { results := [.lit (.bool true)], args := [d] }
  | _ => none }
def fnAffectedRow : OpenClaim := { program := "ytkdcialdjnedeaa", sum := "c3b5739f879e56db004069fa9e4ffef2f1b3d7152ecd3a7dfca2a2cc293166f5", func := "loop.example/linkstaterouting/laws.FnAffected", spec := "fnAffected", unfollowed := true, recurses := true, apart := false }
def FnAffectedSaid : Prop := fnAffectedRow.holds Try.pinned (OpenSpec.ofChange fnAffectedSpec)

/-- ITS FALSE NEIGHBOUR: 'it returns false'. Refute it at one input. -/
def fnAffectedWrong : ChangeSpec := { name := "fnAffected", fn := fun _ => fun
  | [d] => { results := [.lit (.bool false)], args := [d] }
  | _ => none }
def FnAffectedWrongFalsely : Prop := fnAffectedRow.holds Try.pinned (OpenSpec.ofChange fnAffectedWrong)

/-- 'laws.FnAffectedUsed': WHATEVER THE INPUT: true; the input reads as it did. -/
def fnAffectedUsedSpec : ChangeSpec := { name := "fnAffectedUsed", fn := fun _ => fun
  | [d] => { results := [.lit (.bool true)], args := [d] }
  | _ => none }
def fnAffectedUsedRow : OpenClaim := { program := "ytkdcialdjnedeaa", sum := "c3b5739f879e56db004069fa9e4ffef2f1b3d7152ecd3a7dfca2a2cc293166f5", func := "loop.example/linkstaterouting/laws.FnAffectedUsed", spec := "fnAffectedUsed", unfollowed := true, recurses := true, apart := false }
def FnAffectedUsedSaid : Prop := fnAffectedUsedRow.holds Try.pinned (OpenSpec.ofChange fnAffectedUsedSpec)

/-- ITS FALSE NEIGHBOUR: 'it returns false'. Refute it at one input. -/
def fnAffectedUsedWrong : ChangeSpec := { name := "fnAffectedUsed", fn := fun _ => fun
  | [d] => { results := [.lit (.bool false)], args := [d] }
  | _ => none }
def FnAffectedUsedWrongFalsely : Prop := fnAffectedUsedRow.holds Try.pinned (OpenSpec.ofChange fnAffectedUsedWrong)

/-- 'laws.FnAffectedNone': WHATEVER THE INPUT: true; the input reads as it did. -/
def fnAffectedNoneSpec : ChangeSpec := { name := "fnAffectedNone", fn := fun _ => fun
  | [d] => { results := [.lit (.bool true)], args := [d] }
  | _ => none }
def fnAffectedNoneRow : OpenClaim := { program := "ytkdcialdjnedeaa", sum := "c3b5739f879e56db004069fa9e4ffef2f1b3d7152ecd3a7dfca2a2cc293166f5", func := "loop.example/linkstaterouting/laws.FnAffectedNone", spec := "fnAffectedNone", unfollowed := true, recurses := true, apart := false }
def FnAffectedNoneSaid : Prop := fnAffectedNoneRow.holds Try.pinned (OpenSpec.ofChange fnAffectedNoneSpec)

/-- ITS FALSE NEIGHBOUR: 'it returns false'. Refute it at one input. -/
def fnAffectedNoneWrong : ChangeSpec := { name := "fnAffectedNone", fn := fun _ => fun
  | [d] => { results := [.lit (.bool false)], args := [d] }
  | _ => none }
def FnAffectedNoneWrongFalsely : Prop := fnAffectedNoneRow.holds Try.pinned (OpenSpec.ofChange fnAffectedNoneWrong)

/-- 'laws.FnAffectedBack': WHATEVER THE INPUT: true; the input reads as it did. -/
def fnAffectedBackSpec : ChangeSpec := { name := "fnAffectedBack", fn := fun _ => fun
  | [d1, d2] => { results := [.lit (.bool true)], args := [d1, d2] }
  | _ => none }
def fnAffectedBackRow : OpenClaim := { program := "ytkdcialdjnedeaa", sum := "c3b5739f879e56db004069fa9e4ffef2f1b3d7152ecd3a7dfca2a2cc293166f5", func := "loop.example/linkstaterouting/laws.FnAffectedBack", spec := "fnAffectedBack", unfollowed := true, recurses := true, apart := false }
def FnAffectedBackSaid : Prop := fnAffectedBackRow.holds Try.pinned (OpenSpec.ofChange fnAffectedBackSpec)

/-- ITS FALSE NEIGHBOUR: 'it returns false'. Refute it at one input. -/
def fnAffectedBackWrong : ChangeSpec := { name := "fnAffectedBack", fn := fun _ => fun
  | [d1, d2] => { results := [.lit (.bool false)], args := [d1, d2] }
  | _ => none }
def FnAffectedBackWrongFalsely : Prop := fnAffectedBackRow.holds Try.pinned (OpenSpec.ofChange fnAffectedBackWrong)

/- THE SECOND FORM. 'bulk': how many values and letters a reading holds, each counted each time it is reached (what is shared counts as often as it is met; a slice's spare places count too). A statement '..UptoSaid' is the law's where the arguments, and the package variables that the reading takes, are together of bulk at most 1048576: NARROWER than '..Said'. Prove '..Said' where nothing that the law and all that it calls make is longer than what came in: it says more and counts as full. Else prove '..UptoSaid'. A law counts once. -/
mutual
def uptoBulk {H : Type} : DataW H → Nat
  | .lit (.string bytes) => bytes.length + 1
  | .lit _ => 1
  | .nil => 1
  | .ptr d => uptoBulk d + 1
  | .slice elems spare => uptoBulkAll elems + uptoBulkAll spare + 1
  | .agg parts => uptoBulkAll parts + 1
  | .iface _ d => uptoBulk d + 1
  | .map entries => uptoBulkEntries entries + 1
  | .held _ => 1
def uptoBulkAll {H : Type} : List (DataW H) → Nat
  | [] => 0
  | d :: r => uptoBulk d + uptoBulkAll r
def uptoBulkEntries {H : Type} : List (Lit × DataW H) → Nat
  | [] => 0
  | x :: r => uptoBulkEntry x + uptoBulkEntries r
def uptoBulkEntry {H : Type} : Lit × DataW H → Nat
  | (.string bytes, d) => bytes.length + uptoBulk d + 1
  | (_, d) => uptoBulk d + 1
 end
def uptoSmall : (H : Type) → List (DataW H) → Bool := fun _ ds => decide (uptoBulkAll ds ≤ 1048576)
def OpenSpec.upto (s : _root_.Go.ChangeSpec) : _root_.Go.OpenSpec := { _root_.Go.OpenSpec.ofChange s with cond := some uptoSmall }

/-- 'laws.FnExactDistancesAfter', WHERE WHAT IT READS IS OF BULK AT MOST 1048576: true; the input reads as it did. -/
def fnExactDistancesAfterUptoRow : OpenClaim := { program := "ytkdcialdjnedeaa", sum := "c3b5739f879e56db004069fa9e4ffef2f1b3d7152ecd3a7dfca2a2cc293166f5", func := "loop.example/linkstaterouting/laws.FnExactDistancesAfter", spec := "fnExactDistancesAfter", unfollowed := true, recurses := true, apart := false, narrowed := true }
def FnExactDistancesAfterUptoSaid : Prop := fnExactDistancesAfterUptoRow.holds Try.pinned (OpenSpec.upto fnExactDistancesAfterSpec)

/-- 'laws.FnExactAffected', WHERE WHAT IT READS IS OF BULK AT MOST 1048576: true; the input reads as it did. -/
def fnExactAffectedUptoRow : OpenClaim := { program := "ytkdcialdjnedeaa", sum := "c3b5739f879e56db004069fa9e4ffef2f1b3d7152ecd3a7dfca2a2cc293166f5", func := "loop.example/linkstaterouting/laws.FnExactAffected", spec := "fnExactAffected", unfollowed := true, recurses := true, apart := false, narrowed := true }
def FnExactAffectedUptoSaid : Prop := fnExactAffectedUptoRow.holds Try.pinned (OpenSpec.upto fnExactAffectedSpec)

/-- 'laws.FnAfter', WHERE WHAT IT READS IS OF BULK AT MOST 1048576: true; the input reads as it did. -/
def fnAfterUptoRow : OpenClaim := { program := "ytkdcialdjnedeaa", sum := "c3b5739f879e56db004069fa9e4ffef2f1b3d7152ecd3a7dfca2a2cc293166f5", func := "loop.example/linkstaterouting/laws.FnAfter", spec := "fnAfter", unfollowed := true, recurses := true, apart := false, narrowed := true }
def FnAfterUptoSaid : Prop := fnAfterUptoRow.holds Try.pinned (OpenSpec.upto fnAfterSpec)

/-- 'laws.FnAfterWorse', WHERE WHAT IT READS IS OF BULK AT MOST 1048576: true; the input reads as it did. -/
def fnAfterWorseUptoRow : OpenClaim := { program := "ytkdcialdjnedeaa", sum := "c3b5739f879e56db004069fa9e4ffef2f1b3d7152ecd3a7dfca2a2cc293166f5", func := "loop.example/linkstaterouting/laws.FnAfterWorse", spec := "fnAfterWorse", unfollowed := true, recurses := true, apart := false, narrowed := true }
def FnAfterWorseUptoSaid : Prop := fnAfterWorseUptoRow.holds Try.pinned (OpenSpec.upto fnAfterWorseSpec)

/-- 'laws.FnAfterBound', WHERE WHAT IT READS IS OF BULK AT MOST 1048576: true; the input reads as it did. -/
def fnAfterBoundUptoRow : OpenClaim := { program := "ytkdcialdjnedeaa", sum := "c3b5739f879e56db004069fa9e4ffef2f1b3d7152ecd3a7dfca2a2cc293166f5", func := "loop.example/linkstaterouting/laws.FnAfterBound", spec := "fnAfterBound", unfollowed := true, recurses := true, apart := false, narrowed := true }
def FnAfterBoundUptoSaid : Prop := fnAfterBoundUptoRow.holds Try.pinned (OpenSpec.upto fnAfterBoundSpec)

/-- 'laws.FnAffected', WHERE WHAT IT READS IS OF BULK AT MOST 1048576: true; the input reads as it did. -/
def fnAffectedUptoRow : OpenClaim := { program := "ytkdcialdjnedeaa", sum := "c3b5739f879e56db004069fa9e4ffef2f1b3d7152ecd3a7dfca2a2cc293166f5", func := "loop.example/linkstaterouting/laws.FnAffected", spec := "fnAffected", unfollowed := true, recurses := true, apart := false, narrowed := true }
def FnAffectedUptoSaid : Prop := fnAffectedUptoRow.holds Try.pinned (OpenSpec.upto fnAffectedSpec)

/-- 'laws.FnAffectedUsed', WHERE WHAT IT READS IS OF BULK AT MOST 1048576: true; the input reads as it did. -/
def fnAffectedUsedUptoRow : OpenClaim := { program := "ytkdcialdjnedeaa", sum := "c3b5739f879e56db004069fa9e4ffef2f1b3d7152ecd3a7dfca2a2cc293166f5", func := "loop.example/linkstaterouting/laws.FnAffectedUsed", spec := "fnAffectedUsed", unfollowed := true, recurses := true, apart := false, narrowed := true }
def FnAffectedUsedUptoSaid : Prop := fnAffectedUsedUptoRow.holds Try.pinned (OpenSpec.upto fnAffectedUsedSpec)

/-- 'laws.FnAffectedNone', WHERE WHAT IT READS IS OF BULK AT MOST 1048576: true; the input reads as it did. -/
def fnAffectedNoneUptoRow : OpenClaim := { program := "ytkdcialdjnedeaa", sum := "c3b5739f879e56db004069fa9e4ffef2f1b3d7152ecd3a7dfca2a2cc293166f5", func := "loop.example/linkstaterouting/laws.FnAffectedNone", spec := "fnAffectedNone", unfollowed := true, recurses := true, apart := false, narrowed := true }
def FnAffectedNoneUptoSaid : Prop := fnAffectedNoneUptoRow.holds Try.pinned (OpenSpec.upto fnAffectedNoneSpec)

/-- 'laws.FnAffectedBack', WHERE WHAT IT READS IS OF BULK AT MOST 1048576: true; the input reads as it did. -/
def fnAffectedBackUptoRow : OpenClaim := { program := "ytkdcialdjnedeaa", sum := "c3b5739f879e56db004069fa9e4ffef2f1b3d7152ecd3a7dfca2a2cc293166f5", func := "loop.example/linkstaterouting/laws.FnAffectedBack", spec := "fnAffectedBack", unfollowed := true, recurses := true, apart := false, narrowed := true }
def FnAffectedBackUptoSaid : Prop := fnAffectedBackUptoRow.holds Try.pinned (OpenSpec.upto fnAffectedBackSpec)

end Rows
end Go.Proofs.Ytkdcialdjnedeaa
