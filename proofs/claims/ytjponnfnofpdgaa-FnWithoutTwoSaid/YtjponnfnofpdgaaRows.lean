/-
  No cell of these rows narrows 'for every input' (looked for: loops, veiled, ifaces, maps, wideKeys, modest, calm, conditions, laid).
  DERIVED. THE GIVEN ROWS OF THIS SEAT. 8 by the template 'for every input the law returns true; each argument reads behind the call as it read before'; 0 by the template 'total and deterministic' (their statements: YtjponnfnofpdgaaTotals.lean).
  GIVEN WITH THE SEED: the statements are not yours to turn. If you find one false, say at which input.
  Laid BY PROGRAM, IN A SANDBOX (cutbox-rows.mjs): the forced cells as the released guide's own fill.sh prints them over the translation c5c130a4a6a320db… (all of the seat's roots in one cut). By AI agents, Wed Nov 11 2026. No macro, syntax, notation, axiom, sorry.
-/
import Derived.Test.YtjponnfnofpdgaaChecked
import GoSem.Claim
import GoSem.ClaimJoined
import GoSem.ClaimMapViews
import Derived.JoinedTies
import Derived.KernelRfl
namespace Go.Proofs.Ytjponnfnofpdgaa
/- THE CELL 'sum', in the pinned program and in every row, IS THE sha256 OF THE DUMP (.gsa) THAT YtjponnfnofpdgaaProg.lean LOADS. Nothing in Lean hashes anything: it is a label: what it is worth is what the hold of that sum in a sandbox is worth. -/
noncomputable def Try.pinned : Pinned := { name := "ytjponnfnofpdgaa", sum := "c5c130a4a6a320dbf1ca4f34f49bbd07a05b0ce3337b0ef32728f2cacd4293cb", checked := Try.checked }
namespace Rows
def none {H : Type} : Left H := { results := [], args := [] }

/-- 'laws.FnExactCritical': WHATEVER THE INPUT: true; the input reads as it did. -/
def fnExactCriticalSpec : ChangeSpec := { name := "fnExactCritical", fn := fun _ => fun
  | [d] => { results := [.lit (.bool true)], args := [d] }
  | _ => none }
def fnExactCriticalRow : OpenClaim := { program := "ytjponnfnofpdgaa", sum := "c5c130a4a6a320dbf1ca4f34f49bbd07a05b0ce3337b0ef32728f2cacd4293cb", func := "loop.example/linkstaterouting/laws.FnExactCritical", spec := "fnExactCritical", unfollowed := true, recurses := true, apart := false }
def FnExactCriticalSaid : Prop := fnExactCriticalRow.holds Try.pinned (OpenSpec.ofChange fnExactCriticalSpec)

/-- ITS FALSE NEIGHBOUR: 'it returns false'. Refute it at one input. -/
def fnExactCriticalWrong : ChangeSpec := { name := "fnExactCritical", fn := fun _ => fun
  | [d] => { results := [.lit (.bool false)], args := [d] }
  | _ => none }
def FnExactCriticalWrongFalsely : Prop := fnExactCriticalRow.holds Try.pinned (OpenSpec.ofChange fnExactCriticalWrong)

/-- 'laws.FnCritical': WHATEVER THE INPUT: true; the input reads as it did. -/
def fnCriticalSpec : ChangeSpec := { name := "fnCritical", fn := fun _ => fun
  | [d] => { results := [.lit (.bool true)], args := [d] }
  | _ => none }
def fnCriticalRow : OpenClaim := { program := "ytjponnfnofpdgaa", sum := "c5c130a4a6a320dbf1ca4f34f49bbd07a05b0ce3337b0ef32728f2cacd4293cb", func := "loop.example/linkstaterouting/laws.FnCritical", spec := "fnCritical", unfollowed := true, recurses := true, apart := false }
def FnCriticalSaid : Prop := fnCriticalRow.holds Try.pinned (OpenSpec.ofChange fnCriticalSpec)

/-- ITS FALSE NEIGHBOUR: 'it returns false'. Refute it at one input. -/
def fnCriticalWrong : ChangeSpec := { name := "fnCritical", fn := fun _ => fun
  | [d] => { results := [.lit (.bool false)], args := [d] }
  | _ => none }
def FnCriticalWrongFalsely : Prop := fnCriticalRow.holds Try.pinned (OpenSpec.ofChange fnCriticalWrong)

/-- 'laws.FnCriticalUsed': WHATEVER THE INPUT: true; the input reads as it did. -/
def fnCriticalUsedSpec : ChangeSpec := { name := "fnCriticalUsed", fn := fun _ => fun
  | [d] => { results := [.lit (.bool true)], args := [d] }
  | _ => none }
def fnCriticalUsedRow : OpenClaim := { program := "ytjponnfnofpdgaa", sum := "c5c130a4a6a320dbf1ca4f34f49bbd07a05b0ce3337b0ef32728f2cacd4293cb", func := "loop.example/linkstaterouting/laws.FnCriticalUsed", spec := "fnCriticalUsed", unfollowed := true, recurses := true, apart := false }
def FnCriticalUsedSaid : Prop := fnCriticalUsedRow.holds Try.pinned (OpenSpec.ofChange fnCriticalUsedSpec)

/-- ITS FALSE NEIGHBOUR: 'it returns false'. Refute it at one input. -/
def fnCriticalUsedWrong : ChangeSpec := { name := "fnCriticalUsed", fn := fun _ => fun
  | [d] => { results := [.lit (.bool false)], args := [d] }
  | _ => none }
def FnCriticalUsedWrongFalsely : Prop := fnCriticalUsedRow.holds Try.pinned (OpenSpec.ofChange fnCriticalUsedWrong)

/-- 'laws.FnCriticalLess': WHATEVER THE INPUT: true; the input reads as it did. -/
def fnCriticalLessSpec : ChangeSpec := { name := "fnCriticalLess", fn := fun _ => fun
  | [d1, d2] => { results := [.lit (.bool true)], args := [d1, d2] }
  | _ => none }
def fnCriticalLessRow : OpenClaim := { program := "ytjponnfnofpdgaa", sum := "c5c130a4a6a320dbf1ca4f34f49bbd07a05b0ce3337b0ef32728f2cacd4293cb", func := "loop.example/linkstaterouting/laws.FnCriticalLess", spec := "fnCriticalLess", unfollowed := true, recurses := true, apart := false }
def FnCriticalLessSaid : Prop := fnCriticalLessRow.holds Try.pinned (OpenSpec.ofChange fnCriticalLessSpec)

/-- ITS FALSE NEIGHBOUR: 'it returns false'. Refute it at one input. -/
def fnCriticalLessWrong : ChangeSpec := { name := "fnCriticalLess", fn := fun _ => fun
  | [d1, d2] => { results := [.lit (.bool false)], args := [d1, d2] }
  | _ => none }
def FnCriticalLessWrongFalsely : Prop := fnCriticalLessRow.holds Try.pinned (OpenSpec.ofChange fnCriticalLessWrong)

/-- 'laws.FnCriticalFew': WHATEVER THE INPUT: true; the input reads as it did. -/
def fnCriticalFewSpec : ChangeSpec := { name := "fnCriticalFew", fn := fun _ => fun
  | [d] => { results := [.lit (.bool true)], args := [d] }
  | _ => none }
def fnCriticalFewRow : OpenClaim := { program := "ytjponnfnofpdgaa", sum := "c5c130a4a6a320dbf1ca4f34f49bbd07a05b0ce3337b0ef32728f2cacd4293cb", func := "loop.example/linkstaterouting/laws.FnCriticalFew", spec := "fnCriticalFew", unfollowed := true, recurses := true, apart := false }
def FnCriticalFewSaid : Prop := fnCriticalFewRow.holds Try.pinned (OpenSpec.ofChange fnCriticalFewSpec)

/-- ITS FALSE NEIGHBOUR: 'it returns false'. Refute it at one input. -/
def fnCriticalFewWrong : ChangeSpec := { name := "fnCriticalFew", fn := fun _ => fun
  | [d] => { results := [.lit (.bool false)], args := [d] }
  | _ => none }
def FnCriticalFewWrongFalsely : Prop := fnCriticalFewRow.holds Try.pinned (OpenSpec.ofChange fnCriticalFewWrong)

/-- 'laws.FnWithout': WHATEVER THE INPUT: true; the input reads as it did. -/
def fnWithoutSpec : ChangeSpec := { name := "fnWithout", fn := fun _ => fun
  | [d] => { results := [.lit (.bool true)], args := [d] }
  | _ => none }
def fnWithoutRow : OpenClaim := { program := "ytjponnfnofpdgaa", sum := "c5c130a4a6a320dbf1ca4f34f49bbd07a05b0ce3337b0ef32728f2cacd4293cb", func := "loop.example/linkstaterouting/laws.FnWithout", spec := "fnWithout", unfollowed := true, recurses := true, apart := false }
def FnWithoutSaid : Prop := fnWithoutRow.holds Try.pinned (OpenSpec.ofChange fnWithoutSpec)

/-- ITS FALSE NEIGHBOUR: 'it returns false'. Refute it at one input. -/
def fnWithoutWrong : ChangeSpec := { name := "fnWithout", fn := fun _ => fun
  | [d] => { results := [.lit (.bool false)], args := [d] }
  | _ => none }
def FnWithoutWrongFalsely : Prop := fnWithoutRow.holds Try.pinned (OpenSpec.ofChange fnWithoutWrong)

/-- 'laws.FnWithoutTwo': WHATEVER THE INPUT: true; the input reads as it did. -/
def fnWithoutTwoSpec : ChangeSpec := { name := "fnWithoutTwo", fn := fun _ => fun
  | [d1, d2] => { results := [.lit (.bool true)], args := [d1, d2] }
  | _ => none }
def fnWithoutTwoRow : OpenClaim := { program := "ytjponnfnofpdgaa", sum := "c5c130a4a6a320dbf1ca4f34f49bbd07a05b0ce3337b0ef32728f2cacd4293cb", func := "loop.example/linkstaterouting/laws.FnWithoutTwo", spec := "fnWithoutTwo", unfollowed := true, recurses := true, apart := false }
def FnWithoutTwoSaid : Prop := fnWithoutTwoRow.holds Try.pinned (OpenSpec.ofChange fnWithoutTwoSpec)

/-- ITS FALSE NEIGHBOUR: 'it returns false'. Refute it at one input. -/
def fnWithoutTwoWrong : ChangeSpec := { name := "fnWithoutTwo", fn := fun _ => fun
  | [d1, d2] => { results := [.lit (.bool false)], args := [d1, d2] }
  | _ => none }
def FnWithoutTwoWrongFalsely : Prop := fnWithoutTwoRow.holds Try.pinned (OpenSpec.ofChange fnWithoutTwoWrong)

/-- 'laws.FnCost': WHATEVER THE INPUT: true; the input reads as it did. -/
def fnCostSpec : ChangeSpec := { name := "fnCost", fn := fun _ => fun
  | [d] => { results := [.lit (.bool true)], args := [d] }
  | _ => none }
def fnCostRow : OpenClaim := { program := "ytjponnfnofpdgaa", sum := "c5c130a4a6a320dbf1ca4f34f49bbd07a05b0ce3337b0ef32728f2cacd4293cb", func := "loop.example/linkstaterouting/laws.FnCost", spec := "fnCost", apart := false }
def FnCostSaid : Prop := fnCostRow.holds Try.pinned (OpenSpec.ofChange fnCostSpec)

/-- ITS FALSE NEIGHBOUR: 'it returns false'. Refute it at one input. -/
def fnCostWrong : ChangeSpec := { name := "fnCost", fn := fun _ => fun
  | [d] => { results := [.lit (.bool false)], args := [d] }
  | _ => none }
def FnCostWrongFalsely : Prop := fnCostRow.holds Try.pinned (OpenSpec.ofChange fnCostWrong)

/- THE SECOND FORM. 'bulk': how many values and letters a reading holds, each counted each time it is reached (what is shared counts as often as it is met; a slice's spare places count too). A statement '..UptoSaid' is the law's where the arguments, and the package variables that the reading takes, are together of bulk at most 1048576: NARROWER than '..Said'. Prove '..Said' where nothing that the law and all that it calls make is longer than what came in: it says more and counts as full. Else prove '..UptoSaid'. A law counts once. -/
mutual
def uptoBulk {H : Type} : DataW H → Nat
  | .lit (.string bytes) => bytes.length + 1
  | .lit _ => 1
  | .nil => 1
  | .ptr d => uptoBulk d + 1
  | .slice elems spare => uptoBulkAll elems + uptoBulkAll spare + 1
  | .agg parts => uptoBulkAll parts + 1
  | .iface _ d => uptoBulk d + 1
  | .map entries => uptoBulkEntries entries + 1
  | .held _ => 1
def uptoBulkAll {H : Type} : List (DataW H) → Nat
  | [] => 0
  | d :: r => uptoBulk d + uptoBulkAll r
def uptoBulkEntries {H : Type} : List (Lit × DataW H) → Nat
  | [] => 0
  | x :: r => uptoBulkEntry x + uptoBulkEntries r
def uptoBulkEntry {H : Type} : Lit × DataW H → Nat
  | (.string bytes, d) => bytes.length + uptoBulk d + 1
  | (_, d) => uptoBulk d + 1
 end
def uptoSmall : (H : Type) → List (DataW H) → Bool := fun _ ds => decide (uptoBulkAll ds ≤ 1048576)
def OpenSpec.upto (s : _root_.Go.ChangeSpec) : _root_.Go.OpenSpec := { _root_.Go.OpenSpec.ofChange s with cond := some uptoSmall }

/-- 'laws.FnExactCritical', WHERE WHAT IT READS IS OF BULK AT MOST 1048576: true; the input reads as it did. -/
def fnExactCriticalUptoRow : OpenClaim := { program := "ytjponnfnofpdgaa", sum := "c5c130a4a6a320dbf1ca4f34f49bbd07a05b0ce3337b0ef32728f2cacd4293cb", func := "loop.example/linkstaterouting/laws.FnExactCritical", spec := "fnExactCritical", unfollowed := true, recurses := true, apart := false, narrowed := true }
def FnExactCriticalUptoSaid : Prop := fnExactCriticalUptoRow.holds Try.pinned (OpenSpec.upto fnExactCriticalSpec)

/-- 'laws.FnCritical', WHERE WHAT IT READS IS OF BULK AT MOST 1048576: true; the input reads as it did. -/
def fnCriticalUptoRow : OpenClaim := { program := "ytjponnfnofpdgaa", sum := "c5c130a4a6a320dbf1ca4f34f49bbd07a05b0ce3337b0ef32728f2cacd4293cb", func := "loop.example/linkstaterouting/laws.FnCritical", spec := "fnCritical", unfollowed := true, recurses := true, apart := false, narrowed := true }
def FnCriticalUptoSaid : Prop := fnCriticalUptoRow.holds Try.pinned (OpenSpec.upto fnCriticalSpec)

/-- 'laws.FnCriticalUsed', WHERE WHAT IT READS IS OF BULK AT MOST 1048576: true; the input reads as it did. -/
def fnCriticalUsedUptoRow : OpenClaim := { program := "ytjponnfnofpdgaa", sum := "c5c130a4a6a320dbf1ca4f34f49bbd07a05b0ce3337b0ef32728f2cacd4293cb", func := "loop.example/linkstaterouting/laws.FnCriticalUsed", spec := "fnCriticalUsed", unfollowed := true, recurses := true, apart := false, narrowed := true }
def FnCriticalUsedUptoSaid : Prop := fnCriticalUsedUptoRow.holds Try.pinned (OpenSpec.upto fnCriticalUsedSpec)

/-- 'laws.FnCriticalLess', WHERE WHAT IT READS IS OF BULK AT MOST 1048576: true; the input reads as it did. -/
def fnCriticalLessUptoRow : OpenClaim := { program := "ytjponnfnofpdgaa", sum := "c5c130a4a6a320dbf1ca4f34f49bbd07a05b0ce3337b0ef32728f2cacd4293cb", func := "loop.example/linkstaterouting/laws.FnCriticalLess", spec := "fnCriticalLess", unfollowed := true, recurses := true, apart := false, narrowed := true }
def FnCriticalLessUptoSaid : Prop := fnCriticalLessUptoRow.holds Try.pinned (OpenSpec.upto fnCriticalLessSpec)

/-- 'laws.FnCriticalFew', WHERE WHAT IT READS IS OF BULK AT MOST 1048576: true; the input reads as it did. -/
def fnCriticalFewUptoRow : OpenClaim := { program := "ytjponnfnofpdgaa", sum := "c5c130a4a6a320dbf1ca4f34f49bbd07a05b0ce3337b0ef32728f2cacd4293cb", func := "loop.example/linkstaterouting/laws.FnCriticalFew", spec := "fnCriticalFew", unfollowed := true, recurses := true, apart := false, narrowed := true }
def FnCriticalFewUptoSaid : Prop := fnCriticalFewUptoRow.holds Try.pinned (OpenSpec.upto fnCriticalFewSpec)

/-- 'laws.FnWithout', WHERE WHAT IT READS IS OF BULK AT MOST 1048576: true; the input reads as it did. -/
def fnWithoutUptoRow : OpenClaim := { program := "ytjponnfnofpdgaa", sum := "c5c130a4a6a320dbf1ca4f34f49bbd07a05b0ce3337b0ef32728f2cacd4293cb", func := "loop.example/linkstaterouting/laws.FnWithout", spec := "fnWithout", unfollowed := true, recurses := true, apart := false, narrowed := true }
def FnWithoutUptoSaid : Prop := fnWithoutUptoRow.holds Try.pinned (OpenSpec.upto fnWithoutSpec)

/-- 'laws.FnWithoutTwo', WHERE WHAT IT READS IS OF BULK AT MOST 1048576: true; the input reads as it did. -/
def fnWithoutTwoUptoRow : OpenClaim := { program := "ytjponnfnofpdgaa", sum := "c5c130a4a6a320dbf1ca4f34f49bbd07a05b0ce3337b0ef32728f2cacd4293cb", func := "loop.example/linkstaterouting/laws.FnWithoutTwo", spec := "fnWithoutTwo", unfollowed := true, recurses := true, apart := false, narrowed := true }
def FnWithoutTwoUptoSaid : Prop := fnWithoutTwoUptoRow.holds Try.pinned (OpenSpec.upto fnWithoutTwoSpec)

/-- 'laws.FnCost', WHERE WHAT IT READS IS OF BULK AT MOST 1048576: true; the input reads as it did. -/
def fnCostUptoRow : OpenClaim := { program := "ytjponnfnofpdgaa", sum := "c5c130a4a6a320dbf1ca4f34f49bbd07a05b0ce3337b0ef32728f2cacd4293cb", func := "loop.example/linkstaterouting/laws.FnCost", spec := "fnCost", apart := false, narrowed := true }
def FnCostUptoSaid : Prop := fnCostUptoRow.holds Try.pinned (OpenSpec.upto fnCostSpec)

end Rows
end Go.Proofs.Ytjponnfnofpdgaa
