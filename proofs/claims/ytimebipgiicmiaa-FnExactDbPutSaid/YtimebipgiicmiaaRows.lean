/-
  No cell of these rows narrows 'for every input' (looked for: loops, veiled, ifaces, maps, wideKeys, modest, calm, conditions, laid).
  DERIVED. THE GIVEN ROWS OF THIS SEAT. 8 by the template 'for every input the law returns true; each argument reads behind the call as it read before'; 0 by the template 'total and deterministic' (their statements: YtimebipgiicmiaaTotals.lean).
  GIVEN WITH THE SEED: the statements are not yours to turn. If you find one false, say at which input.
  Laid BY PROGRAM, IN A SANDBOX (cutbox-rows.mjs): the forced cells as the released guide's own fill.sh prints them over the translation 4828fa42a3a2df37… (all of the seat's roots in one cut). By AI agents, Wed Nov 11 2026. No macro, syntax, notation, axiom, sorry.
-/
import Derived.Test.YtimebipgiicmiaaChecked
import GoSem.Claim
import GoSem.ClaimJoined
import GoSem.ClaimMapViews
import Derived.JoinedTies
import Derived.KernelRfl
namespace Go.Proofs.Ytimebipgiicmiaa
/- THE CELL 'sum', in the pinned program and in every row, IS THE sha256 OF THE DUMP (.gsa) THAT YtimebipgiicmiaaProg.lean LOADS. Nothing in Lean hashes anything: it is a label: what it is worth is what the hold of that sum in a sandbox is worth. -/
noncomputable def Try.pinned : Pinned := { name := "ytimebipgiicmiaa", sum := "4828fa42a3a2df37108615d80f2bc74dfb408f7f0ea65c4da09da08567ee706e", checked := Try.checked }
namespace Rows
def none {H : Type} : Left H := { results := [], args := [] }

/-- 'laws.FnExactLsaValid': WHATEVER THE INPUT: true; the input reads as it did. -/
def fnExactLsaValidSpec : ChangeSpec := { name := "fnExactLsaValid", fn := fun _ => fun
  | [d] => { results := [.lit (.bool true)], args := [d] }
  | _ => none }
def fnExactLsaValidRow : OpenClaim := { program := "ytimebipgiicmiaa", sum := "4828fa42a3a2df37108615d80f2bc74dfb408f7f0ea65c4da09da08567ee706e", func := "loop.example/linkstaterouting/laws.FnExactLsaValid", spec := "fnExactLsaValid", apart := false }
def FnExactLsaValidSaid : Prop := fnExactLsaValidRow.holds Try.pinned (OpenSpec.ofChange fnExactLsaValidSpec)

/-- ITS FALSE NEIGHBOUR: 'it returns false'. Refute it at one input. -/
def fnExactLsaValidWrong : ChangeSpec := { name := "fnExactLsaValid", fn := fun _ => fun
  | [d] => { results := [.lit (.bool false)], args := [d] }
  | _ => none }
def FnExactLsaValidWrongFalsely : Prop := fnExactLsaValidRow.holds Try.pinned (OpenSpec.ofChange fnExactLsaValidWrong)

/-- 'laws.FnExactDbValid': WHATEVER THE INPUT: true; the input reads as it did. -/
def fnExactDbValidSpec : ChangeSpec := { name := "fnExactDbValid", fn := fun _ => fun
  | [d] => { results := [.lit (.bool true)], args := [d] }
  | _ => none }
def fnExactDbValidRow : OpenClaim := { program := "ytimebipgiicmiaa", sum := "4828fa42a3a2df37108615d80f2bc74dfb408f7f0ea65c4da09da08567ee706e", func := "loop.example/linkstaterouting/laws.FnExactDbValid", spec := "fnExactDbValid", apart := false }
def FnExactDbValidSaid : Prop := fnExactDbValidRow.holds Try.pinned (OpenSpec.ofChange fnExactDbValidSpec)

/-- ITS FALSE NEIGHBOUR: 'it returns false'. Refute it at one input. -/
def fnExactDbValidWrong : ChangeSpec := { name := "fnExactDbValid", fn := fun _ => fun
  | [d] => { results := [.lit (.bool false)], args := [d] }
  | _ => none }
def FnExactDbValidWrongFalsely : Prop := fnExactDbValidRow.holds Try.pinned (OpenSpec.ofChange fnExactDbValidWrong)

/-- 'laws.FnExactDbPut': WHATEVER THE INPUT: true; the input reads as it did. -/
def fnExactDbPutSpec : ChangeSpec := { name := "fnExactDbPut", fn := fun _ => fun
  | [d1, d2] => { results := [.lit (.bool true)], args := [d1, d2] }
  | _ => none }
def fnExactDbPutRow : OpenClaim := { program := "ytimebipgiicmiaa", sum := "4828fa42a3a2df37108615d80f2bc74dfb408f7f0ea65c4da09da08567ee706e", func := "loop.example/linkstaterouting/laws.FnExactDbPut", spec := "fnExactDbPut", unfollowed := true, recurses := true, apart := false }
def FnExactDbPutSaid : Prop := fnExactDbPutRow.holds Try.pinned (OpenSpec.ofChange fnExactDbPutSpec)

/-- ITS FALSE NEIGHBOUR: 'it returns false'. Refute it at one input. -/
def fnExactDbPutWrong : ChangeSpec := { name := "fnExactDbPut", fn := fun _ => fun
  | [d1, d2] => { results := [.lit (.bool false)], args := [d1, d2] }
  | _ => none }
def FnExactDbPutWrongFalsely : Prop := fnExactDbPutRow.holds Try.pinned (OpenSpec.ofChange fnExactDbPutWrong)

/-- 'laws.FnLsaPart': WHATEVER THE INPUT: true; the input reads as it did. -/
def fnLsaPartSpec : ChangeSpec := { name := "fnLsaPart", fn := fun _ => fun
  | [d1, d2] => { results := [.lit (.bool true)], args := [d1, d2] }
  | _ => none }
def fnLsaPartRow : OpenClaim := { program := "ytimebipgiicmiaa", sum := "4828fa42a3a2df37108615d80f2bc74dfb408f7f0ea65c4da09da08567ee706e", func := "loop.example/linkstaterouting/laws.FnLsaPart", spec := "fnLsaPart", apart := false }
def FnLsaPartSaid : Prop := fnLsaPartRow.holds Try.pinned (OpenSpec.ofChange fnLsaPartSpec)

/-- ITS FALSE NEIGHBOUR: 'it returns false'. Refute it at one input. -/
def fnLsaPartWrong : ChangeSpec := { name := "fnLsaPart", fn := fun _ => fun
  | [d1, d2] => { results := [.lit (.bool false)], args := [d1, d2] }
  | _ => none }
def FnLsaPartWrongFalsely : Prop := fnLsaPartRow.holds Try.pinned (OpenSpec.ofChange fnLsaPartWrong)

/-- 'laws.FnDbPut': WHATEVER THE INPUT: true; the input reads as it did. -/
def fnDbPutSpec : ChangeSpec := { name := "fnDbPut", fn := fun _ => fun
  | [d] => { results := [.lit (.bool true)], args := [d] }
  | _ => none }
def fnDbPutRow : OpenClaim := { program := "ytimebipgiicmiaa", sum := "4828fa42a3a2df37108615d80f2bc74dfb408f7f0ea65c4da09da08567ee706e", func := "loop.example/linkstaterouting/laws.FnDbPut", spec := "fnDbPut", unfollowed := true, recurses := true, apart := false }
def FnDbPutSaid : Prop := fnDbPutRow.holds Try.pinned (OpenSpec.ofChange fnDbPutSpec)

/-- ITS FALSE NEIGHBOUR: 'it returns false'. Refute it at one input. -/
def fnDbPutWrong : ChangeSpec := { name := "fnDbPut", fn := fun _ => fun
  | [d] => { results := [.lit (.bool false)], args := [d] }
  | _ => none }
def FnDbPutWrongFalsely : Prop := fnDbPutRow.holds Try.pinned (OpenSpec.ofChange fnDbPutWrong)

/-- 'laws.FnDbPutCodes': WHATEVER THE INPUT: true; the input reads as it did. -/
def fnDbPutCodesSpec : ChangeSpec := { name := "fnDbPutCodes", fn := fun _ => fun
  | [d] => { results := [.lit (.bool true)], args := [d] }
  | _ => none }
def fnDbPutCodesRow : OpenClaim := { program := "ytimebipgiicmiaa", sum := "4828fa42a3a2df37108615d80f2bc74dfb408f7f0ea65c4da09da08567ee706e", func := "loop.example/linkstaterouting/laws.FnDbPutCodes", spec := "fnDbPutCodes", unfollowed := true, recurses := true, apart := false }
def FnDbPutCodesSaid : Prop := fnDbPutCodesRow.holds Try.pinned (OpenSpec.ofChange fnDbPutCodesSpec)

/-- ITS FALSE NEIGHBOUR: 'it returns false'. Refute it at one input. -/
def fnDbPutCodesWrong : ChangeSpec := { name := "fnDbPutCodes", fn := fun _ => fun
  | [d] => { results := [.lit (.bool false)], args := [d] }
  | _ => none }
def FnDbPutCodesWrongFalsely : Prop := fnDbPutCodesRow.holds Try.pinned (OpenSpec.ofChange fnDbPutCodesWrong)

/-- 'laws.FnDbPutTwice': WHATEVER THE INPUT: true; the input reads as it did. -/
def fnDbPutTwiceSpec : ChangeSpec := { name := "fnDbPutTwice", fn := fun _ => fun
  | [d] => { results := [.lit (.bool true)], args := [d] }
  | _ => none }
def fnDbPutTwiceRow : OpenClaim := { program := "ytimebipgiicmiaa", sum := "4828fa42a3a2df37108615d80f2bc74dfb408f7f0ea65c4da09da08567ee706e", func := "loop.example/linkstaterouting/laws.FnDbPutTwice", spec := "fnDbPutTwice", unfollowed := true, recurses := true, apart := false }
def FnDbPutTwiceSaid : Prop := fnDbPutTwiceRow.holds Try.pinned (OpenSpec.ofChange fnDbPutTwiceSpec)

/-- ITS FALSE NEIGHBOUR: 'it returns false'. Refute it at one input. -/
def fnDbPutTwiceWrong : ChangeSpec := { name := "fnDbPutTwice", fn := fun _ => fun
  | [d] => { results := [.lit (.bool false)], args := [d] }
  | _ => none }
def FnDbPutTwiceWrongFalsely : Prop := fnDbPutTwiceRow.holds Try.pinned (OpenSpec.ofChange fnDbPutTwiceWrong)

/-- 'laws.FnDbPutOrder': WHATEVER THE INPUT: true; the input reads as it did. -/
def fnDbPutOrderSpec : ChangeSpec := { name := "fnDbPutOrder", fn := fun _ => fun
  | [d1, d2] => { results := [.lit (.bool true)], args := [d1, d2] }
  | _ => none }
def fnDbPutOrderRow : OpenClaim := { program := "ytimebipgiicmiaa", sum := "4828fa42a3a2df37108615d80f2bc74dfb408f7f0ea65c4da09da08567ee706e", func := "loop.example/linkstaterouting/laws.FnDbPutOrder", spec := "fnDbPutOrder", unfollowed := true, recurses := true, apart := false }
def FnDbPutOrderSaid : Prop := fnDbPutOrderRow.holds Try.pinned (OpenSpec.ofChange fnDbPutOrderSpec)

/-- ITS FALSE NEIGHBOUR: 'it returns false'. Refute it at one input. -/
def fnDbPutOrderWrong : ChangeSpec := { name := "fnDbPutOrder", fn := fun _ => fun
  | [d1, d2] => { results := [.lit (.bool false)], args := [d1, d2] }
  | _ => none }
def FnDbPutOrderWrongFalsely : Prop := fnDbPutOrderRow.holds Try.pinned (OpenSpec.ofChange fnDbPutOrderWrong)

/- THE SECOND FORM. 'bulk': how many values and letters a reading holds, each counted each time it is reached (what is shared counts as often as it is met; a slice's spare places count too). A statement '..UptoSaid' is the law's where the arguments, and the package variables that the reading takes, are together of bulk at most 1048576: NARROWER than '..Said'. Prove '..Said' where nothing that the law and all that it calls make is longer than what came in: it says more and counts as full. Else prove '..UptoSaid'. A law counts once. -/
mutual
def uptoBulk {H : Type} : DataW H → Nat
  | .lit (.string bytes) => bytes.length + 1
  | .lit _ => 1
  | .nil => 1
  | .ptr d => uptoBulk d + 1
  | .slice elems spare => uptoBulkAll elems + uptoBulkAll spare + 1
  | .agg parts => uptoBulkAll parts + 1
  | .iface _ d => uptoBulk d + 1
  | .map entries => uptoBulkEntries entries + 1
  | .held _ => 1
def uptoBulkAll {H : Type} : List (DataW H) → Nat
  | [] => 0
  | d :: r => uptoBulk d + uptoBulkAll r
def uptoBulkEntries {H : Type} : List (Lit × DataW H) → Nat
  | [] => 0
  | x :: r => uptoBulkEntry x + uptoBulkEntries r
def uptoBulkEntry {H : Type} : Lit × DataW H → Nat
  | (.string bytes, d) => bytes.length + uptoBulk d + 1
  | (_, d) => uptoBulk d + 1
 end
def uptoSmall : (H : Type) → List (DataW H) → Bool := fun _ ds => decide (uptoBulkAll ds ≤ 1048576)
def OpenSpec.upto (s : _root_.Go.ChangeSpec) : _root_.Go.OpenSpec := { _root_.Go.OpenSpec.ofChange s with cond := some uptoSmall }

/-- 'laws.FnExactLsaValid', WHERE WHAT IT READS IS OF BULK AT MOST 1048576: true; the input reads as it did. -/
def fnExactLsaValidUptoRow : OpenClaim := { program := "ytimebipgiicmiaa", sum := "4828fa42a3a2df37108615d80f2bc74dfb408f7f0ea65c4da09da08567ee706e", func := "loop.example/linkstaterouting/laws.FnExactLsaValid", spec := "fnExactLsaValid", apart := false, narrowed := true }
def FnExactLsaValidUptoSaid : Prop := fnExactLsaValidUptoRow.holds Try.pinned (OpenSpec.upto fnExactLsaValidSpec)

/-- 'laws.FnExactDbValid', WHERE WHAT IT READS IS OF BULK AT MOST 1048576: true; the input reads as it did. -/
def fnExactDbValidUptoRow : OpenClaim := { program := "ytimebipgiicmiaa", sum := "4828fa42a3a2df37108615d80f2bc74dfb408f7f0ea65c4da09da08567ee706e", func := "loop.example/linkstaterouting/laws.FnExactDbValid", spec := "fnExactDbValid", apart := false, narrowed := true }
def FnExactDbValidUptoSaid : Prop := fnExactDbValidUptoRow.holds Try.pinned (OpenSpec.upto fnExactDbValidSpec)

/-- 'laws.FnExactDbPut', WHERE WHAT IT READS IS OF BULK AT MOST 1048576: true; the input reads as it did. -/
def fnExactDbPutUptoRow : OpenClaim := { program := "ytimebipgiicmiaa", sum := "4828fa42a3a2df37108615d80f2bc74dfb408f7f0ea65c4da09da08567ee706e", func := "loop.example/linkstaterouting/laws.FnExactDbPut", spec := "fnExactDbPut", unfollowed := true, recurses := true, apart := false, narrowed := true }
def FnExactDbPutUptoSaid : Prop := fnExactDbPutUptoRow.holds Try.pinned (OpenSpec.upto fnExactDbPutSpec)

/-- 'laws.FnLsaPart', WHERE WHAT IT READS IS OF BULK AT MOST 1048576: true; the input reads as it did. -/
def fnLsaPartUptoRow : OpenClaim := { program := "ytimebipgiicmiaa", sum := "4828fa42a3a2df37108615d80f2bc74dfb408f7f0ea65c4da09da08567ee706e", func := "loop.example/linkstaterouting/laws.FnLsaPart", spec := "fnLsaPart", apart := false, narrowed := true }
def FnLsaPartUptoSaid : Prop := fnLsaPartUptoRow.holds Try.pinned (OpenSpec.upto fnLsaPartSpec)

/-- 'laws.FnDbPut', WHERE WHAT IT READS IS OF BULK AT MOST 1048576: true; the input reads as it did. -/
def fnDbPutUptoRow : OpenClaim := { program := "ytimebipgiicmiaa", sum := "4828fa42a3a2df37108615d80f2bc74dfb408f7f0ea65c4da09da08567ee706e", func := "loop.example/linkstaterouting/laws.FnDbPut", spec := "fnDbPut", unfollowed := true, recurses := true, apart := false, narrowed := true }
def FnDbPutUptoSaid : Prop := fnDbPutUptoRow.holds Try.pinned (OpenSpec.upto fnDbPutSpec)

/-- 'laws.FnDbPutCodes', WHERE WHAT IT READS IS OF BULK AT MOST 1048576: true; the input reads as it did. -/
def fnDbPutCodesUptoRow : OpenClaim := { program := "ytimebipgiicmiaa", sum := "4828fa42a3a2df37108615d80f2bc74dfb408f7f0ea65c4da09da08567ee706e", func := "loop.example/linkstaterouting/laws.FnDbPutCodes", spec := "fnDbPutCodes", unfollowed := true, recurses := true, apart := false, narrowed := true }
def FnDbPutCodesUptoSaid : Prop := fnDbPutCodesUptoRow.holds Try.pinned (OpenSpec.upto fnDbPutCodesSpec)

/-- 'laws.FnDbPutTwice', WHERE WHAT IT READS IS OF BULK AT MOST 1048576: true; the input reads as it did. -/
def fnDbPutTwiceUptoRow : OpenClaim := { program := "ytimebipgiicmiaa", sum := "4828fa42a3a2df37108615d80f2bc74dfb408f7f0ea65c4da09da08567ee706e", func := "loop.example/linkstaterouting/laws.FnDbPutTwice", spec := "fnDbPutTwice", unfollowed := true, recurses := true, apart := false, narrowed := true }
def FnDbPutTwiceUptoSaid : Prop := fnDbPutTwiceUptoRow.holds Try.pinned (OpenSpec.upto fnDbPutTwiceSpec)

/-- 'laws.FnDbPutOrder', WHERE WHAT IT READS IS OF BULK AT MOST 1048576: true; the input reads as it did. -/
def fnDbPutOrderUptoRow : OpenClaim := { program := "ytimebipgiicmiaa", sum := "4828fa42a3a2df37108615d80f2bc74dfb408f7f0ea65c4da09da08567ee706e", func := "loop.example/linkstaterouting/laws.FnDbPutOrder", spec := "fnDbPutOrder", unfollowed := true, recurses := true, apart := false, narrowed := true }
def FnDbPutOrderUptoSaid : Prop := fnDbPutOrderUptoRow.holds Try.pinned (OpenSpec.upto fnDbPutOrderSpec)

end Rows
end Go.Proofs.Ytimebipgiicmiaa
