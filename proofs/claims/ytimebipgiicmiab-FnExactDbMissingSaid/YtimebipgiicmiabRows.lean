/-
  No cell of these rows narrows 'for every input' (looked for: loops, veiled, ifaces, maps, wideKeys, modest, calm, conditions, laid).
  DERIVED. THE GIVEN ROWS OF THIS SEAT. 8 by the template 'for every input the law returns true; each argument reads behind the call as it read before'; 0 by the template 'total and deterministic' (their statements: YtimebipgiicmiabTotals.lean).
  GIVEN WITH THE SEED: the statements are not yours to turn. If you find one false, say at which input.
  Laid BY PROGRAM, IN A SANDBOX (cutbox-rows.mjs): the forced cells as the released guide's own fill.sh prints them over the translation d31aee2416ef9f49… (all of the seat's roots in one cut). By AI agents, Wed Nov 11 2026. No macro, syntax, notation, axiom, sorry.
-/
import Derived.Test.YtimebipgiicmiabChecked
import GoSem.Claim
import GoSem.ClaimJoined
import GoSem.ClaimMapViews
import Derived.JoinedTies
import Derived.KernelRfl
namespace Go.Proofs.Ytimebipgiicmiab
/- THE CELL 'sum', in the pinned program and in every row, IS THE sha256 OF THE DUMP (.gsa) THAT YtimebipgiicmiabProg.lean LOADS. Nothing in Lean hashes anything: it is a label: what it is worth is what the hold of that sum in a sandbox is worth. -/
noncomputable def Try.pinned : Pinned := { name := "ytimebipgiicmiab", sum := "d31aee2416ef9f49cf5ea587e8713082e57bc527f298c07d3f8226cd3c162c26", checked := Try.checked }
namespace Rows
def none {H : Type} : Left H := { results := [], args := [] }

/-- 'laws.FnExactDbMerge': WHATEVER THE INPUT: true; the input reads as it did. -/
def fnExactDbMergeSpec : ChangeSpec := { name := "fnExactDbMerge", fn := fun _ => fun
  | [d1, d2] => { results := [.lit (.bool true)], args := [d1, d2] }
  | _ => none }
def fnExactDbMergeRow : OpenClaim := { program := "ytimebipgiicmiab", sum := "d31aee2416ef9f49cf5ea587e8713082e57bc527f298c07d3f8226cd3c162c26", func := "loop.example/linkstaterouting/laws.FnExactDbMerge", spec := "fnExactDbMerge", unfollowed := true, recurses := true, apart := false }
def FnExactDbMergeSaid : Prop := fnExactDbMergeRow.holds Try.pinned (OpenSpec.ofChange fnExactDbMergeSpec)

/-- ITS FALSE NEIGHBOUR: 'it returns false'. Refute it at one input. -/
def fnExactDbMergeWrong : ChangeSpec := { name := "fnExactDbMerge", fn := fun _ => fun
  | [d1, d2] => { results := [.lit (.bool false)], args := [d1, d2] }
  | _ => none }
def FnExactDbMergeWrongFalsely : Prop := fnExactDbMergeRow.holds Try.pinned (OpenSpec.ofChange fnExactDbMergeWrong)

/-- 'laws.FnExactDbMissing': WHATEVER THE INPUT: true; the input reads as it did. -/
def fnExactDbMissingSpec : ChangeSpec := { name := "fnExactDbMissing", fn := fun _ => fun
  | [d1, d2] => { results := [.lit (.bool true)], args := [d1, d2] }
  | _ => none }
def fnExactDbMissingRow : OpenClaim := { program := "ytimebipgiicmiab", sum := "d31aee2416ef9f49cf5ea587e8713082e57bc527f298c07d3f8226cd3c162c26", func := "loop.example/linkstaterouting/laws.FnExactDbMissing", spec := "fnExactDbMissing", apart := false }
def FnExactDbMissingSaid : Prop := fnExactDbMissingRow.holds Try.pinned (OpenSpec.ofChange fnExactDbMissingSpec)

/-- ITS FALSE NEIGHBOUR: 'it returns false'. Refute it at one input. -/
def fnExactDbMissingWrong : ChangeSpec := { name := "fnExactDbMissing", fn := fun _ => fun
  | [d1, d2] => { results := [.lit (.bool false)], args := [d1, d2] }
  | _ => none }
def FnExactDbMissingWrongFalsely : Prop := fnExactDbMissingRow.holds Try.pinned (OpenSpec.ofChange fnExactDbMissingWrong)

/-- 'laws.FnDbMerge': WHATEVER THE INPUT: true; the input reads as it did. -/
def fnDbMergeSpec : ChangeSpec := { name := "fnDbMerge", fn := fun _ => fun
  | [d] => { results := [.lit (.bool true)], args := [d] }
  | _ => none }
def fnDbMergeRow : OpenClaim := { program := "ytimebipgiicmiab", sum := "d31aee2416ef9f49cf5ea587e8713082e57bc527f298c07d3f8226cd3c162c26", func := "loop.example/linkstaterouting/laws.FnDbMerge", spec := "fnDbMerge", unfollowed := true, recurses := true, apart := false }
def FnDbMergeSaid : Prop := fnDbMergeRow.holds Try.pinned (OpenSpec.ofChange fnDbMergeSpec)

/-- ITS FALSE NEIGHBOUR: 'it returns false'. Refute it at one input. -/
def fnDbMergeWrong : ChangeSpec := { name := "fnDbMerge", fn := fun _ => fun
  | [d] => { results := [.lit (.bool false)], args := [d] }
  | _ => none }
def FnDbMergeWrongFalsely : Prop := fnDbMergeRow.holds Try.pinned (OpenSpec.ofChange fnDbMergeWrong)

/-- 'laws.FnDbMergeSame': WHATEVER THE INPUT: true; the input reads as it did. -/
def fnDbMergeSameSpec : ChangeSpec := { name := "fnDbMergeSame", fn := fun _ => fun
  | [d] => { results := [.lit (.bool true)], args := [d] }
  | _ => none }
def fnDbMergeSameRow : OpenClaim := { program := "ytimebipgiicmiab", sum := "d31aee2416ef9f49cf5ea587e8713082e57bc527f298c07d3f8226cd3c162c26", func := "loop.example/linkstaterouting/laws.FnDbMergeSame", spec := "fnDbMergeSame", unfollowed := true, recurses := true, apart := false }
def FnDbMergeSameSaid : Prop := fnDbMergeSameRow.holds Try.pinned (OpenSpec.ofChange fnDbMergeSameSpec)

/-- ITS FALSE NEIGHBOUR: 'it returns false'. Refute it at one input. -/
def fnDbMergeSameWrong : ChangeSpec := { name := "fnDbMergeSame", fn := fun _ => fun
  | [d] => { results := [.lit (.bool false)], args := [d] }
  | _ => none }
def FnDbMergeSameWrongFalsely : Prop := fnDbMergeSameRow.holds Try.pinned (OpenSpec.ofChange fnDbMergeSameWrong)

/-- 'laws.FnDbMissing': WHATEVER THE INPUT: true; the input reads as it did. -/
def fnDbMissingSpec : ChangeSpec := { name := "fnDbMissing", fn := fun _ => fun
  | [d] => { results := [.lit (.bool true)], args := [d] }
  | _ => none }
def fnDbMissingRow : OpenClaim := { program := "ytimebipgiicmiab", sum := "d31aee2416ef9f49cf5ea587e8713082e57bc527f298c07d3f8226cd3c162c26", func := "loop.example/linkstaterouting/laws.FnDbMissing", spec := "fnDbMissing", unfollowed := true, recurses := true, apart := false }
def FnDbMissingSaid : Prop := fnDbMissingRow.holds Try.pinned (OpenSpec.ofChange fnDbMissingSpec)

/-- ITS FALSE NEIGHBOUR: 'it returns false'. Refute it at one input. -/
def fnDbMissingWrong : ChangeSpec := { name := "fnDbMissing", fn := fun _ => fun
  | [d] => { results := [.lit (.bool false)], args := [d] }
  | _ => none }
def FnDbMissingWrongFalsely : Prop := fnDbMissingRow.holds Try.pinned (OpenSpec.ofChange fnDbMissingWrong)

/-- 'laws.FnDbMissingList': WHATEVER THE INPUT: true; the input reads as it did. -/
def fnDbMissingListSpec : ChangeSpec := { name := "fnDbMissingList", fn := fun _ => fun
  | [d] => { results := [.lit (.bool true)], args := [d] }
  | _ => none }
def fnDbMissingListRow : OpenClaim := { program := "ytimebipgiicmiab", sum := "d31aee2416ef9f49cf5ea587e8713082e57bc527f298c07d3f8226cd3c162c26", func := "loop.example/linkstaterouting/laws.FnDbMissingList", spec := "fnDbMissingList", apart := false }
def FnDbMissingListSaid : Prop := fnDbMissingListRow.holds Try.pinned (OpenSpec.ofChange fnDbMissingListSpec)

/-- ITS FALSE NEIGHBOUR: 'it returns false'. Refute it at one input. -/
def fnDbMissingListWrong : ChangeSpec := { name := "fnDbMissingList", fn := fun _ => fun
  | [d] => { results := [.lit (.bool false)], args := [d] }
  | _ => none }
def FnDbMissingListWrongFalsely : Prop := fnDbMissingListRow.holds Try.pinned (OpenSpec.ofChange fnDbMissingListWrong)

/-- 'laws.FnDbMergeBack': WHATEVER THE INPUT: true; the input reads as it did. -/
def fnDbMergeBackSpec : ChangeSpec := { name := "fnDbMergeBack", fn := fun _ => fun
  | [d] => { results := [.lit (.bool true)], args := [d] }
  | _ => none }
def fnDbMergeBackRow : OpenClaim := { program := "ytimebipgiicmiab", sum := "d31aee2416ef9f49cf5ea587e8713082e57bc527f298c07d3f8226cd3c162c26", func := "loop.example/linkstaterouting/laws.FnDbMergeBack", spec := "fnDbMergeBack", unfollowed := true, recurses := true, apart := false }
def FnDbMergeBackSaid : Prop := fnDbMergeBackRow.holds Try.pinned (OpenSpec.ofChange fnDbMergeBackSpec)

/-- ITS FALSE NEIGHBOUR: 'it returns false'. Refute it at one input. -/
def fnDbMergeBackWrong : ChangeSpec := { name := "fnDbMergeBack", fn := fun _ => fun
  | [d] => { results := [.lit (.bool false)], args := [d] }
  | _ => none }
def FnDbMergeBackWrongFalsely : Prop := fnDbMergeBackRow.holds Try.pinned (OpenSpec.ofChange fnDbMergeBackWrong)

/-- 'laws.FnDbMissingNone': WHATEVER THE INPUT: true; the input reads as it did. -/
def fnDbMissingNoneSpec : ChangeSpec := { name := "fnDbMissingNone", fn := fun _ => fun
  | [d] => { results := [.lit (.bool true)], args := [d] }
  | _ => none }
def fnDbMissingNoneRow : OpenClaim := { program := "ytimebipgiicmiab", sum := "d31aee2416ef9f49cf5ea587e8713082e57bc527f298c07d3f8226cd3c162c26", func := "loop.example/linkstaterouting/laws.FnDbMissingNone", spec := "fnDbMissingNone", apart := false }
def FnDbMissingNoneSaid : Prop := fnDbMissingNoneRow.holds Try.pinned (OpenSpec.ofChange fnDbMissingNoneSpec)

/-- ITS FALSE NEIGHBOUR: 'it returns false'. Refute it at one input. -/
def fnDbMissingNoneWrong : ChangeSpec := { name := "fnDbMissingNone", fn := fun _ => fun
  | [d] => { results := [.lit (.bool false)], args := [d] }
  | _ => none }
def FnDbMissingNoneWrongFalsely : Prop := fnDbMissingNoneRow.holds Try.pinned (OpenSpec.ofChange fnDbMissingNoneWrong)

/- THE SECOND FORM. 'bulk': how many values and letters a reading holds, each counted each time it is reached (what is shared counts as often as it is met; a slice's spare places count too). A statement '..UptoSaid' is the law's where the arguments, and the package variables that the reading takes, are together of bulk at most 1048576: NARROWER than '..Said'. Prove '..Said' where nothing that the law and all that it calls make is longer than what came in: it says more and counts as full. Else prove '..UptoSaid'. A law counts once. -/
mutual
def uptoBulk {H : Type} : DataW H → Nat
  | .lit (.string bytes) => bytes.length + 1
  | .lit _ => 1
  | .nil => 1
  | .ptr d => uptoBulk d + 1
  | .slice elems spare => uptoBulkAll elems + uptoBulkAll spare + 1
  | .agg parts => uptoBulkAll parts + 1
  | .iface _ d => uptoBulk d + 1
  | .map entries => uptoBulkEntries entries + 1
  | .held _ => 1
def uptoBulkAll {H : Type} : List (DataW H) → Nat
  | [] => 0
  | d :: r => uptoBulk d + uptoBulkAll r
def uptoBulkEntries {H : Type} : List (Lit × DataW H) → Nat
  | [] => 0
  | x :: r => uptoBulkEntry x + uptoBulkEntries r
def uptoBulkEntry {H : Type} : Lit × DataW H → Nat
  | (.string bytes, d) => bytes.length + uptoBulk d + 1
  | (_, d) => uptoBulk d + 1
 end
def uptoSmall : (H : Type) → List (DataW H) → Bool := fun _ ds => decide (uptoBulkAll ds ≤ 1048576)
def OpenSpec.upto (s : _root_.Go.ChangeSpec) : _root_.Go.OpenSpec := { _root_.Go.OpenSpec.ofChange s with cond := some uptoSmall }

/-- 'laws.FnExactDbMerge', WHERE WHAT IT READS IS OF BULK AT MOST 1048576: true; the input reads as it did. -/
def fnExactDbMergeUptoRow : OpenClaim := { program := "ytimebipgiicmiab", sum := "d31aee2416ef9f49cf5ea587e8713082e57bc527f298c07d3f8226cd3c162c26", func := "loop.example/linkstaterouting/laws.FnExactDbMerge", spec := "fnExactDbMerge", unfollowed := true, recurses := true, apart := false, narrowed := true }
def FnExactDbMergeUptoSaid : Prop := fnExactDbMergeUptoRow.holds Try.pinned (OpenSpec.upto fnExactDbMergeSpec)

/-- 'laws.FnExactDbMissing', WHERE WHAT IT READS IS OF BULK AT MOST 1048576: true; the input reads as it did. -/
def fnExactDbMissingUptoRow : OpenClaim := { program := "ytimebipgiicmiab", sum := "d31aee2416ef9f49cf5ea587e8713082e57bc527f298c07d3f8226cd3c162c26", func := "loop.example/linkstaterouting/laws.FnExactDbMissing", spec := "fnExactDbMissing", apart := false, narrowed := true }
def FnExactDbMissingUptoSaid : Prop := fnExactDbMissingUptoRow.holds Try.pinned (OpenSpec.upto fnExactDbMissingSpec)

/-- 'laws.FnDbMerge', WHERE WHAT IT READS IS OF BULK AT MOST 1048576: true; the input reads as it did. -/
def fnDbMergeUptoRow : OpenClaim := { program := "ytimebipgiicmiab", sum := "d31aee2416ef9f49cf5ea587e8713082e57bc527f298c07d3f8226cd3c162c26", func := "loop.example/linkstaterouting/laws.FnDbMerge", spec := "fnDbMerge", unfollowed := true, recurses := true, apart := false, narrowed := true }
def FnDbMergeUptoSaid : Prop := fnDbMergeUptoRow.holds Try.pinned (OpenSpec.upto fnDbMergeSpec)

/-- 'laws.FnDbMergeSame', WHERE WHAT IT READS IS OF BULK AT MOST 1048576: true; the input reads as it did. -/
def fnDbMergeSameUptoRow : OpenClaim := { program := "ytimebipgiicmiab", sum := "d31aee2416ef9f49cf5ea587e8713082e57bc527f298c07d3f8226cd3c162c26", func := "loop.example/linkstaterouting/laws.FnDbMergeSame", spec := "fnDbMergeSame", unfollowed := true, recurses := true, apart := false, narrowed := true }
def FnDbMergeSameUptoSaid : Prop := fnDbMergeSameUptoRow.holds Try.pinned (OpenSpec.upto fnDbMergeSameSpec)

/-- 'laws.FnDbMissing', WHERE WHAT IT READS IS OF BULK AT MOST 1048576: true; the input reads as it did. -/
def fnDbMissingUptoRow : OpenClaim := { program := "ytimebipgiicmiab", sum := "d31aee2416ef9f49cf5ea587e8713082e57bc527f298c07d3f8226cd3c162c26", func := "loop.example/linkstaterouting/laws.FnDbMissing", spec := "fnDbMissing", unfollowed := true, recurses := true, apart := false, narrowed := true }
def FnDbMissingUptoSaid : Prop := fnDbMissingUptoRow.holds Try.pinned (OpenSpec.upto fnDbMissingSpec)

/-- 'laws.FnDbMissingList', WHERE WHAT IT READS IS OF BULK AT MOST 1048576: true; the input reads as it did. -/
def fnDbMissingListUptoRow : OpenClaim := { program := "ytimebipgiicmiab", sum := "d31aee2416ef9f49cf5ea587e8713082e57bc527f298c07d3f8226cd3c162c26", func := "loop.example/linkstaterouting/laws.FnDbMissingList", spec := "fnDbMissingList", apart := false, narrowed := true }
def FnDbMissingListUptoSaid : Prop := fnDbMissingListUptoRow.holds Try.pinned (OpenSpec.upto fnDbMissingListSpec)

/-- 'laws.FnDbMergeBack', WHERE WHAT IT READS IS OF BULK AT MOST 1048576: true; the input reads as it did. -/
def fnDbMergeBackUptoRow : OpenClaim := { program := "ytimebipgiicmiab", sum := "d31aee2416ef9f49cf5ea587e8713082e57bc527f298c07d3f8226cd3c162c26", func := "loop.example/linkstaterouting/laws.FnDbMergeBack", spec := "fnDbMergeBack", unfollowed := true, recurses := true, apart := false, narrowed := true }
def FnDbMergeBackUptoSaid : Prop := fnDbMergeBackUptoRow.holds Try.pinned (OpenSpec.upto fnDbMergeBackSpec)

/-- 'laws.FnDbMissingNone', WHERE WHAT IT READS IS OF BULK AT MOST 1048576: true; the input reads as it did. -/
def fnDbMissingNoneUptoRow : OpenClaim := { program := "ytimebipgiicmiab", sum := "d31aee2416ef9f49cf5ea587e8713082e57bc527f298c07d3f8226cd3c162c26", func := "loop.example/linkstaterouting/laws.FnDbMissingNone", spec := "fnDbMissingNone", apart := false, narrowed := true }
def FnDbMissingNoneUptoSaid : Prop := fnDbMissingNoneUptoRow.holds Try.pinned (OpenSpec.upto fnDbMissingNoneSpec)

end Rows
end Go.Proofs.Ytimebipgiicmiab
