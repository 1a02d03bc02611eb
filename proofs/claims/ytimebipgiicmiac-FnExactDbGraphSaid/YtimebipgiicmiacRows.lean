/-
  No cell of these rows narrows 'for every input' (looked for: loops, veiled, ifaces, maps, wideKeys, modest, calm, conditions, laid).
  DERIVED. THE GIVEN ROWS OF THIS SEAT. 6 by the template 'for every input the law returns true; each argument reads behind the call as it read before'; 0 by the template 'total and deterministic' (their statements: YtimebipgiicmiacTotals.lean).
  GIVEN WITH THE SEED: the statements are not yours to turn. If you find one false, say at which input.
  Laid BY PROGRAM, IN A SANDBOX (cutbox-rows.mjs): the forced cells as the released guide's own fill.sh prints them over the translation 52a350152b3b93c6… (all of the seat's roots in one cut). By AI agents, Wed Nov 11 2026. No macro, syntax, notation, axiom, sorry.
-/
import Derived.Test.YtimebipgiicmiacChecked
import GoSem.Claim
import GoSem.ClaimJoined
import GoSem.ClaimMapViews
import Derived.JoinedTies
import Derived.KernelRfl
namespace Go.Proofs.Ytimebipgiicmiac
/- THE CELL 'sum', in the pinned program and in every row, IS THE sha256 OF THE DUMP (.gsa) THAT YtimebipgiicmiacProg.lean LOADS. Nothing in Lean hashes anything: it is a label: what it is worth is what the hold of that sum in a sandbox is worth. -/
noncomputable def Try.pinned : Pinned := { name := "ytimebipgiicmiac", sum := "52a350152b3b93c6c1a95cb60f76decdf167798c01a3930950a434864ecf541a", checked := Try.checked }
namespace Rows
def none {H : Type} : Left H := { results := [], args := [] }

/-- 'laws.FnExactLsaOf': WHATEVER THE INPUT: true; the input reads as it did. -/
def fnExactLsaOfSpec : ChangeSpec := { name := "fnExactLsaOf", fn := fun _ => fun
  | [d1, d2, d3] => { results := [.lit (.bool true)], args := [d1, d2, d3] }
  | _ => none }
def fnExactLsaOfRow : OpenClaim := { program := "ytimebipgiicmiac", sum := "52a350152b3b93c6c1a95cb60f76decdf167798c01a3930950a434864ecf541a", func := "loop.example/linkstaterouting/laws.FnExactLsaOf", spec := "fnExactLsaOf", unfollowed := true, recurses := true, apart := false }
def FnExactLsaOfSaid : Prop := fnExactLsaOfRow.holds Try.pinned (OpenSpec.ofChange fnExactLsaOfSpec)

/-- ITS FALSE NEIGHBOUR: 'it returns false'. Refute it at one input. -/
def fnExactLsaOfWrong : ChangeSpec := { name := "fnExactLsaOf", fn := fun _ => fun
  | [d1, d2, d3] => { results := [.lit (.bool false)], args := [d1, d2, d3] }
  | _ => none }
def FnExactLsaOfWrongFalsely : Prop := fnExactLsaOfRow.holds Try.pinned (OpenSpec.ofChange fnExactLsaOfWrong)

/-- 'laws.FnLsaOf': WHATEVER THE INPUT: true; the input reads as it did. -/
def fnLsaOfSpec : ChangeSpec := { name := "fnLsaOf", fn := fun _ => fun
  | [d] => { results := [.lit (.bool true)], args := [d] }
  | _ => none }
def fnLsaOfRow : OpenClaim := { program := "ytimebipgiicmiac", sum := "52a350152b3b93c6c1a95cb60f76decdf167798c01a3930950a434864ecf541a", func := "loop.example/linkstaterouting/laws.FnLsaOf", spec := "fnLsaOf", unfollowed := true, recurses := true, apart := false }
def FnLsaOfSaid : Prop := fnLsaOfRow.holds Try.pinned (OpenSpec.ofChange fnLsaOfSpec)

/-- ITS FALSE NEIGHBOUR: 'it returns false'. Refute it at one input. -/
def fnLsaOfWrong : ChangeSpec := { name := "fnLsaOf", fn := fun _ => fun
  | [d] => { results := [.lit (.bool false)], args := [d] }
  | _ => none }
def FnLsaOfWrongFalsely : Prop := fnLsaOfRow.holds Try.pinned (OpenSpec.ofChange fnLsaOfWrong)

/-- 'laws.FnExactDbGraph': WHATEVER THE INPUT: true; the input reads as it did. -/
def fnExactDbGraphSpec : ChangeSpec := { name := "fnExactDbGraph", fn := fun _ => fun
  | [d1, d2] => { results := [.lit (.bool true)], args := [d1, d2] }
  | _ => none }
def fnExactDbGraphRow : OpenClaim := { program := "ytimebipgiicmiac", sum := "52a350152b3b93c6c1a95cb60f76decdf167798c01a3930950a434864ecf541a", func := "loop.example/linkstaterouting/laws.FnExactDbGraph", spec := "fnExactDbGraph", apart := false }
def FnExactDbGraphSaid : Prop := fnExactDbGraphRow.holds Try.pinned (OpenSpec.ofChange fnExactDbGraphSpec)

/-- ITS FALSE NEIGHBOUR: 'it returns false'. Refute it at one input. -/
def fnExactDbGraphWrong : ChangeSpec := { name := "fnExactDbGraph", fn := fun _ => fun
  | [d1, d2] => { results := [.lit (.bool false)], args := [d1, d2] }
  | _ => none }
def FnExactDbGraphWrongFalsely : Prop := fnExactDbGraphRow.holds Try.pinned (OpenSpec.ofChange fnExactDbGraphWrong)

/-- 'laws.FnDbGraph': WHATEVER THE INPUT: true; the input reads as it did. -/
def fnDbGraphSpec : ChangeSpec := { name := "fnDbGraph", fn := fun _ => fun
  | [d] => { results := [.lit (.bool true)], args := [d] }
  | _ => none }
def fnDbGraphRow : OpenClaim := { program := "ytimebipgiicmiac", sum := "52a350152b3b93c6c1a95cb60f76decdf167798c01a3930950a434864ecf541a", func := "loop.example/linkstaterouting/laws.FnDbGraph", spec := "fnDbGraph", unfollowed := true, recurses := true, apart := false }
def FnDbGraphSaid : Prop := fnDbGraphRow.holds Try.pinned (OpenSpec.ofChange fnDbGraphSpec)

/-- ITS FALSE NEIGHBOUR: 'it returns false'. Refute it at one input. -/
def fnDbGraphWrong : ChangeSpec := { name := "fnDbGraph", fn := fun _ => fun
  | [d] => { results := [.lit (.bool false)], args := [d] }
  | _ => none }
def FnDbGraphWrongFalsely : Prop := fnDbGraphRow.holds Try.pinned (OpenSpec.ofChange fnDbGraphWrong)

/-- 'laws.FnDbGraphBack': WHATEVER THE INPUT: true; the input reads as it did. -/
def fnDbGraphBackSpec : ChangeSpec := { name := "fnDbGraphBack", fn := fun _ => fun
  | [d1, d2] => { results := [.lit (.bool true)], args := [d1, d2] }
  | _ => none }
def fnDbGraphBackRow : OpenClaim := { program := "ytimebipgiicmiac", sum := "52a350152b3b93c6c1a95cb60f76decdf167798c01a3930950a434864ecf541a", func := "loop.example/linkstaterouting/laws.FnDbGraphBack", spec := "fnDbGraphBack", unfollowed := true, recurses := true, apart := false }
def FnDbGraphBackSaid : Prop := fnDbGraphBackRow.holds Try.pinned (OpenSpec.ofChange fnDbGraphBackSpec)

/-- ITS FALSE NEIGHBOUR: 'it returns false'. Refute it at one input. -/
def fnDbGraphBackWrong : ChangeSpec := { name := "fnDbGraphBack", fn := fun _ => fun
  | [d1, d2] => { results := [.lit (.bool false)], args := [d1, d2] }
  | _ => none }
def FnDbGraphBackWrongFalsely : Prop := fnDbGraphBackRow.holds Try.pinned (OpenSpec.ofChange fnDbGraphBackWrong)

/-- 'laws.FnDbGraphLess': WHATEVER THE INPUT: true; the input reads as it did. -/
def fnDbGraphLessSpec : ChangeSpec := { name := "fnDbGraphLess", fn := fun _ => fun
  | [d1, d2] => { results := [.lit (.bool true)], args := [d1, d2] }
  | _ => none }
def fnDbGraphLessRow : OpenClaim := { program := "ytimebipgiicmiac", sum := "52a350152b3b93c6c1a95cb60f76decdf167798c01a3930950a434864ecf541a", func := "loop.example/linkstaterouting/laws.FnDbGraphLess", spec := "fnDbGraphLess", unfollowed := true, recurses := true, apart := false }
def FnDbGraphLessSaid : Prop := fnDbGraphLessRow.holds Try.pinned (OpenSpec.ofChange fnDbGraphLessSpec)

/-- ITS FALSE NEIGHBOUR: 'it returns false'. Refute it at one input. -/
def fnDbGraphLessWrong : ChangeSpec := { name := "fnDbGraphLess", fn := fun _ => fun
  | [d1, d2] => { results := [.lit (.bool false)], args := [d1, d2] }
  | _ => none }
def FnDbGraphLessWrongFalsely : Prop := fnDbGraphLessRow.holds Try.pinned (OpenSpec.ofChange fnDbGraphLessWrong)

/- THE SECOND FORM. 'bulk': how many values and letters a reading holds, each counted each time it is reached (what is shared counts as often as it is met; a slice's spare places count too). A statement '..UptoSaid' is the law's where the arguments, and the package variables that the reading takes, are together of bulk at most 1048576: NARROWER than '..Said'. Prove '..Said' where nothing that the law and all that it calls make is longer than what came in: it says more and counts as full. Else prove '..UptoSaid'. A law counts once. -/
mutual
def uptoBulk {H : Type} : DataW H → Nat
  | .lit (.string bytes) => bytes.length + 1
  | .lit _ => 1
  | .nil => 1
  | .ptr d => uptoBulk d + 1
  | .slice elems spare => uptoBulkAll elems + uptoBulkAll spare + 1
  | .agg parts => uptoBulkAll parts + 1
  | .iface _ d => uptoBulk d + 1
  | .map entries => uptoBulkEntries entries + 1
  | .held _ => 1
def uptoBulkAll {H : Type} : List (DataW H) → Nat
  | [] => 0
  | d :: r => uptoBulk d + uptoBulkAll r
def uptoBulkEntries {H : Type} : List (Lit × DataW H) → Nat
  | [] => 0
  | x :: r => uptoBulkEntry x + uptoBulkEntries r
def uptoBulkEntry {H : Type} : Lit × DataW H → Nat
  | (.string bytes, d) => bytes.length + uptoBulk d + 1
  | (_, d) => uptoBulk d + 1
 end
def uptoSmall : (H : Type) → List (DataW H) → Bool := fun _ ds => decide (uptoBulkAll ds ≤ 1048576)
def OpenSpec.upto (s : _root_.Go.ChangeSpec) : _root_.Go.OpenSpec := { _root_.Go.OpenSpec.ofChange s with cond := some uptoSmall }

/-- 'laws.FnExactLsaOf', WHERE WHAT IT READS IS OF BULK AT MOST 1048576: true; the input reads as it did. -/
def fnExactLsaOfUptoRow : OpenClaim := { program := "ytimebipgiicmiac", sum := "52a350152b3b93c6c1a95cb60f76decdf167798c01a3930950a434864ecf541a", func := "loop.example/linkstaterouting/laws.FnExactLsaOf", spec := "fnExactLsaOf", unfollowed := true, recurses := true, apart := false, narrowed := true }
def FnExactLsaOfUptoSaid : Prop := fnExactLsaOfUptoRow.holds Try.pinned (OpenSpec.upto fnExactLsaOfSpec)

/-- 'laws.FnLsaOf', WHERE WHAT IT READS IS OF BULK AT MOST 1048576: true; the input reads as it did. -/
def fnLsaOfUptoRow : OpenClaim := { program := "ytimebipgiicmiac", sum := "52a350152b3b93c6c1a95cb60f76decdf167798c01a3930950a434864ecf541a", func := "loop.example/linkstaterouting/laws.FnLsaOf", spec := "fnLsaOf", unfollowed := true, recurses := true, apart := false, narrowed := true }
def FnLsaOfUptoSaid : Prop := fnLsaOfUptoRow.holds Try.pinned (OpenSpec.upto fnLsaOfSpec)

/-- 'laws.FnExactDbGraph', WHERE WHAT IT READS IS OF BULK AT MOST 1048576: true; the input reads as it did. -/
def fnExactDbGraphUptoRow : OpenClaim := { program := "ytimebipgiicmiac", sum := "52a350152b3b93c6c1a95cb60f76decdf167798c01a3930950a434864ecf541a", func := "loop.example/linkstaterouting/laws.FnExactDbGraph", spec := "fnExactDbGraph", apart := false, narrowed := true }
def FnExactDbGraphUptoSaid : Prop := fnExactDbGraphUptoRow.holds Try.pinned (OpenSpec.upto fnExactDbGraphSpec)

/-- 'laws.FnDbGraph', WHERE WHAT IT READS IS OF BULK AT MOST 1048576: true; the input reads as it did. -/
def fnDbGraphUptoRow : OpenClaim := { program := "ytimebipgiicmiac", sum := "52a350152b3b93c6c1a95cb60f76decdf167798c01a3930950a434864ecf541a", func := "loop.example/linkstaterouting/laws.FnDbGraph", spec := "fnDbGraph", unfollowed := true, recurses := true, apart := false, narrowed := true }
def FnDbGraphUptoSaid : Prop := fnDbGraphUptoRow.holds Try.pinned (OpenSpec.upto fnDbGraphSpec)

/-- 'laws.FnDbGraphBack', WHERE WHAT IT READS IS OF BULK AT MOST 1048576: true; the input reads as it did. -/
def fnDbGraphBackUptoRow : OpenClaim := { program := "ytimebipgiicmiac", sum := "52a350152b3b93c6c1a95cb60f76decdf167798c01a3930950a434864ecf541a", func := "loop.example/linkstaterouting/laws.FnDbGraphBack", spec := "fnDbGraphBack", unfollowed := true, recurses := true, apart := false, narrowed := true }
def FnDbGraphBackUptoSaid : Prop := fnDbGraphBackUptoRow.holds Try.pinned (OpenSpec.upto fnDbGraphBackSpec)

/-- 'laws.FnDbGraphLess', WHERE WHAT IT READS IS OF BULK AT MOST 1048576: true; the input reads as it did. -/
def fnDbGraphLessUptoRow : OpenClaim := { program := "ytimebipgiicmiac", sum := "52a350152b3b93c6c1a95cb60f76decdf167798c01a3930950a434864ecf541a", func := "loop.example/linkstaterouting/laws.FnDbGraphLess", spec := "fnDbGraphLess", unfollowed := true, recurses := true, apart := false, narrowed := true }
def FnDbGraphLessUptoSaid : Prop := fnDbGraphLessUptoRow.holds Try.pinned (OpenSpec.upto fnDbGraphLessSpec)

end Rows
end Go.Proofs.Ytimebipgiicmiac
