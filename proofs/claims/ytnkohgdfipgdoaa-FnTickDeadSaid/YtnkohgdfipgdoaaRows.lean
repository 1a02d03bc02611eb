/-
  No cell of these rows narrows 'for every input' (looked for: loops, veiled, ifaces, maps, wideKeys, modest, calm, conditions, laid).
  DERIVED. THE GIVEN ROWS OF THIS SEAT. 8 by the template 'for every input the law returns true; each argument reads behind the call as it read before'; 0 by the template 'total and deterministic' (their statements: YtnkohgdfipgdoaaTotals.lean).
  GIVEN WITH THE SEED: the statements are not yours to turn. If you find one false, say at which input.
  Laid BY PROGRAM, IN A SANDBOX (cutbox-rows.mjs): the forced cells as the released guide's own fill.sh prints them over the translation 0ec550a7c10c96e1… (all of the seat's roots in one cut). By AI agents, Wed Nov 11 2026. No macro, syntax, notation, axiom, sorry.
-/
import Derived.Test.YtnkohgdfipgdoaaChecked
import GoSem.Claim
import GoSem.ClaimJoined
import GoSem.ClaimMapViews
import Derived.JoinedTies
import Derived.KernelRfl
namespace Go.Proofs.Ytnkohgdfipgdoaa
/- THE CELL 'sum', in the pinned program and in every row, IS THE sha256 OF THE DUMP (.gsa) THAT YtnkohgdfipgdoaaProg.lean LOADS. Nothing in Lean hashes anything: it is a label: what it is worth is what the hold of that sum in a sandbox is worth. -/
noncomputable def Try.pinned : Pinned := { name := "ytnkohgdfipgdoaa", sum := "0ec550a7c10c96e1cf4417d7186c2082a9197a2d73885290b3235e0c661bdcca", checked := Try.checked }
namespace Rows
def none {H : Type} : Left H := { results := [], args := [] }

/-- 'laws.FnExactAdjacencyValid': WHATEVER THE INPUT: true; the input reads as it did. -/
def fnExactAdjacencyValidSpec : ChangeSpec := { name := "fnExactAdjacencyValid", fn := fun _ => fun
  | [d] => { results := [.lit (.bool true)], args := [d] }
  | _ => none }
def fnExactAdjacencyValidRow : OpenClaim := { program := "ytnkohgdfipgdoaa", sum := "0ec550a7c10c96e1cf4417d7186c2082a9197a2d73885290b3235e0c661bdcca", func := "loop.example/linkstaterouting/laws.FnExactAdjacencyValid", spec := "fnExactAdjacencyValid", apart := false }
def FnExactAdjacencyValidSaid : Prop := fnExactAdjacencyValidRow.holds Try.pinned (OpenSpec.ofChange fnExactAdjacencyValidSpec)

/-- ITS FALSE NEIGHBOUR: 'it returns false'. Refute it at one input. -/
def fnExactAdjacencyValidWrong : ChangeSpec := { name := "fnExactAdjacencyValid", fn := fun _ => fun
  | [d] => { results := [.lit (.bool false)], args := [d] }
  | _ => none }
def FnExactAdjacencyValidWrongFalsely : Prop := fnExactAdjacencyValidRow.holds Try.pinned (OpenSpec.ofChange fnExactAdjacencyValidWrong)

/-- 'laws.FnExactAdjacencyTick': WHATEVER THE INPUT: true; the input reads as it did. -/
def fnExactAdjacencyTickSpec : ChangeSpec := { name := "fnExactAdjacencyTick", fn := fun _ => fun
  | [d] => { results := [.lit (.bool true)], args := [d] }
  | _ => none }
def fnExactAdjacencyTickRow : OpenClaim := { program := "ytnkohgdfipgdoaa", sum := "0ec550a7c10c96e1cf4417d7186c2082a9197a2d73885290b3235e0c661bdcca", func := "loop.example/linkstaterouting/laws.FnExactAdjacencyTick", spec := "fnExactAdjacencyTick", unfollowed := true, recurses := true, apart := false }
def FnExactAdjacencyTickSaid : Prop := fnExactAdjacencyTickRow.holds Try.pinned (OpenSpec.ofChange fnExactAdjacencyTickSpec)

/-- ITS FALSE NEIGHBOUR: 'it returns false'. Refute it at one input. -/
def fnExactAdjacencyTickWrong : ChangeSpec := { name := "fnExactAdjacencyTick", fn := fun _ => fun
  | [d] => { results := [.lit (.bool false)], args := [d] }
  | _ => none }
def FnExactAdjacencyTickWrongFalsely : Prop := fnExactAdjacencyTickRow.holds Try.pinned (OpenSpec.ofChange fnExactAdjacencyTickWrong)

/-- 'laws.FnExactAdjacencyHello': WHATEVER THE INPUT: true; the input reads as it did. -/
def fnExactAdjacencyHelloSpec : ChangeSpec := { name := "fnExactAdjacencyHello", fn := fun _ => fun
  | [d1, d2, d3] => { results := [.lit (.bool true)], args := [d1, d2, d3] }
  | _ => none }
def fnExactAdjacencyHelloRow : OpenClaim := { program := "ytnkohgdfipgdoaa", sum := "0ec550a7c10c96e1cf4417d7186c2082a9197a2d73885290b3235e0c661bdcca", func := "loop.example/linkstaterouting/laws.FnExactAdjacencyHello", spec := "fnExactAdjacencyHello", unfollowed := true, recurses := true, apart := false }
def FnExactAdjacencyHelloSaid : Prop := fnExactAdjacencyHelloRow.holds Try.pinned (OpenSpec.ofChange fnExactAdjacencyHelloSpec)

/-- ITS FALSE NEIGHBOUR: 'it returns false'. Refute it at one input. -/
def fnExactAdjacencyHelloWrong : ChangeSpec := { name := "fnExactAdjacencyHello", fn := fun _ => fun
  | [d1, d2, d3] => { results := [.lit (.bool false)], args := [d1, d2, d3] }
  | _ => none }
def FnExactAdjacencyHelloWrongFalsely : Prop := fnExactAdjacencyHelloRow.holds Try.pinned (OpenSpec.ofChange fnExactAdjacencyHelloWrong)

/-- 'laws.FnTick': WHATEVER THE INPUT: true; the input reads as it did. -/
def fnTickSpec : ChangeSpec := { name := "fnTick", fn := fun _ => fun
  | [d] => { results := [.lit (.bool true)], args := [d] }
  | _ => none }
def fnTickRow : OpenClaim := { program := "ytnkohgdfipgdoaa", sum := "0ec550a7c10c96e1cf4417d7186c2082a9197a2d73885290b3235e0c661bdcca", func := "loop.example/linkstaterouting/laws.FnTick", spec := "fnTick", unfollowed := true, recurses := true, apart := false }
def FnTickSaid : Prop := fnTickRow.holds Try.pinned (OpenSpec.ofChange fnTickSpec)

/-- ITS FALSE NEIGHBOUR: 'it returns false'. Refute it at one input. -/
def fnTickWrong : ChangeSpec := { name := "fnTick", fn := fun _ => fun
  | [d] => { results := [.lit (.bool false)], args := [d] }
  | _ => none }
def FnTickWrongFalsely : Prop := fnTickRow.holds Try.pinned (OpenSpec.ofChange fnTickWrong)

/-- 'laws.FnHello': WHATEVER THE INPUT: true; the input reads as it did. -/
def fnHelloSpec : ChangeSpec := { name := "fnHello", fn := fun _ => fun
  | [d] => { results := [.lit (.bool true)], args := [d] }
  | _ => none }
def fnHelloRow : OpenClaim := { program := "ytnkohgdfipgdoaa", sum := "0ec550a7c10c96e1cf4417d7186c2082a9197a2d73885290b3235e0c661bdcca", func := "loop.example/linkstaterouting/laws.FnHello", spec := "fnHello", unfollowed := true, recurses := true, apart := false }
def FnHelloSaid : Prop := fnHelloRow.holds Try.pinned (OpenSpec.ofChange fnHelloSpec)

/-- ITS FALSE NEIGHBOUR: 'it returns false'. Refute it at one input. -/
def fnHelloWrong : ChangeSpec := { name := "fnHello", fn := fun _ => fun
  | [d] => { results := [.lit (.bool false)], args := [d] }
  | _ => none }
def FnHelloWrongFalsely : Prop := fnHelloRow.holds Try.pinned (OpenSpec.ofChange fnHelloWrong)

/-- 'laws.FnHelloTwice': WHATEVER THE INPUT: true; the input reads as it did. -/
def fnHelloTwiceSpec : ChangeSpec := { name := "fnHelloTwice", fn := fun _ => fun
  | [d] => { results := [.lit (.bool true)], args := [d] }
  | _ => none }
def fnHelloTwiceRow : OpenClaim := { program := "ytnkohgdfipgdoaa", sum := "0ec550a7c10c96e1cf4417d7186c2082a9197a2d73885290b3235e0c661bdcca", func := "loop.example/linkstaterouting/laws.FnHelloTwice", spec := "fnHelloTwice", unfollowed := true, recurses := true, apart := false }
def FnHelloTwiceSaid : Prop := fnHelloTwiceRow.holds Try.pinned (OpenSpec.ofChange fnHelloTwiceSpec)

/-- ITS FALSE NEIGHBOUR: 'it returns false'. Refute it at one input. -/
def fnHelloTwiceWrong : ChangeSpec := { name := "fnHelloTwice", fn := fun _ => fun
  | [d] => { results := [.lit (.bool false)], args := [d] }
  | _ => none }
def FnHelloTwiceWrongFalsely : Prop := fnHelloTwiceRow.holds Try.pinned (OpenSpec.ofChange fnHelloTwiceWrong)

/-- 'laws.FnHelloFull': WHATEVER THE INPUT: true; the input reads as it did. -/
def fnHelloFullSpec : ChangeSpec := { name := "fnHelloFull", fn := fun _ => fun
  | [d] => { results := [.lit (.bool true)], args := [d] }
  | _ => none }
def fnHelloFullRow : OpenClaim := { program := "ytnkohgdfipgdoaa", sum := "0ec550a7c10c96e1cf4417d7186c2082a9197a2d73885290b3235e0c661bdcca", func := "loop.example/linkstaterouting/laws.FnHelloFull", spec := "fnHelloFull", unfollowed := true, recurses := true, apart := false }
def FnHelloFullSaid : Prop := fnHelloFullRow.holds Try.pinned (OpenSpec.ofChange fnHelloFullSpec)

/-- ITS FALSE NEIGHBOUR: 'it returns false'. Refute it at one input. -/
def fnHelloFullWrong : ChangeSpec := { name := "fnHelloFull", fn := fun _ => fun
  | [d] => { results := [.lit (.bool false)], args := [d] }
  | _ => none }
def FnHelloFullWrongFalsely : Prop := fnHelloFullRow.holds Try.pinned (OpenSpec.ofChange fnHelloFullWrong)

/-- 'laws.FnTickDead': WHATEVER THE INPUT: true; the input reads as it did. -/
def fnTickDeadSpec : ChangeSpec := { name := "fnTickDead", fn := fun _ => fun
  | [d] => { results := [.lit (.bool true)], args := [d] }
  | _ => none }
def fnTickDeadRow : OpenClaim := { program := "ytnkohgdfipgdoaa", sum := "0ec550a7c10c96e1cf4417d7186c2082a9197a2d73885290b3235e0c661bdcca", func := "loop.example/linkstaterouting/laws.FnTickDead", spec := "fnTickDead", unfollowed := true, recurses := true, apart := false }
def FnTickDeadSaid : Prop := fnTickDeadRow.holds Try.pinned (OpenSpec.ofChange fnTickDeadSpec)

/-- ITS FALSE NEIGHBOUR: 'it returns false'. Refute it at one input. -/
def fnTickDeadWrong : ChangeSpec := { name := "fnTickDead", fn := fun _ => fun
  | [d] => { results := [.lit (.bool false)], args := [d] }
  | _ => none }
def FnTickDeadWrongFalsely : Prop := fnTickDeadRow.holds Try.pinned (OpenSpec.ofChange fnTickDeadWrong)

/- THE SECOND FORM. 'bulk': how many values and letters a reading holds, each counted each time it is reached (what is shared counts as often as it is met; a slice's spare places count too). A statement '..UptoSaid' is the law's where the arguments, and the package variables that the reading takes, are together of bulk at most 1048576: NARROWER than '..Said'. Prove '..Said' where nothing that the law and all that it calls make is longer than what came in: it says more and counts as full. Else prove '..UptoSaid'. A law counts once. -/
mutual
def uptoBulk {H : Type} : DataW H → Nat
  | .lit (.string bytes) => bytes.length + 1
  | .lit _ => 1
  | .nil => 1
  | .ptr d => uptoBulk d + 1
  | .slice elems spare => uptoBulkAll elems + uptoBulkAll spare + 1
  | .agg parts => uptoBulkAll parts + 1
  | .iface _ d => uptoBulk d + 1
  | .map entries => uptoBulkEntries entries + 1
  | .held _ => 1
def uptoBulkAll {H : Type} : List (DataW H) → Nat
  | [] => 0
  | d :: r => uptoBulk d + uptoBulkAll r
def uptoBulkEntries {H : Type} : List (Lit × DataW H) → Nat
  | [] => 0
  | x :: r => uptoBulkEntry x + uptoBulkEntries r
def uptoBulkEntry {H : Type} : Lit × DataW H → Nat
  | (.string bytes, d) => bytes.length + uptoBulk d + 1
  | (_, d) => uptoBulk d + 1
 end
def uptoSmall : (H : Type) → List (DataW H) → Bool := fun _ ds => decide (uptoBulkAll ds ≤ 1048576)
def OpenSpec.upto (s : _root_.Go.ChangeSpec) : _root_.Go.OpenSpec := { _root_.Go.OpenSpec.ofChange s with cond := some uptoSmall }

/-- 'laws.FnExactAdjacencyValid', WHERE WHAT IT READS IS OF BULK AT MOST 1048576: true; the input reads as it did. -/
def fnExactAdjacencyValidUptoRow : OpenClaim := { program := "ytnkohgdfipgdoaa", sum := "0ec550a7c10c96e1cf4417d7186c2082a9197a2d73885290b3235e0c661bdcca", func := "loop.example/linkstaterouting/laws.FnExactAdjacencyValid", spec := "fnExactAdjacencyValid", apart := false, narrowed := true }
def FnExactAdjacencyValidUptoSaid : Prop := fnExactAdjacencyValidUptoRow.holds Try.pinned (OpenSpec.upto fnExactAdjacencyValidSpec)

/-- 'laws.FnExactAdjacencyTick', WHERE WHAT IT READS IS OF BULK AT MOST 1048576: true; the input reads as it did. -/
def fnExactAdjacencyTickUptoRow : OpenClaim := { program := "ytnkohgdfipgdoaa", sum := "0ec550a7c10c96e1cf4417d7186c2082a9197a2d73885290b3235e0c661bdcca", func := "loop.example/linkstaterouting/laws.FnExactAdjacencyTick", spec := "fnExactAdjacencyTick", unfollowed := true, recurses := true, apart := false, narrowed := true }
def FnExactAdjacencyTickUptoSaid : Prop := fnExactAdjacencyTickUptoRow.holds Try.pinned (OpenSpec.upto fnExactAdjacencyTickSpec)

/-- 'laws.FnExactAdjacencyHello', WHERE WHAT IT READS IS OF BULK AT MOST 1048576: true; the input reads as it did. -/
def fnExactAdjacencyHelloUptoRow : OpenClaim := { program := "ytnkohgdfipgdoaa", sum := "0ec550a7c10c96e1cf4417d7186c2082a9197a2d73885290b3235e0c661bdcca", func := "loop.example/linkstaterouting/laws.FnExactAdjacencyHello", spec := "fnExactAdjacencyHello", unfollowed := true, recurses := true, apart := false, narrowed := true }
def FnExactAdjacencyHelloUptoSaid : Prop := fnExactAdjacencyHelloUptoRow.holds Try.pinned (OpenSpec.upto fnExactAdjacencyHelloSpec)

/-- 'laws.FnTick', WHERE WHAT IT READS IS OF BULK AT MOST 1048576: true; the input reads as it did. -/
def fnTickUptoRow : OpenClaim := { program := "ytnkohgdfipgdoaa", sum := "0ec550a7c10c96e1cf4417d7186c2082a9197a2d73885290b3235e0c661bdcca", func := "loop.example/linkstaterouting/laws.FnTick", spec := "fnTick", unfollowed := true, recurses := true, apart := false, narrowed := true }
def FnTickUptoSaid : Prop := fnTickUptoRow.holds Try.pinned (OpenSpec.upto fnTickSpec)

/-- 'laws.FnHello', WHERE WHAT IT READS IS OF BULK AT MOST 1048576: true; the input reads as it did. -/
def fnHelloUptoRow : OpenClaim := { program := "ytnkohgdfipgdoaa", sum := "0ec550a7c10c96e1cf4417d7186c2082a9197a2d73885290b3235e0c661bdcca", func := "loop.example/linkstaterouting/laws.FnHello", spec := "fnHello", unfollowed := true, recurses := true, apart := false, narrowed := true }
def FnHelloUptoSaid : Prop := fnHelloUptoRow.holds Try.pinned (OpenSpec.upto fnHelloSpec)

/-- 'laws.FnHelloTwice', WHERE WHAT IT READS IS OF BULK AT MOST 1048576: true; the input reads as it did. -/
def fnHelloTwiceUptoRow : OpenClaim := { program := "ytnkohgdfipgdoaa", sum := "0ec550a7c10c96e1cf4417d7186c2082a9197a2d73885290b3235e0c661bdcca", func := "loop.example/linkstaterouting/laws.FnHelloTwice", spec := "fnHelloTwice", unfollowed := true, recurses := true, apart := false, narrowed := true }
def FnHelloTwiceUptoSaid : Prop := fnHelloTwiceUptoRow.holds Try.pinned (OpenSpec.upto fnHelloTwiceSpec)

/-- 'laws.FnHelloFull', WHERE WHAT IT READS IS OF BULK AT MOST 1048576: true; the input reads as it did. -/
def fnHelloFullUptoRow : OpenClaim := { program := "ytnkohgdfipgdoaa", sum := "0ec550a7c10c96e1cf4417d7186c2082a9197a2d73885290b3235e0c661bdcca", func := "loop.example/linkstaterouting/laws.FnHelloFull", spec := "fnHelloFull", unfollowed := true, recurses := true, apart := false, narrowed := true }
def FnHelloFullUptoSaid : Prop := fnHelloFullUptoRow.holds Try.pinned (OpenSpec.upto fnHelloFullSpec)

/-- 'laws.FnTickDead', WHERE WHAT IT READS IS OF BULK AT MOST 1048576: true; the input reads as it did. -/
def fnTickDeadUptoRow : OpenClaim := { program := "ytnkohgdfipgdoaa", sum := "0ec550a7c10c96e1cf4417d7186c2082a9197a2d73885290b3235e0c661bdcca", func := "loop.example/linkstaterouting/laws.FnTickDead", spec := "fnTickDead", unfollowed := true, recurses := true, apart := false, narrowed := true }
def FnTickDeadUptoSaid : Prop := fnTickDeadUptoRow.holds Try.pinned (OpenSpec.upto fnTickDeadSpec)

end Rows
end Go.Proofs.Ytnkohgdfipgdoaa
