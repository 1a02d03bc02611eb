/-
  No cell of these rows narrows 'for every input' (looked for: loops, veiled, ifaces, maps, wideKeys, modest, calm, conditions, laid).
  DERIVED. THE GIVEN ROWS OF THIS SEAT. 3 by the template 'for every input the law returns true; each argument reads behind the call as it read before'; 0 by the template 'total and deterministic' (their statements: YtddgeohgancnbaaTotals.lean).
  GIVEN WITH THE SEED: the statements are not yours to turn. If you find one false, say at which input.
  Laid BY PROGRAM, IN A SANDBOX (cutbox-rows.mjs): the forced cells as the released guide's own fill.sh prints them over the translation 496496c024ac99e6… (all of the seat's roots in one cut). By AI agents, Wed Nov 11 2026. No macro, syntax, notation, axiom, sorry.
-/
import Derived.Test.YtddgeohgancnbaaChecked
import GoSem.Claim
import GoSem.ClaimJoined
import GoSem.ClaimMapViews
import Derived.JoinedTies
import Derived.KernelRfl
namespace Go.Proofs.Ytddgeohgancnbaa
/- THE CELL 'sum', in the pinned program and in every row, IS THE sha256 OF THE DUMP (.gsa) THAT YtddgeohgancnbaaProg.lean LOADS. Nothing in Lean hashes anything: it is a label: what it is worth is what the hold of that sum in a sandbox is worth. -/
noncomputable def Try.pinned : Pinned := { name := "ytddgeohgancnbaa", sum := "496496c024ac99e6dabcd64b9b7cc3c2f0b6ca6cafbb1ce24fc89986490fb860", checked := Try.checked }
namespace Rows
def none {H : Type} : Left H := { results := [], args := [] }

/-- 'laws.FnReachFewer': WHATEVER THE INPUT: true; the input reads as it did. -/
def fnReachFewerSpec : ChangeSpec := { name := "fnReachFewer", fn := fun _ => fun
  | [d1, d2] => { results := [.lit (.bool true)], args := [d1, d2] }
  | _ => none }
def fnReachFewerRow : OpenClaim := { program := "ytddgeohgancnbaa", sum := "496496c024ac99e6dabcd64b9b7cc3c2f0b6ca6cafbb1ce24fc89986490fb860", func := "loop.example/linkstaterouting/laws.FnReachFewer", spec := "fnReachFewer", unfollowed := true, recurses := true, apart := false }
def FnReachFewerSaid : Prop := fnReachFewerRow.holds Try.pinned (OpenSpec.ofChange fnReachFewerSpec)

/-- ITS FALSE NEIGHBOUR: 'it returns false'. Refute it at one input. -/
def fnReachFewerWrong : ChangeSpec := { name := "fnReachFewer", fn := fun _ => fun
  | [d1, d2] => { results := [.lit (.bool false)], args := [d1, d2] }
  | _ => none }
def FnReachFewerWrongFalsely : Prop := fnReachFewerRow.holds Try.pinned (OpenSpec.ofChange fnReachFewerWrong)

/-- 'laws.FnDistancesWorse': WHATEVER THE INPUT: true; the input reads as it did. -/
def fnDistancesWorseSpec : ChangeSpec := { name := "fnDistancesWorse", fn := fun _ => fun
  | [d1, d2] => { results := [.lit (.bool true)], args := [d1, d2] }
  | _ => none }
def fnDistancesWorseRow : OpenClaim := { program := "ytddgeohgancnbaa", sum := "496496c024ac99e6dabcd64b9b7cc3c2f0b6ca6cafbb1ce24fc89986490fb860", func := "loop.example/linkstaterouting/laws.FnDistancesWorse", spec := "fnDistancesWorse", unfollowed := true, recurses := true, apart := false }
def FnDistancesWorseSaid : Prop := fnDistancesWorseRow.holds Try.pinned (OpenSpec.ofChange fnDistancesWorseSpec)

/-- ITS FALSE NEIGHBOUR: 'it returns false'. Refute it at one input. -/
def fnDistancesWorseWrong : ChangeSpec := { name := "fnDistancesWorse", fn := fun _ => fun
  | [d1, d2] => { results := [.lit (.bool false)], args := [d1, d2] }
  | _ => none }
def FnDistancesWorseWrongFalsely : Prop := fnDistancesWorseRow.holds Try.pinned (OpenSpec.ofChange fnDistancesWorseWrong)

/-- 'laws.FnLinkUsed': WHATEVER THE INPUT: true; the input reads as it did. -/
def fnLinkUsedSpec : ChangeSpec := { name := "fnLinkUsed", fn := fun _ => fun
  | [d] => { results := [.lit (.bool true)], args := [d] }
  | _ => none }
def fnLinkUsedRow : OpenClaim := { program := "ytddgeohgancnbaa", sum := "496496c024ac99e6dabcd64b9b7cc3c2f0b6ca6cafbb1ce24fc89986490fb860", func := "loop.example/linkstaterouting/laws.FnLinkUsed", spec := "fnLinkUsed", unfollowed := true, recurses := true, apart := false }
def FnLinkUsedSaid : Prop := fnLinkUsedRow.holds Try.pinned (OpenSpec.ofChange fnLinkUsedSpec)

/-- ITS FALSE NEIGHBOUR: 'it returns false'. Refute it at one input. -/
def fnLinkUsedWrong : ChangeSpec := { name := "fnLinkUsed", fn := fun _ => fun
  | [d] => { results := [.lit (.bool false)], args := [d] }
  | _ => none }
def FnLinkUsedWrongFalsely : Prop := fnLinkUsedRow.holds Try.pinned (OpenSpec.ofChange fnLinkUsedWrong)

/- THE SECOND FORM. 'bulk': how many values and letters a reading holds, each counted each time it is reached (what is shared counts as often as it is met; a slice's spare places count too). A statement '..UptoSaid' is the law's where the arguments, and the package variables that the reading takes, are together of bulk at most 1048576: NARROWER than '..Said'. Prove '..Said' where nothing that the law and all that it calls make is longer than what came in: it says more and counts as full. Else prove '..UptoSaid'. A law counts once. -/
mutual
def uptoBulk {H : Type} : DataW H → Nat
  | .lit (.string bytes) => bytes.length + 1
  | .lit _ => 1
  | .nil => 1
  | .ptr d => uptoBulk d + 1
  | .slice elems spare => uptoBulkAll elems + uptoBulkAll spare + 1
  | .agg parts => uptoBulkAll parts + 1
  | .iface _ d => uptoBulk d + 1
  | .map entries => uptoBulkEntries entries + 1
  | .held _ => 1
def uptoBulkAll {H : Type} : List (DataW H) → Nat
  | [] => 0
  | d :: r => uptoBulk d + uptoBulkAll r
def uptoBulkEntries {H : Type} : List (Lit × DataW H) → Nat
  | [] => 0
  | x :: r => uptoBulkEntry x + uptoBulkEntries r
def uptoBulkEntry {H : Type} : Lit × DataW H → Nat
  | (.string bytes, d) => bytes.length + uptoBulk d + 1
  | (_, d) => uptoBulk d + 1
 end
def uptoSmall : (H : Type) → List (DataW H) → Bool := fun _ ds => decide (uptoBulkAll ds ≤ 1048576)
def OpenSpec.upto (s : _root_.Go.ChangeSpec) : _root_.Go.OpenSpec := { _root_.Go.OpenSpec.ofChange s with cond := some uptoSmall }

/-- 'laws.FnReachFewer', WHERE WHAT IT READS IS OF BULK AT MOST 1048576: true; the input reads as it did. -/
def fnReachFewerUptoRow : OpenClaim := { program := "ytddgeohgancnbaa", sum := "496496c024ac99e6dabcd64b9b7cc3c2f0b6ca6cafbb1ce24fc89986490fb860", func := "loop.example/linkstaterouting/laws.FnReachFewer", spec := "fnReachFewer", unfollowed := true, recurses := true, apart := false, narrowed := true }
def FnReachFewerUptoSaid : Prop := fnReachFewerUptoRow.holds Try.pinned (OpenSpec.upto fnReachFewerSpec)

/-- 'laws.FnDistancesWorse', WHERE WHAT IT READS IS OF BULK AT MOST 1048576: true; the input reads as it did. -/
def fnDistancesWorseUptoRow : OpenClaim := { program := "ytddgeohgancnbaa", sum := "496496c024ac99e6dabcd64b9b7cc3c2f0b6ca6cafbb1ce24fc89986490fb860", func := "loop.example/linkstaterouting/laws.FnDistancesWorse", spec := "fnDistancesWorse", unfollowed := true, recurses := true, apart := false, narrowed := true }
def FnDistancesWorseUptoSaid : Prop := fnDistancesWorseUptoRow.holds Try.pinned (OpenSpec.upto fnDistancesWorseSpec)

/-- 'laws.FnLinkUsed', WHERE WHAT IT READS IS OF BULK AT MOST 1048576: true; the input reads as it did. -/
def fnLinkUsedUptoRow : OpenClaim := { program := "ytddgeohgancnbaa", sum := "496496c024ac99e6dabcd64b9b7cc3c2f0b6ca6cafbb1ce24fc89986490fb860", func := "loop.example/linkstaterouting/laws.FnLinkUsed", spec := "fnLinkUsed", unfollowed := true, recurses := true, apart := false, narrowed := true }
def FnLinkUsedUptoSaid : Prop := fnLinkUsedUptoRow.holds Try.pinned (OpenSpec.upto fnLinkUsedSpec)

end Rows
end Go.Proofs.Ytddgeohgancnbaa
