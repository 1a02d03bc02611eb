/-
  No cell of these rows narrows 'for every input' (looked for: loops, veiled, ifaces, maps, wideKeys, modest, calm, conditions, laid).
  DERIVED. THE GIVEN ROWS OF THIS SEAT. 10 by the template 'for every input the law returns true; each argument reads behind the call as it read before'; 0 by the template 'total and deterministic' (their statements: YtcndhodibeofiaaTotals.lean).
  GIVEN WITH THE SEED: the statements are not yours to turn. If you find one false, say at which input.
  Laid BY PROGRAM, IN A SANDBOX (cutbox-rows.mjs): the forced cells as the released guide's own fill.sh prints them over the translation 057e839a704bfff9… (all of the seat's roots in one cut). By AI agents, Wed Nov 11 2026. No macro, syntax, notation, axiom, sorry.
-/
import Derived.Test.YtcndhodibeofiaaChecked
import GoSem.Claim
import GoSem.ClaimJoined
import GoSem.ClaimMapViews
import Derived.JoinedTies
import Derived.KernelRfl
namespace Go.Proofs.Ytcndhodibeofiaa
/- THE CELL 'sum', in the pinned program and in every row, IS THE sha256 OF THE DUMP (.gsa) THAT YtcndhodibeofiaaProg.lean LOADS. Nothing in Lean hashes anything: it is a label: what it is worth is what the hold of that sum in a sandbox is worth. -/
noncomputable def Try.pinned : Pinned := { name := "ytcndhodibeofiaa", sum := "057e839a704bfff9fb6cf319a64838a10df09ca4ea4e7a7b003d2be3d8d09710", checked := Try.checked }
namespace Rows
def none {H : Type} : Left H := { results := [], args := [] }

/-- 'laws.FnExactCandidatesValid': WHATEVER THE INPUT: true; the input reads as it did. -/
def fnExactCandidatesValidSpec : ChangeSpec := { name := "fnExactCandidatesValid", fn := fun _ => fun
  | [d] => { results := [.lit (.bool true)], args := [d] }
  | _ => none }
def fnExactCandidatesValidRow : OpenClaim := { program := "ytcndhodibeofiaa", sum := "057e839a704bfff9fb6cf319a64838a10df09ca4ea4e7a7b003d2be3d8d09710", func := "loop.example/linkstaterouting/laws.FnExactCandidatesValid", spec := "fnExactCandidatesValid", apart := false }
def FnExactCandidatesValidSaid : Prop := fnExactCandidatesValidRow.holds Try.pinned (OpenSpec.ofChange fnExactCandidatesValidSpec)

/-- ITS FALSE NEIGHBOUR: 'it returns false'. Refute it at one input. -/
def fnExactCandidatesValidWrong : ChangeSpec := { name := "fnExactCandidatesValid", fn := fun _ => fun
  | [d] => { results := [.lit (.bool false)], args := [d] }
  | _ => none }
def FnExactCandidatesValidWrongFalsely : Prop := fnExactCandidatesValidRow.holds Try.pinned (OpenSpec.ofChange fnExactCandidatesValidWrong)

/-- 'laws.FnExactSpeakerElect': WHATEVER THE INPUT: true; the input reads as it did. -/
def fnExactSpeakerElectSpec : ChangeSpec := { name := "fnExactSpeakerElect", fn := fun _ => fun
  | [d] => { results := [.lit (.bool true)], args := [d] }
  | _ => none }
def fnExactSpeakerElectRow : OpenClaim := { program := "ytcndhodibeofiaa", sum := "057e839a704bfff9fb6cf319a64838a10df09ca4ea4e7a7b003d2be3d8d09710", func := "loop.example/linkstaterouting/laws.FnExactSpeakerElect", spec := "fnExactSpeakerElect", unfollowed := true, recurses := true, apart := false }
def FnExactSpeakerElectSaid : Prop := fnExactSpeakerElectRow.holds Try.pinned (OpenSpec.ofChange fnExactSpeakerElectSpec)

/-- ITS FALSE NEIGHBOUR: 'it returns false'. Refute it at one input. -/
def fnExactSpeakerElectWrong : ChangeSpec := { name := "fnExactSpeakerElect", fn := fun _ => fun
  | [d] => { results := [.lit (.bool false)], args := [d] }
  | _ => none }
def FnExactSpeakerElectWrongFalsely : Prop := fnExactSpeakerElectRow.holds Try.pinned (OpenSpec.ofChange fnExactSpeakerElectWrong)

/-- 'laws.FnExactSpeakerApply': WHATEVER THE INPUT: true; the input reads as it did. -/
def fnExactSpeakerApplySpec : ChangeSpec := { name := "fnExactSpeakerApply", fn := fun _ => fun
  | [d] => { results := [.lit (.bool true)], args := [d] }
  | _ => none }
def fnExactSpeakerApplyRow : OpenClaim := { program := "ytcndhodibeofiaa", sum := "057e839a704bfff9fb6cf319a64838a10df09ca4ea4e7a7b003d2be3d8d09710", func := "loop.example/linkstaterouting/laws.FnExactSpeakerApply", spec := "fnExactSpeakerApply", unfollowed := true, recurses := true, apart := false }
def FnExactSpeakerApplySaid : Prop := fnExactSpeakerApplyRow.holds Try.pinned (OpenSpec.ofChange fnExactSpeakerApplySpec)

/-- ITS FALSE NEIGHBOUR: 'it returns false'. Refute it at one input. -/
def fnExactSpeakerApplyWrong : ChangeSpec := { name := "fnExactSpeakerApply", fn := fun _ => fun
  | [d] => { results := [.lit (.bool false)], args := [d] }
  | _ => none }
def FnExactSpeakerApplyWrongFalsely : Prop := fnExactSpeakerApplyRow.holds Try.pinned (OpenSpec.ofChange fnExactSpeakerApplyWrong)

/-- 'laws.FnElect': WHATEVER THE INPUT: true; the input reads as it did. -/
def fnElectSpec : ChangeSpec := { name := "fnElect", fn := fun _ => fun
  | [d] => { results := [.lit (.bool true)], args := [d] }
  | _ => none }
def fnElectRow : OpenClaim := { program := "ytcndhodibeofiaa", sum := "057e839a704bfff9fb6cf319a64838a10df09ca4ea4e7a7b003d2be3d8d09710", func := "loop.example/linkstaterouting/laws.FnElect", spec := "fnElect", unfollowed := true, recurses := true, apart := false }
def FnElectSaid : Prop := fnElectRow.holds Try.pinned (OpenSpec.ofChange fnElectSpec)

/-- ITS FALSE NEIGHBOUR: 'it returns false'. Refute it at one input. -/
def fnElectWrong : ChangeSpec := { name := "fnElect", fn := fun _ => fun
  | [d] => { results := [.lit (.bool false)], args := [d] }
  | _ => none }
def FnElectWrongFalsely : Prop := fnElectRow.holds Try.pinned (OpenSpec.ofChange fnElectWrong)

/-- 'laws.FnElectSome': WHATEVER THE INPUT: true; the input reads as it did. -/
def fnElectSomeSpec : ChangeSpec := { name := "fnElectSome", fn := fun _ => fun
  | [d] => { results := [.lit (.bool true)], args := [d] }
  | _ => none }
def fnElectSomeRow : OpenClaim := { program := "ytcndhodibeofiaa", sum := "057e839a704bfff9fb6cf319a64838a10df09ca4ea4e7a7b003d2be3d8d09710", func := "loop.example/linkstaterouting/laws.FnElectSome", spec := "fnElectSome", unfollowed := true, recurses := true, apart := false }
def FnElectSomeSaid : Prop := fnElectSomeRow.holds Try.pinned (OpenSpec.ofChange fnElectSomeSpec)

/-- ITS FALSE NEIGHBOUR: 'it returns false'. Refute it at one input. -/
def fnElectSomeWrong : ChangeSpec := { name := "fnElectSome", fn := fun _ => fun
  | [d] => { results := [.lit (.bool false)], args := [d] }
  | _ => none }
def FnElectSomeWrongFalsely : Prop := fnElectSomeRow.holds Try.pinned (OpenSpec.ofChange fnElectSomeWrong)

/-- 'laws.FnElectClaim': WHATEVER THE INPUT: true; the input reads as it did. -/
def fnElectClaimSpec : ChangeSpec := { name := "fnElectClaim", fn := fun _ => fun
  | [d] => { results := [.lit (.bool true)], args := [d] }
  | _ => none }
def fnElectClaimRow : OpenClaim := { program := "ytcndhodibeofiaa", sum := "057e839a704bfff9fb6cf319a64838a10df09ca4ea4e7a7b003d2be3d8d09710", func := "loop.example/linkstaterouting/laws.FnElectClaim", spec := "fnElectClaim", unfollowed := true, recurses := true, apart := false }
def FnElectClaimSaid : Prop := fnElectClaimRow.holds Try.pinned (OpenSpec.ofChange fnElectClaimSpec)

/-- ITS FALSE NEIGHBOUR: 'it returns false'. Refute it at one input. -/
def fnElectClaimWrong : ChangeSpec := { name := "fnElectClaim", fn := fun _ => fun
  | [d] => { results := [.lit (.bool false)], args := [d] }
  | _ => none }
def FnElectClaimWrongFalsely : Prop := fnElectClaimRow.holds Try.pinned (OpenSpec.ofChange fnElectClaimWrong)

/-- 'laws.FnApplyStable': WHATEVER THE INPUT: true; the input reads as it did. -/
def fnApplyStableSpec : ChangeSpec := { name := "fnApplyStable", fn := fun _ => fun
  | [d] => { results := [.lit (.bool true)], args := [d] }
  | _ => none }
def fnApplyStableRow : OpenClaim := { program := "ytcndhodibeofiaa", sum := "057e839a704bfff9fb6cf319a64838a10df09ca4ea4e7a7b003d2be3d8d09710", func := "loop.example/linkstaterouting/laws.FnApplyStable", spec := "fnApplyStable", unfollowed := true, recurses := true, apart := false }
def FnApplyStableSaid : Prop := fnApplyStableRow.holds Try.pinned (OpenSpec.ofChange fnApplyStableSpec)

/-- ITS FALSE NEIGHBOUR: 'it returns false'. Refute it at one input. -/
def fnApplyStableWrong : ChangeSpec := { name := "fnApplyStable", fn := fun _ => fun
  | [d] => { results := [.lit (.bool false)], args := [d] }
  | _ => none }
def FnApplyStableWrongFalsely : Prop := fnApplyStableRow.holds Try.pinned (OpenSpec.ofChange fnApplyStableWrong)

/-- 'laws.FnApplyClaims': WHATEVER THE INPUT: true; the input reads as it did. -/
def fnApplyClaimsSpec : ChangeSpec := { name := "fnApplyClaims", fn := fun _ => fun
  | [d] => { results := [.lit (.bool true)], args := [d] }
  | _ => none }
def fnApplyClaimsRow : OpenClaim := { program := "ytcndhodibeofiaa", sum := "057e839a704bfff9fb6cf319a64838a10df09ca4ea4e7a7b003d2be3d8d09710", func := "loop.example/linkstaterouting/laws.FnApplyClaims", spec := "fnApplyClaims", unfollowed := true, recurses := true, apart := false }
def FnApplyClaimsSaid : Prop := fnApplyClaimsRow.holds Try.pinned (OpenSpec.ofChange fnApplyClaimsSpec)

/-- ITS FALSE NEIGHBOUR: 'it returns false'. Refute it at one input. -/
def fnApplyClaimsWrong : ChangeSpec := { name := "fnApplyClaims", fn := fun _ => fun
  | [d] => { results := [.lit (.bool false)], args := [d] }
  | _ => none }
def FnApplyClaimsWrongFalsely : Prop := fnApplyClaimsRow.holds Try.pinned (OpenSpec.ofChange fnApplyClaimsWrong)

/-- 'laws.FnApplyNew': WHATEVER THE INPUT: true; the input reads as it did. -/
def fnApplyNewSpec : ChangeSpec := { name := "fnApplyNew", fn := fun _ => fun
  | [d1, d2] => { results := [.lit (.bool true)], args := [d1, d2] }
  | _ => none }
def fnApplyNewRow : OpenClaim := { program := "ytcndhodibeofiaa", sum := "057e839a704bfff9fb6cf319a64838a10df09ca4ea4e7a7b003d2be3d8d09710", func := "loop.example/linkstaterouting/laws.FnApplyNew", spec := "fnApplyNew", unfollowed := true, recurses := true, apart := false }
def FnApplyNewSaid : Prop := fnApplyNewRow.holds Try.pinned (OpenSpec.ofChange fnApplyNewSpec)

/-- ITS FALSE NEIGHBOUR: 'it returns false'. Refute it at one input. -/
def fnApplyNewWrong : ChangeSpec := { name := "fnApplyNew", fn := fun _ => fun
  | [d1, d2] => { results := [.lit (.bool false)], args := [d1, d2] }
  | _ => none }
def FnApplyNewWrongFalsely : Prop := fnApplyNewRow.holds Try.pinned (OpenSpec.ofChange fnApplyNewWrong)

/-- 'laws.FnApplyFail': WHATEVER THE INPUT: true; the input reads as it did. -/
def fnApplyFailSpec : ChangeSpec := { name := "fnApplyFail", fn := fun _ => fun
  | [d] => { results := [.lit (.bool true)], args := [d] }
  | _ => none }
def fnApplyFailRow : OpenClaim := { program := "ytcndhodibeofiaa", sum := "057e839a704bfff9fb6cf319a64838a10df09ca4ea4e7a7b003d2be3d8d09710", func := "loop.example/linkstaterouting/laws.FnApplyFail", spec := "fnApplyFail", unfollowed := true, recurses := true, apart := false }
def FnApplyFailSaid : Prop := fnApplyFailRow.holds Try.pinned (OpenSpec.ofChange fnApplyFailSpec)

/-- ITS FALSE NEIGHBOUR: 'it returns false'. Refute it at one input. -/
def fnApplyFailWrong : ChangeSpec := { name := "fnApplyFail", fn := fun _ => fun
  | [d] => { results := [.lit (.bool false)], args := [d] }
  | _ => none }
def FnApplyFailWrongFalsely : Prop := fnApplyFailRow.holds Try.pinned (OpenSpec.ofChange fnApplyFailWrong)

/- THE SECOND FORM. 'bulk': how many values and letters a reading holds, each counted each time it is reached (what is shared counts as often as it is met; a slice's spare places count too). A statement '..UptoSaid' is the law's where the arguments, and the package variables that the reading takes, are together of bulk at most 1048576: NARROWER than '..Said'. Prove '..Said' where nothing that the law and all that it calls make is longer than what came in: it says more and counts as full. Else prove '..UptoSaid'. A law counts once. -/
mutual
def uptoBulk {H : Type} : DataW H → Nat
  | .lit (.string bytes) => bytes.length + 1
  | .lit _ => 1
  | .nil => 1
  | .ptr d => uptoBulk d + 1
  | .slice elems spare => uptoBulkAll elems + uptoBulkAll spare + 1
  | .agg parts => uptoBulkAll parts + 1
  | .iface _ d => uptoBulk d + 1
  | .map entries => uptoBulkEntries entries + 1
  | .held _ => 1
def uptoBulkAll {H : Type} : List (DataW H) → Nat
  | [] => 0
  | d :: r => uptoBulk d + uptoBulkAll r
def uptoBulkEntries {H : Type} : List (Lit × DataW H) → Nat
  | [] => 0
  | x :: r => uptoBulkEntry x + uptoBulkEntries r
def uptoBulkEntry {H : Type} : Lit × DataW H → Nat
  | (.string bytes, d) => bytes.length + uptoBulk d + 1
  | (_, d) => uptoBulk d + 1
 end
def uptoSmall : (H : Type) → List (DataW H) → Bool := fun _ ds => decide (uptoBulkAll ds ≤ 1048576)
def OpenSpec.upto (s : _root_.Go.ChangeSpec) : _root_.Go.OpenSpec := { _root_.Go.OpenSpec.ofChange s with cond := some uptoSmall }

/-- 'laws.FnExactCandidatesValid', WHERE WHAT IT READS IS OF BULK AT MOST 1048576: true; the input reads as it did. -/
def fnExactCandidatesValidUptoRow : OpenClaim := { program := "ytcndhodibeofiaa", sum := "057e839a704bfff9fb6cf319a64838a10df09ca4ea4e7a7b003d2be3d8d09710", func := "loop.example/linkstaterouting/laws.FnExactCandidatesValid", spec := "fnExactCandidatesValid", apart := false, narrowed := true }
def FnExactCandidatesValidUptoSaid : Prop := fnExactCandidatesValidUptoRow.holds Try.pinned (OpenSpec.upto fnExactCandidatesValidSpec)

/-- 'laws.FnExactSpeakerElect', WHERE WHAT IT READS IS OF BULK AT MOST 1048576: true; the input reads as it did. -/
def fnExactSpeakerElectUptoRow : OpenClaim := { program := "ytcndhodibeofiaa", sum := "057e839a704bfff9fb6cf319a64838a10df09ca4ea4e7a7b003d2be3d8d09710", func := "loop.example/linkstaterouting/laws.FnExactSpeakerElect", spec := "fnExactSpeakerElect", unfollowed := true, recurses := true, apart := false, narrowed := true }
def FnExactSpeakerElectUptoSaid : Prop := fnExactSpeakerElectUptoRow.holds Try.pinned (OpenSpec.upto fnExactSpeakerElectSpec)

/-- 'laws.FnExactSpeakerApply', WHERE WHAT IT READS IS OF BULK AT MOST 1048576: true; the input reads as it did. -/
def fnExactSpeakerApplyUptoRow : OpenClaim := { program := "ytcndhodibeofiaa", sum := "057e839a704bfff9fb6cf319a64838a10df09ca4ea4e7a7b003d2be3d8d09710", func := "loop.example/linkstaterouting/laws.FnExactSpeakerApply", spec := "fnExactSpeakerApply", unfollowed := true, recurses := true, apart := false, narrowed := true }
def FnExactSpeakerApplyUptoSaid : Prop := fnExactSpeakerApplyUptoRow.holds Try.pinned (OpenSpec.upto fnExactSpeakerApplySpec)

/-- 'laws.FnElect', WHERE WHAT IT READS IS OF BULK AT MOST 1048576: true; the input reads as it did. -/
def fnElectUptoRow : OpenClaim := { program := "ytcndhodibeofiaa", sum := "057e839a704bfff9fb6cf319a64838a10df09ca4ea4e7a7b003d2be3d8d09710", func := "loop.example/linkstaterouting/laws.FnElect", spec := "fnElect", unfollowed := true, recurses := true, apart := false, narrowed := true }
def FnElectUptoSaid : Prop := fnElectUptoRow.holds Try.pinned (OpenSpec.upto fnElectSpec)

/-- 'laws.FnElectSome', WHERE WHAT IT READS IS OF BULK AT MOST 1048576: true; the input reads as it did. -/
def fnElectSomeUptoRow : OpenClaim := { program := "ytcndhodibeofiaa", sum := "057e839a704bfff9fb6cf319a64838a10df09ca4ea4e7a7b003d2be3d8d09710", func := "loop.example/linkstaterouting/laws.FnElectSome", spec := "fnElectSome", unfollowed := true, recurses := true, apart := false, narrowed := true }
def FnElectSomeUptoSaid : Prop := fnElectSomeUptoRow.holds Try.pinned (OpenSpec.upto fnElectSomeSpec)

/-- 'laws.FnElectClaim', WHERE WHAT IT READS IS OF BULK AT MOST 1048576: true; the input reads as it did. -/
def fnElectClaimUptoRow : OpenClaim := { program := "ytcndhodibeofiaa", sum := "057e839a704bfff9fb6cf319a64838a10df09ca4ea4e7a7b003d2be3d8d09710", func := "loop.example/linkstaterouting/laws.FnElectClaim", spec := "fnElectClaim", unfollowed := true, recurses := true, apart := false, narrowed := true }
def FnElectClaimUptoSaid : Prop := fnElectClaimUptoRow.holds Try.pinned (OpenSpec.upto fnElectClaimSpec)

/-- 'laws.FnApplyStable', WHERE WHAT IT READS IS OF BULK AT MOST 1048576: true; the input reads as it did. -/
def fnApplyStableUptoRow : OpenClaim := { program := "ytcndhodibeofiaa", sum := "057e839a704bfff9fb6cf319a64838a10df09ca4ea4e7a7b003d2be3d8d09710", func := "loop.example/linkstaterouting/laws.FnApplyStable", spec := "fnApplyStable", unfollowed := true, recurses := true, apart := false, narrowed := true }
def FnApplyStableUptoSaid : Prop := fnApplyStableUptoRow.holds Try.pinned (OpenSpec.upto fnApplyStableSpec)

/-- 'laws.FnApplyClaims', WHERE WHAT IT READS IS OF BULK AT MOST 1048576: true; the input reads as it did. -/
def fnApplyClaimsUptoRow : OpenClaim := { program := "ytcndhodibeofiaa", sum := "057e839a704bfff9fb6cf319a64838a10df09ca4ea4e7a7b003d2be3d8d09710", func := "loop.example/linkstaterouting/laws.FnApplyClaims", spec := "fnApplyClaims", unfollowed := true, recurses := true, apart := false, narrowed := true }
def FnApplyClaimsUptoSaid : Prop := fnApplyClaimsUptoRow.holds Try.pinned (OpenSpec.upto fnApplyClaimsSpec)

/-- 'laws.FnApplyNew', WHERE WHAT IT READS IS OF BULK AT MOST 1048576: true; the input reads as it did. -/
def fnApplyNewUptoRow : OpenClaim := { program := "ytcndhodibeofiaa", sum := "057e839a704bfff9fb6cf319a64838a10df09ca4ea4e7a7b003d2be3d8d09710", func := "loop.example/linkstaterouting/laws.FnApplyNew", spec := "fnApplyNew", unfollowed := true, recurses := true, apart := false, narrowed := true }
def FnApplyNewUptoSaid : Prop := fnApplyNewUptoRow.holds Try.pinned (OpenSpec.upto fnApplyNewSpec)

/-- 'laws.FnApplyFail', WHERE WHAT IT READS IS OF BULK AT MOST 1048576: true; the input reads as it did. -/
def fnApplyFailUptoRow : OpenClaim := { program := "ytcndhodibeofiaa", sum := "057e839a704bfff9fb6cf319a64838a10df09ca4ea4e7a7b003d2be3d8d09710", func := "loop.example/linkstaterouting/laws.FnApplyFail", spec := "fnApplyFail", unfollowed := true, recurses := true, apart := false, narrowed := true }
def FnApplyFailUptoSaid : Prop := fnApplyFailUptoRow.holds Try.pinned (OpenSpec.upto fnApplyFailSpec)

end Rows
end Go.Proofs.Ytcndhodibeofiaa
