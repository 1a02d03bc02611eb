/-
  What the frames of this seat share: the package's error as its text lays it.
-/
import Derived.Test.YtenlofomkchlaabDoorCards
import Derived.Test.YtenlofomkchlaabDoorTie
import Derived.WalkKit
import Derived.ProofKit
import Derived.OpenShut
import Derived.ShutString
import Derived.ChangeOld
import Derived.Below
import Derived.LaidMore
import Derived.Lay
import Derived.SevenTiedAt
import Derived.RowKitTokens
import Derived.Stop.LaidErr
import Derived.Test.YtenlofomkchlaabDoorSen
import Derived.Test.YtenlofomkchlaabDoorA6
namespace Go.Proofs.YtenlofomkchlaabDoor
open Go.ChangeShapes Go.WideShapes Go.ChangeAt Go.RowKit

theorem errVar : Tryd.prog.globalNamed "loop.example/linkstaterouting/impl.errNoRepair" = some 0 := by kernel_rfl
theorem errVarType : (Tryd.prog.globals[0]?).map (·.type) = some 59 := by kernel_rfl
theorem errCells : Tryd.prog.cellsOf 184 = 1 := by kernel_rfl
theorem strCells : Tryd.prog.cellsOf 9 = 1 := by kernel_rfl
theorem errStar : "*" ++ "errors.errorString" = "*errors.errorString" := by decide
theorem errRow (u : TypeId) (h : Tryd.prog.typeName? 3 u = some "*errors.errorString") : u = 159 :=
  typeName_ptr_named (nm := "errors.errorString") (by rw [errStar]; kernel_rfl) (by kernel_rfl) (by decide) u (by rw [errStar]; exact h)
theorem var_of_laid {W : World} (h : laidMetH Tryd.prog [("loop.example/linkstaterouting/impl.errNoRepair", Rows.laid_loop_example_linkstaterouting_impl_errNoRepair)] W) : ∃ a, W.var? Tryd.prog "loop.example/linkstaterouting/impl.errNoRepair" = some #[.iface 159 (.pointer (some a))] := by
  rw [MakeChecks.laidMetH_plain _ _ _ (by kernel_rfl)] at h
  obtain ⟨a, s, hv, _⟩ := laid_sentinel (r := []) h errVar errVarType Tryd.underlying59 errRow Tryd.underlying159 Tryd.underlying184 rfl rfl Tryd.underlying9 errCells strCells
  exact ⟨a, hv⟩
theorem sen_of_var {W : World} {a : Addr} (h : W.var? Tryd.prog "loop.example/linkstaterouting/impl.errNoRepair" = some #[.iface 159 (.pointer (some a))]) : Sen W :=
  Sen.of_cell (by simpa using World.var?_cell errVar h 0)
theorem var_below {W W' : World} {x : Value} (h : W.var? Tryd.prog "loop.example/linkstaterouting/impl.errNoRepair" = some #[x]) (hb : Below W.heap.size W W') : W'.var? Tryd.prog "loop.example/linkstaterouting/impl.errNoRepair" = some #[x] := by
  simp only [World.var?, errVar, Option.bind_some] at h ⊢
  have hlt : 0 < W.heap.size := by
    rcases Nat.lt_or_ge 0 W.heap.size with h' | h'
    · exact h'
    · simp [Array.getElem?_eq_none h'] at h
  rw [hb.block _ hlt]
  exact h
theorem vars_read {H : Type} (enc : TypeId × Value → H) {W : World} {x : Value} (h : W.var? Tryd.prog "loop.example/linkstaterouting/impl.errNoRepair" = some #[x]) (hi : IsIface x) (sp : Nat → Bool) :
    DataW.TrodVars enc Tryd.prog W sp ["loop.example/linkstaterouting/impl.errNoRepair"] [tok enc x] [.cell 0 0] :=
  ⟨0, 59, #[x], 1, [], [], errVar, errVarType, h, trod_held Tryd.underlying59 hi 0, rfl, rfl⟩

end Go.Proofs.YtenlofomkchlaabDoor
