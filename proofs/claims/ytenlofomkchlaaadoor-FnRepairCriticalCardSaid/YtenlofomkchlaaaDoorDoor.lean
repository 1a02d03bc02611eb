/-
  What the frames of this seat share: the package's error as its text lays it.
-/
import Derived.Test.YtenlofomkchlaaaDoorCards
import Derived.Test.YtenlofomkchlaaaDoorTie
import Derived.WalkKit
import Derived.ProofKit
import Derived.OpenShut
import Derived.ShutString
import Derived.ChangeOld
import Derived.Below
import Derived.LaidMore
import Derived.Lay
import Derived.SevenTiedAt
import Derived.RowKitTokens
import Derived.Stop.LaidErr
import Derived.Test.YtenlofomkchlaaaDoorSen
import Derived.Test.YtenlofomkchlaaaDoorA4
namespace Go.Proofs.YtenlofomkchlaaaDoor
open Go.ChangeShapes Go.WideShapes Go.ChangeAt Go.RowKit

theorem own : ownKnob Tryd.prog.godebug = none := by kernel_rfl
theorem laidOut : laidOutB Tryd.prog = true := by kernel_rfl
theorem errVar : Tryd.prog.globalNamed "loop.example/linkstaterouting/impl.errNoRepair" = some 0 := by kernel_rfl
theorem errVarType : (Tryd.prog.globals[0]?).map (·.type) = some 47 := by kernel_rfl
theorem errCells : Tryd.prog.cellsOf 147 = 1 := by kernel_rfl
theorem strCells : Tryd.prog.cellsOf 9 = 1 := by kernel_rfl
theorem errStar : "*" ++ "errors.errorString" = "*errors.errorString" := by decide
theorem errRow (u : TypeId) (h : Tryd.prog.typeName? 3 u = some "*errors.errorString") : u = 122 :=
  typeName_ptr_named (nm := "errors.errorString") (by rw [errStar]; kernel_rfl) (by kernel_rfl) (by decide) u (by rw [errStar]; exact h)
theorem var_of_laid {W : World} (h : laidMetH Tryd.prog [("loop.example/linkstaterouting/impl.errNoRepair", Rows.laid_loop_example_linkstaterouting_impl_errNoRepair)] W) : ∃ a, W.var? Tryd.prog "loop.example/linkstaterouting/impl.errNoRepair" = some #[.iface 122 (.pointer (some a))] := by
  rw [MakeChecks.laidMetH_plain _ _ _ (by kernel_rfl)] at h
  obtain ⟨a, s, hv, _⟩ := laid_sentinel (r := []) h errVar errVarType Tryd.underlying47 errRow Tryd.underlying122 Tryd.underlying147 rfl rfl Tryd.underlying9 errCells strCells
  exact ⟨a, hv⟩
theorem sen_of_var {W : World} {a : Addr} (h : W.var? Tryd.prog "loop.example/linkstaterouting/impl.errNoRepair" = some #[.iface 122 (.pointer (some a))]) : Sen W :=
  Sen.of_cell (by simpa using World.var?_cell errVar h 0)
theorem var_below {W W' : World} {x : Value} (h : W.var? Tryd.prog "loop.example/linkstaterouting/impl.errNoRepair" = some #[x]) (hb : Below W.heap.size W W') : W'.var? Tryd.prog "loop.example/linkstaterouting/impl.errNoRepair" = some #[x] := by
  simp only [World.var?, errVar, Option.bind_some] at h ⊢
  have hlt : 0 < W.heap.size := by
    rcases Nat.lt_or_ge 0 W.heap.size with h' | h'
    · exact h'
    · simp [Array.getElem?_eq_none h'] at h
  rw [hb.block _ hlt]
  exact h
theorem vars_read {H : Type} (enc : TypeId × Value → H) {W : World} {x : Value} (h : W.var? Tryd.prog "loop.example/linkstaterouting/impl.errNoRepair" = some #[x]) (hi : IsIface x) (sp : Nat → Bool) :
    DataW.TrodVars enc Tryd.prog W sp ["loop.example/linkstaterouting/impl.errNoRepair"] [tok enc x] [.cell 0 0] :=
  ⟨0, 47, #[x], 1, [], [], errVar, errVarType, h, trod_held Tryd.underlying47 hi 0, rfl, rfl⟩

theorem byt_of {w : World} {x : Addr} {len cap : Nat} {zs : List Int} (hl : len ≤ cap) (hz : zs.length = cap) (hcell : ∀ i, i < zs.length → w.cell? (x.add i) = some (.int .u8 (zs.getD i 0))) (hwz : ∀ n ∈ zs, (Lit.int .u8 n).wf = true) :
    Byt w w.heap.size (some x) len (fun i => zs.getD i 0) := fun h0 => by
  have hc := hcell 0 (by omega)
  have h00 : x.add 0 = x := by simp [Addr.add]
  rw [h00] at hc
  obtain ⟨b, off, sp⟩ := x
  have hb : b < w.heap.size ∧ sp = none := by
    unfold World.cell? at hc
    dsimp only at hc
    split at hc
    · rename_i c t z hh
      refine ⟨heap_lt hh, ?_⟩
      cases sp with
      | none => rfl
      | some s => simp at hc
    · cases hc
  obtain ⟨hb, rfl⟩ := hb
  refine ⟨b, off, rfl, hb, fun i hi => ⟨?_, ?_⟩⟩
  · have h := hcell i (by omega)
    have e : (⟨b, off, none⟩ : Addr).add i = ⟨b, off + i, none⟩ := by
      unfold Addr.add
      by_cases hi : i = 0 <;> simp [hi]
    rw [e] at h
    exact h
  · have hm : zs.getD i 0 ∈ zs := by
      rw [List.getD_eq_getElem?_getD, List.getElem?_eq_getElem (by omega)]
      exact List.getElem_mem _
    exact bounds_u8 (hwz _ hm)
end Go.Proofs.YtenlofomkchlaaaDoor
