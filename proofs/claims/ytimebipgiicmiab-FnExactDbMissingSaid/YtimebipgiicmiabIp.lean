/-
  Contracts over this seat: the program's DbPut.
-/
import Derived.Test.YtimebipgiicmiabIl
import Derived.Test.YtimebipgiicmiabZd
import Derived.Handy
namespace Go.Proofs.Ytimebipgiicmiab
open Go.RowKit Go.Maps

theorem findZ_map (zs : List Lz) (o : Int) : (findZ zs o).map Lz.d = getL (datL zs) o := (findZ_get zs o).symm
theorem cmpM_putC {f : Int → Option Lz} {db : List La} (hf : ∀ o, (f o).map Lz.d = getL db o) (z : Lz) : cmpM f z = putC db z.d := by
  have e : getL db z.d.o = (f z.o).map Lz.d := (hf z.o).symm
  unfold cmpM putC
  rw [e]
  cases f z.o with
  | none => rfl
  | some x =>
    dsimp only [Option.map_some]
    repeat' split
    all_goals first | rfl | omega
theorem slM_find {W : World} {B : Nat} {A : Option Addr} {zs : List Lz} (h : Slz W B A zs) (hes : ∀ z ∈ zs, z.es.length ≤ 2000000) : SlM W B (findZ zs) := fun o z hz => by
  obtain ⟨h1, -⟩ := findZ_at hz
  obtain ⟨k, hk⟩ := List.getElem?_of_mem h1
  obtain ⟨b, off, -, -, -, -, -, h2⟩ := h k z hk
  exact ⟨hes z h1, h2⟩
theorem slM_put {W : World} {B : Nat} {f : Int → Option Lz} {z : Lz} (h : SlM W B f) (hz : Slb W B z.A z.es) (hl : z.es.length ≤ 2000000) : SlM W B (putM f z) := fun o x hx => by
  rcases putM_mem hx with rfl | hx
  · exact ⟨hl, hz⟩
  · exact h o x hx


end Go.Proofs.Ytimebipgiicmiab
