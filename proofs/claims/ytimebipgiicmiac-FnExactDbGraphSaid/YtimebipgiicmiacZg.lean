/-
  Contracts over this seat: the specification's DbMissing, and what an origin announces.
-/
import Derived.Test.YtimebipgiicmiacZd
namespace Go.Proofs.Ytimebipgiicmiac
open Go.RowKit Go.Maps

/-- Numbers in a row that is newer than a world. -/
structure QI (w : World) (v : Value) (out : List Int) (W : World) : Prop where
  row : W.ownsRow w.heap.size 3 1 v out.length (out.map (Value.int .i64))
  bel : Below w.heap.size w W
theorem QI.call {w : World} {v : Value} {out : List Int} {W W' : World} (h : QI w v out W) (hb : Below W.heap.size W W') : QI w v out W' :=
  ⟨owns_kept h.row hb, h.bel.trans (hb.mono h.bel.size)⟩
theorem QI.append {w W W' : World} {v v' : Value} {out : List Int} {x : Int} {o : Obj} (h : QI w v out W) (hown : W'.ownsRow w.heap.size 3 1 v' (out.length + 1) (out.map (Value.int .i64) ++ [.int .i64 x])) (hg : (W.alloc o).grownBy W' v.ownBlock) : QI w v' (out ++ [x]) W' := by
  have hz := h.bel.size
  refine ⟨by rw [List.length_append, List.map_append]; exact hown, ?_⟩
  exact (h.bel.alloc hz _).grown hg (by simp; omega) (fun j e => (h.row.lt j e).1)
theorem QI.done {w : World} {v : Value} {out : List Int} {W : World} (h : QI w v out W) : NewI out w (.returned v) W := by
  obtain ⟨A, g, c, e, hg, _, ho⟩ := own_slicei h.row h.bel.size
  exact ⟨A, g, c, by rw [e], hg, ho, h.bel⟩

def missD (db other : List La) : List Int := if dbB db && dbB other then missL db other else []
theorem missB_find (zs : List Lz) (z : Lz) : missB (datL zs) z.d = match findZ zs z.o with
    | some x => decide (x.q < z.q)
    | none => true := by
  unfold missB
  rw [findZ_get]
  cases findZ zs z.o <;> rfl
theorem missL_next {zs os : List Lz} {k : Nat} {z : Lz} (h : os[k]? = some z) : (((datL os).take (k + 1)).filter (missB (datL zs))).map La.o = (((datL os).take k).filter (missB (datL zs))).map La.o ++ (if missB (datL zs) z.d = true then [z.o] else []) := by
  rw [filter_next (p := missB (datL zs)) h, List.map_append]
  congr 1
  split <;> rfl


end Go.Proofs.Ytimebipgiicmiac
