/-
  Contracts over this seat: how the laws compare announcements.
-/
import Derived.Test.YtnkohgdfipgdoabZr
namespace Go.Proofs.Ytnkohgdfipgdoab
open Go.RowKit Go.Maps

deriving instance DecidableEq for Lb
deriving instance DecidableEq for La
theorem take_ne {α : Type} {xs ys : List α} {k : Nat} {x y : α} (hx : xs[k]? = some x) (hy : ys[k]? = some y) (h : x ≠ y) : xs ≠ ys := by
  rintro rfl
  rw [hx] at hy
  exact h (Option.some.inj hy)


theorem datL_ne {xs ys : List Lz} {k : Nat} {x y : Lz} (hx : xs[k]? = some x) (hy : ys[k]? = some y) (h : x.d ≠ y.d) : datL xs ≠ datL ys :=
  take_ne (k := k) (x := x.d) (y := y.d) (by unfold datL; rw [List.getElem?_map, hx]; rfl) (by unfold datL; rw [List.getElem?_map, hy]; rfl) h

theorem seqL_find (zs : List Lz) (o : Int) : seqL (datL zs) o = match findZ zs o with
    | some z => z.q
    | none => 0 := by
  unfold seqL
  rw [findZ_get]
  cases findZ zs o <;> rfl

end Go.Proofs.Ytnkohgdfipgdoab
