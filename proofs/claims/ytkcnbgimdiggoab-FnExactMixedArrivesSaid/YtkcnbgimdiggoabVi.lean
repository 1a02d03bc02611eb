/-
  Contracts over this seat: what the laws of repairs draw.
-/
import Derived.Test.YtkcnbgimdiggoabVe
import Derived.Test.YtkcnbgimdiggoabDrawW
namespace Go.Proofs.Ytkcnbgimdiggoab
open Go.RowKit

theorem DI.call {w w1 w2 : World} {R Q G : Nat} {A : Option Addr} {len c : Nat} {f : Nat → Int} {P : Nat} {n : Int} {ls : List Lk} {A' : Option Addr} {g' c' : Nat} (h : DI w R Q G A len c f P n ls A' g' c' w1) (hb : Below w1.heap.size w1 w2) :
    DI w R Q G A len c f P n ls A' g' c' w2 := by
  obtain ⟨h1, h2, h3, h4, h5, h⟩ := h
  exact ⟨h1.below (hb.mono h1.lt), h2.below hb h2.lt, h3.below hb h3.lt, h4.below hb, h5.trans (hb.mono h5.size), h⟩
theorem DI.mono {w w1 : World} {R Q G : Nat} {A : Option Addr} {len c : Nat} {f : Nat → Int} {P P' : Nat} {n : Int} {ls : List Lk} {A' : Option Addr} {g' c' : Nat} (h : DI w R Q G A len c f P n ls A' g' c' w1) (hP : P ≤ P') : DI w R Q G A len c f P' n ls A' g' c' w1 := by
  obtain ⟨h1, h⟩ := h
  exact ⟨h1.mono hP, h⟩
theorem DI.own {w w1 : World} {R Q G : Nat} {A : Option Addr} {len c : Nat} {f : Nat → Int} {P : Nat} {n : Int} {ls : List Lk} {A' : Option Addr} {g' c' : Nat} (h : DI w R Q G A len c f P n ls A' g' c' w1) : Sl w1 w1.heap.size A' ls := h.2.2.2.1.sl





end Go.Proofs.Ytkcnbgimdiggoab
