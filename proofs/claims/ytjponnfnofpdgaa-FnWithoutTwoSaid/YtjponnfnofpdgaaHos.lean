/-
  Contracts over this seat: the specification's NextHops.
-/
import Derived.Test.YtjponnfnofpdgaaUf
import Derived.Test.YtjponnfnofpdgaaB6
namespace Go.Proofs.Ytjponnfnofpdgaa
open Go.RowKit Go.Maps


theorem AL.call {w : World} {gv : Array Value} {g3 : Nat} {A3 : Option Addr} {xs : List Int} {v : Value} {out : List Int} {W W' : World} (h : AL w gv g3 A3 xs v out W) (hb : Below W.heap.size W W') : AL w gv g3 A3 xs v out W' :=
  ⟨owns_kept h.row hb, h.far, h.own.below hb, h.bel.trans (hb.mono h.bel.size), h.box.below hb h.box.lt, fun hp => Nat.lt_of_lt_of_le (h.lt3 hp) hb.size⟩
theorem AL.drew {w : World} {gv : Array Value} {g3 : Nat} {A3 : Option Addr} {xs : List Int} {v : Value} {out : List Int} {W : World} (h : AL w gv g3 A3 xs v out W) : AL w gv g3 A3 xs v out W.drew :=
  ⟨h.row, h.far, h.own, h.bel.drew, h.box, h.lt3⟩



end Go.Proofs.Ytjponnfnofpdgaa
