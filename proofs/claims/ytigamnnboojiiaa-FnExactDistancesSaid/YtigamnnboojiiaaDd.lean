/-
  Both, of one graph: the program's and the specification's distances.
-/
import Derived.Test.YtigamnnboojiiaaSe
import Derived.Test.YtigamnnboojiiaaOwnI
namespace Go.Proofs.Ytigamnnboojiiaa
open Go.RowKit

theorem dist_both (n : Int) (ls : List Lk) (x : Int) (hm : ls.length ≤ 2000000) (hnu : n ≤ 9223372036854775807) :
    ∃ (rs : List Int), rs.length ≤ 1000 ∧
      (∀ (g c : Nat) (w : World), Sl w w.heap.size (some ⟨g, 0, none⟩) ls → Calls Try.prog 23 #[gval n (some ⟨g, 0, none⟩) ls.length c, .int .i64 x] w (NewI rs w)) ∧
      (∀ (g c : Nat) (w : World), Sl w w.heap.size (some ⟨g, 0, none⟩) ls → Calls Try.prog 22 #[gval n (some ⟨g, 0, none⟩) ls.length c, .int .i64 x] w (NewI rs w)) :=
  ⟨distL n ls x, by have := distL_len n ls x; omega, fun g c w hs => dist_impl n _ ls c x w hm hs, fun g c w hs => dist_spec n _ ls c x w hm hnu hs⟩

end Go.Proofs.Ytigamnnboojiiaa
