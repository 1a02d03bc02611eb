/-
  Both, of one graph: the program's and the specification's shortest paths.
-/
import Derived.Test.YtbhipfidkfnlpaaPth
namespace Go.Proofs.Ytbhipfidkfnlpaa
open Go.RowKit

theorem path_both (n : Int) (ls : List Lk) (x y : Int) (hm : ls.length ≤ 2000000) (hnu : n ≤ 9223372036854775807) :
    ∃ (rs : List Int), rs.length ≤ 1000 ∧
      (∀ (g c : Nat) (w : World), Sl w w.heap.size (some ⟨g, 0, none⟩) ls → Calls Try.prog 15 #[gval n (some ⟨g, 0, none⟩) ls.length c, .int .i64 x, .int .i64 y] w (NewI rs w)) ∧
      (∀ (g c : Nat) (w : World), Sl w w.heap.size (some ⟨g, 0, none⟩) ls → Calls Try.prog 13 #[gval n (some ⟨g, 0, none⟩) ls.length c, .int .i64 x, .int .i64 y] w (NewI rs w)) :=
  ⟨pathI n ls x y, by have := pathI_len n ls x y; omega, fun g c w hs => path_impl n _ ls c x y w hm hs, fun g c w hs => path_spec n _ ls c x y w hm hnu hs⟩
end Go.Proofs.Ytbhipfidkfnlpaa
