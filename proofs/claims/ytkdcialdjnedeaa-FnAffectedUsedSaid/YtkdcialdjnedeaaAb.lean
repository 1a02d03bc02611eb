/-
  Both, of one graph: DistancesAfter and Affected of the program and of the specification.
-/
import Derived.Test.YtkdcialdjnedeaaAs
namespace Go.Proofs.Ytkdcialdjnedeaa
open Go.RowKit

theorem aft_both (n : Int) (ls : List Lk) (x y z : Int) (hm : ls.length ≤ 2000000) (hnu : n ≤ 9223372036854775807) :
    ∃ (rs : List Int), rs.length ≤ 1000 ∧
      (∀ (g c : Nat) (w : World), Sl w w.heap.size (some ⟨g, 0, none⟩) ls → Calls Try.prog 15 #[gval n (some ⟨g, 0, none⟩) ls.length c, .int .i64 x, .int .i64 y, .int .i64 z] w (NewI rs w)) ∧
      (∀ (g c : Nat) (w : World), Sl w w.heap.size (some ⟨g, 0, none⟩) ls → Calls Try.prog 13 #[gval n (some ⟨g, 0, none⟩) ls.length c, .int .i64 x, .int .i64 y, .int .i64 z] w (NewI rs w)) :=
  ⟨aftL n ls x y z, by have := aftL_len8 n ls x y z; omega, fun g c w hs => aft_impl n _ ls c x y z w hm (fun _ => ⟨g, rfl⟩) hs, fun g c w hs => aft_spec n _ ls c x y z w hm (fun _ => ⟨g, rfl⟩) hnu hs⟩

theorem aff_both (n : Int) (ls : List Lk) (x y z : Int) (hm : ls.length ≤ 2000000) (hnu : n ≤ 9223372036854775807) :
    ∃ (rs : List Int), rs.length ≤ 1000 ∧
      (∀ (g c : Nat) (w : World), Sl w w.heap.size (some ⟨g, 0, none⟩) ls → Calls Try.prog 22 #[gval n (some ⟨g, 0, none⟩) ls.length c, .int .i64 x, .int .i64 y, .int .i64 z] w (NewI rs w)) ∧
      (∀ (g c : Nat) (w : World), Sl w w.heap.size (some ⟨g, 0, none⟩) ls → Calls Try.prog 21 #[gval n (some ⟨g, 0, none⟩) ls.length c, .int .i64 x, .int .i64 y, .int .i64 z] w (NewI rs w)) :=
  ⟨affL n ls x y z, by have := affL_len8 n ls x y z; omega, fun g c w hs => aff_impl n _ ls c x y z w hm (fun _ => ⟨g, rfl⟩) hs, fun g c w hs => aff_spec n _ ls c x y z w hm (fun _ => ⟨g, rfl⟩) hnu hs⟩
end Go.Proofs.Ytkdcialdjnedeaa
