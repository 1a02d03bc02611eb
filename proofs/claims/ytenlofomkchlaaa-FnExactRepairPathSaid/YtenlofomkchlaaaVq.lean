/-
  What the exact laws of repairs ask of both sides.
-/
import Derived.Test.YtenlofomkchlaaaVp
namespace Go.Proofs.Ytenlofomkchlaaa
open Go.RowKit

theorem repairSafe_both (n : Int) (ls : List Lk) (x y : Int) (hm : ls.length ≤ 2000000) (hnu : n ≤ 9223372036854775807) :
    ∃ (rs : List Int), rs.length ≤ 1000 ∧
      (∀ (g c : Nat) (w : World), Sl w w.heap.size (some ⟨g, 0, none⟩) ls → Calls Try.prog 14 #[gval n (some ⟨g, 0, none⟩) ls.length c, .int .i64 x, .int .i64 y] w (NewI rs w)) ∧
      (∀ (g c : Nat) (w : World), Sl w w.heap.size (some ⟨g, 0, none⟩) ls → Calls Try.prog 12 #[gval n (some ⟨g, 0, none⟩) ls.length c, .int .i64 x, .int .i64 y] w (NewI rs w)) :=
  ⟨safeA n ls x y, by have := safeA_len8 n ls x y; omega, fun g c w hs => repSafe_impl n _ ls c x y w hm hs, fun g c w hs => repSafe_spec n _ ls c x y w hm hnu hs⟩
theorem repairNeeded_both (n : Int) (ls : List Lk) (x y : Int) (hm : ls.length ≤ 2000000) (hnu : n ≤ 9223372036854775807) :
    ∃ (rs : List Int), rs.length ≤ 1000 ∧
      (∀ (g c : Nat) (w : World), Sl w w.heap.size (some ⟨g, 0, none⟩) ls → Calls Try.prog 23 #[gval n (some ⟨g, 0, none⟩) ls.length c, .int .i64 x, .int .i64 y] w (NewI rs w)) ∧
      (∀ (g c : Nat) (w : World), Sl w w.heap.size (some ⟨g, 0, none⟩) ls → Calls Try.prog 22 #[gval n (some ⟨g, 0, none⟩) ls.length c, .int .i64 x, .int .i64 y] w (NewI rs w)) :=
  ⟨needA n ls x y, by have := needA_len8 n ls x y; omega, fun g c w hs => repNeed_impl n _ ls c x y w hm hs, fun g c w hs => repNeed_spec n _ ls c x y w hm hnu hs⟩
theorem repairPath_both (n : Int) (ls : List Lk) (x y z : Int) (hm : ls.length ≤ 2000000) (hnu : n ≤ 9223372036854775807) :
    ∃ (rs : List Int), rs.length ≤ 1000 ∧
      (∀ (g c : Nat) (w : World), Sl w w.heap.size (some ⟨g, 0, none⟩) ls → Calls Try.prog 21 #[gval n (some ⟨g, 0, none⟩) ls.length c, .int .i64 x, .int .i64 y, .int .i64 z] w (NewI rs w)) ∧
      (∀ (g : Nat) (w : World), Sl w w.heap.size (some ⟨g, 0, none⟩) ls → Calls Try.prog 20 #[gval n (some ⟨g, 0, none⟩) ls.length ls.length, .int .i64 x, .int .i64 y, .int .i64 z] w (NewI rs w)) :=
  ⟨rpP n ls x y z, by have := rpP_len n ls x y z; omega, fun g c w hs => repPath_impl n _ ls c x y z w hm (fun _ => ⟨g, rfl⟩) hs, fun g w hs => repPath_spec n _ ls _ x y z w hm hnu (fun _ => ⟨g, rfl⟩) (Nat.le_refl _) hs⟩



end Go.Proofs.Ytenlofomkchlaaa
