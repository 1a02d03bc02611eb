/-
  Both, of one graph: Critical of the program and of the specification.
-/
import Derived.Test.YtjponnfnofpdgaaCri
namespace Go.Proofs.Ytjponnfnofpdgaa
open Go.RowKit

theorem crit_both (n : Int) (ls : List Lk) (hm : ls.length ≤ 2000000) (hnu : n ≤ 9223372036854775807) :
    ∃ (rs : List Int), rs.length ≤ 1000 ∧
      (∀ (g c : Nat) (w : World), Sl w w.heap.size (some ⟨g, 0, none⟩) ls → Calls Try.prog 14 #[gval n (some ⟨g, 0, none⟩) ls.length c] w (NewI rs w)) ∧
      (∀ (g : Nat) (w : World), Sl w w.heap.size (some ⟨g, 0, none⟩) ls → Calls Try.prog 12 #[gval n (some ⟨g, 0, none⟩) ls.length ls.length] w (NewI rs w)) :=
  ⟨critL n ls, by have := critL_len n ls; omega, fun g c w hs => crit_impl n _ ls c w hm (fun _ => ⟨g, rfl⟩) hs, fun g w hs => crit_spec n _ ls _ w hm (fun _ => ⟨g, rfl⟩) (Nat.le_refl _) hnu hs⟩
end Go.Proofs.Ytjponnfnofpdgaa
