/-
  Contracts over this seat: the linked list of the labels of a path, whatever makes a part fit for a label, and its labels in a slice.
-/
import Derived.Test.YtenlofomkchlaaaC3
import Derived.Test.YtenlofomkchlaaaC1
namespace Go.Proofs.Ytenlofomkchlaaa
open Go.RowKit Go.Maps

/-- The piece of a slice. -/
theorem Sli.piece {w : World} {B b o : Nat} {xs : List Int} (h : Sli w B (some ⟨b, o, none⟩) xs) (i m : Nat) : Sli w B (some ⟨b, o + i, none⟩) ((xs.drop i).take m) := by
  intro k x hx
  have hk : k < m := by
    have := (List.getElem?_eq_some_iff.1 hx).1
    simp at this
    omega
  rw [List.getElem?_take_of_lt hk, List.getElem?_drop] at hx
  obtain ⟨b', o', e, hb, hc⟩ := h (i + k) x hx
  cases e
  exact ⟨b, o + i, rfl, hb, by rw [Nat.add_assoc]; exact hc⟩




/-! ### The list's labels -/



def slen : Value → Nat
  | .slice _ n _ => n
  | _ => 0


end Go.Proofs.Ytenlofomkchlaaa
