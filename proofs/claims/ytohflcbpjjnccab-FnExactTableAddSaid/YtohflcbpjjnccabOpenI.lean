/-
  What the walks are told of numbers that came in, as they lie in memory.
-/
import Derived.Test.YtohflcbpjjnccabA6
import Derived.Test.YtohflcbpjjnccabA8
namespace Go.Proofs.Ytohflcbpjjnccab
open Go.ChangeShapes Go.WideShapes Go.ChangeAt Go.RowKit Go.Joins Go.Deep
open Go.ChangeMaps (open_string shut_string)

section
variable {H : Type} {enc : TypeId × Value → H} {w : World} {base : Nat} {spare : Nat → Bool} {held : Bool}

theorem open_ints {fuel : Nat} {v : Value} {x : DataW H × List MemPlace} (h : DataW.trod enc Try.prog w base spare held fuel 23 [v] = some x) :
    ∃ (A : Option Addr) (ls : List Int) (c : Nat), v = .slice A ls.length c ∧ ls.length ≤ maxLen ∧ Sli w w.heap.size A ls := by
  rcases open_slice Try.underlying23 h with ⟨h0, _⟩ | ⟨a, len, cap, m, n, D, Pl, hcs, hb, hl, hm, hmm, hx, hi⟩
  · cases h0
    exact ⟨none, [], 0, rfl, by unfold maxLen; simp, fun k l hl => by simp at hl⟩
  · cases hcs
    rw [cellsI] at hi
    have hlm : len ≤ m := by rw [hmm]; split <;> omega
    have hex : ∀ i, ∃ l : Int, i < len → w.cell? (a.add (i * 1)) = some (.int .i64 l) := by
      intro i
      by_cases hil : i < len
      · obtain ⟨cs', hc, ht⟩ := hi i (by omega)
        obtain ⟨_, hlen, hat⟩ := World.cells?_some hc
        obtain ⟨c0, rfl⟩ : ∃ c0, cs' = [c0] := by
          match cs', hlen with
          | [c0], _ => exact ⟨c0, rfl⟩
        obtain ⟨l, e0, _, _⟩ := DataW.trod_int Try.underlying3 ht
        cases e0
        refine ⟨l, fun _ => ?_⟩
        have := hat 0 (by omega); simpa [Go.Deep.add_add] using this
      · exact ⟨0, fun h => absurd h hil⟩
    refine ⟨some a, (List.range len).map fun i => (hex i).choose, cap, by simp, by simp; omega, ?_⟩
    intro k l hkl
    have hk : k < len := by
      have := (List.getElem?_eq_some_iff.1 hkl).1
      simpa using this
    have hl2 : l = (hex k).choose := by
      rw [List.getElem?_map, List.getElem?_range hk] at hkl
      simpa using hkl.symm
    have h0 := (hex k).choose_spec hk
    rw [← hl2] at h0
    obtain ⟨b, off, spot⟩ := a
    have hs := World.cell?_spot ((hex 0).choose_spec (by omega))
    have hspot : spot = none := by simpa [Addr.add] using hs
    subst hspot
    have e : ∀ j, (⟨b, off, none⟩ : Addr).add j = ⟨b, off + j, none⟩ := fun j => by simp [Addr.add]
    rw [e, Nat.mul_one] at h0
    refine ⟨b, off, rfl, ?_, h0⟩
    unfold World.cell? at h0
    split at h0
    · rename_i hh
      exact (Array.getElem?_eq_some_iff.1 hh).1
    · cases h0
end

end Go.Proofs.Ytohflcbpjjnccab
