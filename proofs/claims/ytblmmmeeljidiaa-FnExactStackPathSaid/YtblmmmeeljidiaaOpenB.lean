/-
  What the walks are told of labels that came in, as they lie in memory.
-/
import Derived.Test.YtblmmmeeljidiaaA6
import Derived.Test.YtblmmmeeljidiaaLb
namespace Go.Proofs.Ytblmmmeeljidiaa
open Go.ChangeShapes Go.WideShapes Go.ChangeAt Go.RowKit Go.Joins Go.Deep
open Go.ChangeMaps (open_string shut_string)

theorem cellsB : Try.prog.cellsOf 63 = 2 := by kernel_rfl
theorem list2 {α : Type} {l : List α} (h : l.length = 2) : ∃ a b, l = [a, b] := by
  match l, h with
  | [a, b], _ => exact ⟨a, b, rfl⟩

section
variable {H : Type} {enc : TypeId × Value → H} {w : World} {base : Nat} {spare : Nat → Bool} {held : Bool}

theorem open_label {fuel : Nat} {cs : List Value} {x : DataW H × List MemPlace} (h : DataW.trod enc Try.prog w base spare held fuel 63 cs = some x) :
    ∃ l : Lb, cs = [.int .i64 l.k, .int .i64 l.a] := by
  obtain ⟨xs, n, _, hx, hlen, hxl, hf⟩ := DataW.trod_struct Try.underlying63 h
  rw [cellsB] at hlen
  obtain ⟨c0, c1, rfl⟩ := list2 hlen
  obtain ⟨y0, y1, rfl⟩ := list2 hxl
  have h0 : DataW.trod enc Try.prog w base spare held n 3 (([c0, c1].drop 0).take (Try.prog.cellsOf 3)) = [y0, y1][0]? := hf 0 _ rfl
  have h1 : DataW.trod enc Try.prog w base spare held n 3 (([c0, c1].drop 1).take (Try.prog.cellsOf 3)) = [y0, y1][1]? := hf 1 _ rfl
  rw [cellsI] at h0 h1
  obtain ⟨a, e0, _, _⟩ := DataW.trod_int Try.underlying3 (show DataW.trod enc Try.prog w base spare held n 3 [c0] = some y0 from h0)
  obtain ⟨b, e1, _, _⟩ := DataW.trod_int Try.underlying3 (show DataW.trod enc Try.prog w base spare held n 3 [c1] = some y1 from h1)
  cases e0
  cases e1
  exact ⟨⟨a, b⟩, rfl⟩

theorem open_labels {fuel : Nat} {v : Value} {x : DataW H × List MemPlace} (h : DataW.trod enc Try.prog w base spare held fuel 25 [v] = some x) :
    ∃ (A : Option Addr) (ls : List Lb) (c : Nat), v = .slice A ls.length c ∧ ls.length ≤ maxLen ∧ Slb w w.heap.size A ls := by
  rcases open_slice Try.underlying25 h with ⟨h0, _⟩ | ⟨a, len, cap, m, n, D, Pl, hcs, hb, hl, hm, hmm, hx, hi⟩
  · cases h0
    exact ⟨none, [], 0, rfl, by unfold maxLen; simp, fun k l hl => by simp at hl⟩
  · cases hcs
    rw [cellsB] at hi
    have hlm : len ≤ m := by rw [hmm]; split <;> omega
    have hex : ∀ i, ∃ l : Lb, i < len → w.cell? (a.add (i * 2)) = some (.int .i64 l.k) ∧ w.cell? (a.add (i * 2 + 1)) = some (.int .i64 l.a) := by
      intro i
      by_cases hil : i < len
      · obtain ⟨cs', hc, ht⟩ := hi i (by omega)
        obtain ⟨l, rfl⟩ := open_label ht
        obtain ⟨_, _, hat⟩ := World.cells?_some hc
        refine ⟨l, fun _ => ⟨?_, ?_⟩⟩
        · have := hat 0 (by omega); simpa [Go.Deep.add_add] using this
        · have := hat 1 (by omega); simpa [Go.Deep.add_add] using this
      · exact ⟨⟨0, 0⟩, fun h => absurd h hil⟩
    refine ⟨some a, (List.range len).map fun i => (hex i).choose, cap, by simp, by simp; omega, ?_⟩
    intro k l hkl
    have hk : k < len := by
      have := (List.getElem?_eq_some_iff.1 hkl).1
      simpa using this
    have hl2 : l = (hex k).choose := by
      rw [List.getElem?_map, List.getElem?_range hk] at hkl
      simpa using hkl.symm
    obtain ⟨h0, h1⟩ := (hex k).choose_spec hk
    rw [← hl2] at h0 h1
    obtain ⟨b, off, spot⟩ := a
    have hs := World.cell?_spot ((hex 0).choose_spec (by omega)).1
    have hspot : spot = none := by simpa [Addr.add] using hs
    subst hspot
    have e : ∀ j, (⟨b, off, none⟩ : Addr).add j = ⟨b, off + j, none⟩ := fun j => by simp [Addr.add]
    rw [e] at h0 h1
    refine ⟨b, off, rfl, ?_, h0, h1⟩
    unfold World.cell? at h0
    split at h0
    · rename_i hh
      exact (Array.getElem?_eq_some_iff.1 hh).1
    · cases h0
end

end Go.Proofs.Ytblmmmeeljidiaa
