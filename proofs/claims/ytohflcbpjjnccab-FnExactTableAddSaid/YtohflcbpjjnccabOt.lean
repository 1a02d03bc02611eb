/-
  What the walks are told of routes that came in, as they lie in memory.
-/
import Derived.Test.YtohflcbpjjnccabA6
namespace Go.Proofs.Ytohflcbpjjnccab
open Go.ChangeShapes Go.WideShapes Go.ChangeAt Go.RowKit Go.Joins Go.Deep
open Go.ChangeMaps (open_string shut_string)

theorem cellsRt : Try.prog.cellsOf 35 = 3 := by kernel_rfl

section
variable {H : Type} {enc : TypeId × Value → H} {w : World} {base : Nat} {spare : Nat → Bool} {held : Bool}

theorem open_rt {fuel : Nat} {cs : List Value} {x : DataW H × List MemPlace} (h : DataW.trod enc Try.prog w base spare held fuel 35 cs = some x) :
    ∃ l : Lk, cs = [.int .i64 l.a, .int .i64 l.b, .int .i64 l.c] := by
  obtain ⟨xs, n, _, hx, hlen, hxl, hf⟩ := DataW.trod_struct Try.underlying35 h
  rw [cellsRt] at hlen
  obtain ⟨c0, c1, c2, rfl⟩ := list3 hlen
  obtain ⟨y0, y1, y2, rfl⟩ := list3 hxl
  have h0 : DataW.trod enc Try.prog w base spare held n 3 (([c0, c1, c2].drop 0).take (Try.prog.cellsOf 3)) = [y0, y1, y2][0]? := hf 0 _ rfl
  have h1 : DataW.trod enc Try.prog w base spare held n 3 (([c0, c1, c2].drop 1).take (Try.prog.cellsOf 3)) = [y0, y1, y2][1]? := hf 1 _ rfl
  have h2 : DataW.trod enc Try.prog w base spare held n 3 (([c0, c1, c2].drop 2).take (Try.prog.cellsOf 3)) = [y0, y1, y2][2]? := hf 2 _ rfl
  rw [cellsI] at h0 h1 h2
  obtain ⟨a, e0, _, _⟩ := DataW.trod_int Try.underlying3 (show DataW.trod enc Try.prog w base spare held n 3 [c0] = some y0 from h0)
  obtain ⟨b, e1, _, _⟩ := DataW.trod_int Try.underlying3 (show DataW.trod enc Try.prog w base spare held n 3 [c1] = some y1 from h1)
  obtain ⟨c, e2, _, _⟩ := DataW.trod_int Try.underlying3 (show DataW.trod enc Try.prog w base spare held n 3 [c2] = some y2 from h2)
  cases e0
  cases e1
  cases e2
  exact ⟨⟨a, b, c⟩, rfl⟩

theorem open_rts {fuel : Nat} {v : Value} {x : DataW H × List MemPlace} (h : DataW.trod enc Try.prog w base spare held fuel 22 [v] = some x) :
    ∃ (A : Option Addr) (ls : List Lk) (c : Nat), v = .slice A ls.length c ∧ ls.length ≤ maxLen ∧ Sl w w.heap.size A ls := by
  rcases open_slice Try.underlying22 h with ⟨h0, _⟩ | ⟨a, len, cap, m, n, D, Pl, hcs, hb, hl, hm, hmm, hx, hi⟩
  · cases h0
    exact ⟨none, [], 0, rfl, by unfold maxLen; simp, fun k l hl => by simp at hl⟩
  · cases hcs
    rw [cellsRt] at hi
    have hlm : len ≤ m := by rw [hmm]; split <;> omega
    have hex : ∀ i, ∃ l : Lk, i < len → w.cell? (a.add (i * 3)) = some (.int .i64 l.a) ∧ w.cell? (a.add (i * 3 + 1)) = some (.int .i64 l.b) ∧ w.cell? (a.add (i * 3 + 2)) = some (.int .i64 l.c) := by
      intro i
      by_cases hil : i < len
      · obtain ⟨cs', hc, ht⟩ := hi i (by omega)
        obtain ⟨l, rfl⟩ := open_rt ht
        obtain ⟨_, _, hat⟩ := World.cells?_some hc
        refine ⟨l, fun _ => ⟨?_, ?_, ?_⟩⟩
        · have := hat 0 (by omega); simpa [Go.Deep.add_add] using this
        · have := hat 1 (by omega); simpa [Go.Deep.add_add] using this
        · have := hat 2 (by omega); simpa [Go.Deep.add_add] using this
      · exact ⟨⟨0, 0, 0⟩, fun h => absurd h hil⟩
    refine ⟨some a, (List.range len).map fun i => (hex i).choose, cap, by simp, by simp; omega, ?_⟩
    intro k l hkl
    have hk : k < len := by
      have := (List.getElem?_eq_some_iff.1 hkl).1
      simpa using this
    have hl2 : l = (hex k).choose := by
      rw [List.getElem?_map, List.getElem?_range hk] at hkl
      simpa using hkl.symm
    obtain ⟨h0, h1, h2⟩ := (hex k).choose_spec hk
    rw [← hl2] at h0 h1 h2
    obtain ⟨b, off, spot⟩ := a
    have hs := World.cell?_spot ((hex 0).choose_spec (by omega)).1
    have hspot : spot = none := by simpa [Addr.add] using hs
    subst hspot
    have e : ∀ j, (⟨b, off, none⟩ : Addr).add j = ⟨b, off + j, none⟩ := fun j => by simp [Addr.add]
    rw [e] at h0 h1 h2
    refine ⟨b, off, rfl, ?_, h0, h1, h2⟩
    unfold World.cell? at h0
    split at h0
    · rename_i hh
      exact (Array.getElem?_eq_some_iff.1 hh).1
    · cases h0
end

end Go.Proofs.Ytohflcbpjjnccab
