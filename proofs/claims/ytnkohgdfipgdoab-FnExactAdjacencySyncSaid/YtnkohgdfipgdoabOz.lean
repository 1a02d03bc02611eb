/-
  What the walks are told of announcements that came in, as they lie in memory.
-/
import Derived.Test.YtnkohgdfipgdoabA6
import Derived.Test.YtnkohgdfipgdoabZm
namespace Go.Proofs.Ytnkohgdfipgdoab
open Go.ChangeShapes Go.WideShapes Go.ChangeAt Go.RowKit Go.Joins Go.Deep
open Go.ChangeMaps (open_string shut_string)

theorem cellsEn : Try.prog.cellsOf 119 = 2 := by kernel_rfl
theorem cellsLz : Try.prog.cellsOf 66 = 3 := by kernel_rfl
theorem cellsSe : Try.prog.cellsOf 64 = 1 := by kernel_rfl
theorem list2e {α : Type} {l : List α} (h : l.length = 2) : ∃ a b, l = [a, b] := by
  match l, h with
  | [a, b], _ => exact ⟨a, b, rfl⟩
theorem list3e {α : Type} {l : List α} (h : l.length = 3) : ∃ a b c, l = [a, b, c] := by
  match l, h with
  | [a, b, c], _ => exact ⟨a, b, c, rfl⟩

section
variable {H : Type} {enc : TypeId × Value → H} {w : World} {base : Nat} {spare : Nat → Bool} {held : Bool}

theorem open_end {fuel : Nat} {cs : List Value} {x : DataW H × List MemPlace} (h : DataW.trod enc Try.prog w base spare held fuel 119 cs = some x) :
    ∃ l : Lb, cs = [.int .i64 l.k, .int .i64 l.a] := by
  obtain ⟨xs, n, _, hx, hlen, hxl, hf⟩ := DataW.trod_struct Try.underlying119 h
  rw [cellsEn] at hlen
  obtain ⟨c0, c1, rfl⟩ := list2e hlen
  obtain ⟨y0, y1, rfl⟩ := list2e hxl
  have h0 : DataW.trod enc Try.prog w base spare held n 3 (([c0, c1].drop 0).take (Try.prog.cellsOf 3)) = [y0, y1][0]? := hf 0 _ rfl
  have h1 : DataW.trod enc Try.prog w base spare held n 3 (([c0, c1].drop 1).take (Try.prog.cellsOf 3)) = [y0, y1][1]? := hf 1 _ rfl
  rw [cellsI] at h0 h1
  obtain ⟨a, e0, _, _⟩ := DataW.trod_int Try.underlying3 (show DataW.trod enc Try.prog w base spare held n 3 [c0] = some y0 from h0)
  obtain ⟨b, e1, _, _⟩ := DataW.trod_int Try.underlying3 (show DataW.trod enc Try.prog w base spare held n 3 [c1] = some y1 from h1)
  cases e0
  cases e1
  exact ⟨⟨a, b⟩, rfl⟩

theorem open_ends {fuel : Nat} {v : Value} {x : DataW H × List MemPlace} (h : DataW.trod enc Try.prog w base spare held fuel 64 [v] = some x) :
    ∃ (A : Option Addr) (ls : List Lb) (c : Nat), v = .slice A ls.length c ∧ ls.length ≤ maxLen ∧ Slb w w.heap.size A ls := by
  rcases open_slice Try.underlying64 h with ⟨h0, _⟩ | ⟨a, len, cap, m, n, D, Pl, hcs, hb, hl, hm, hmm, hx, hi⟩
  · cases h0
    exact ⟨none, [], 0, rfl, by unfold maxLen; simp, fun k l hl => by simp at hl⟩
  · cases hcs
    rw [cellsEn] at hi
    have hlm : len ≤ m := by rw [hmm]; split <;> omega
    have hex : ∀ i, ∃ l : Lb, i < len → w.cell? (a.add (i * 2)) = some (.int .i64 l.k) ∧ w.cell? (a.add (i * 2 + 1)) = some (.int .i64 l.a) := by
      intro i
      by_cases hil : i < len
      · obtain ⟨cs', hc, ht⟩ := hi i (by omega)
        obtain ⟨l, rfl⟩ := open_end ht
        obtain ⟨_, _, hat⟩ := World.cells?_some hc
        refine ⟨l, fun _ => ⟨?_, ?_⟩⟩
        · have := hat 0 (by omega); simpa [Go.Deep.add_add] using this
        · have := hat 1 (by omega); simpa [Go.Deep.add_add] using this
      · exact ⟨⟨0, 0⟩, fun h => absurd h hil⟩
    refine ⟨some a, (List.range len).map fun i => (hex i).choose, cap, by simp, by simp; omega, ?_⟩
    intro k l hkl
    have hk : k < len := by
      have := (List.getElem?_eq_some_iff.1 hkl).1
      simpa using this
    have hl2 : l = (hex k).choose := by
      rw [List.getElem?_map, List.getElem?_range hk] at hkl
      simpa using hkl.symm
    obtain ⟨h0, h1⟩ := (hex k).choose_spec hk
    rw [← hl2] at h0 h1
    obtain ⟨b, off, spot⟩ := a
    have hs := World.cell?_spot ((hex 0).choose_spec (by omega)).1
    have hspot : spot = none := by simpa [Addr.add] using hs
    subst hspot
    have e : ∀ j, (⟨b, off, none⟩ : Addr).add j = ⟨b, off + j, none⟩ := fun j => by simp [Addr.add]
    rw [e] at h0 h1
    refine ⟨b, off, rfl, ?_, h0, h1⟩
    unfold World.cell? at h0
    split at h0
    · rename_i hh
      exact (Array.getElem?_eq_some_iff.1 hh).1
    · cases h0

theorem open_lsaC {fuel : Nat} {cs : List Value} {x : DataW H × List MemPlace} (h : DataW.trod enc Try.prog w base spare held fuel 66 cs = some x) :
    ∃ z : Lz, cs = [.int .i64 z.o, .int .i64 z.q, .slice z.A z.es.length z.c] ∧ z.es.length ≤ maxLen ∧ Slb w w.heap.size z.A z.es := by
  obtain ⟨xs, n, _, hx, hlen, hxl, hf⟩ := DataW.trod_struct Try.underlying66 h
  rw [cellsLz] at hlen
  obtain ⟨c0, c1, c2, rfl⟩ := list3e hlen
  obtain ⟨y0, y1, y2, rfl⟩ := list3e hxl
  have h0 : DataW.trod enc Try.prog w base spare held n 3 (([c0, c1, c2].drop 0).take (Try.prog.cellsOf 3)) = [y0, y1, y2][0]? := hf 0 _ rfl
  have h1 : DataW.trod enc Try.prog w base spare held n 3 (([c0, c1, c2].drop 1).take (Try.prog.cellsOf 3)) = [y0, y1, y2][1]? := hf 1 _ rfl
  have h2 : DataW.trod enc Try.prog w base spare held n 64 (([c0, c1, c2].drop 2).take (Try.prog.cellsOf 64)) = [y0, y1, y2][2]? := hf 2 _ rfl
  rw [cellsI] at h0 h1
  rw [cellsSe] at h2
  obtain ⟨a, e0, _, _⟩ := DataW.trod_int Try.underlying3 (show DataW.trod enc Try.prog w base spare held n 3 [c0] = some y0 from h0)
  obtain ⟨b, e1, _, _⟩ := DataW.trod_int Try.underlying3 (show DataW.trod enc Try.prog w base spare held n 3 [c1] = some y1 from h1)
  obtain ⟨A, es, c, e2, hm, hs⟩ := open_ends (show DataW.trod enc Try.prog w base spare held n 64 [c2] = some y2 from h2)
  cases e0
  cases e1
  cases e2
  exact ⟨⟨a, b, es, A, c, 0⟩, rfl, hm, hs⟩

theorem open_lsas {fuel : Nat} {v : Value} {x : DataW H × List MemPlace} (h : DataW.trod enc Try.prog w base spare held fuel 24 [v] = some x) :
    ∃ (A : Option Addr) (zs : List Lz) (c : Nat), v = .slice A zs.length c ∧ zs.length ≤ maxLen ∧ (∀ z ∈ zs, z.es.length ≤ maxLen) ∧ Slz w w.heap.size A zs := by
  rcases open_slice Try.underlying24 h with ⟨h0, _⟩ | ⟨a, len, cap, m, n, D, Pl, hcs, hb, hl, hm, hmm, hx, hi⟩
  · cases h0
    exact ⟨none, [], 0, rfl, by unfold maxLen; simp, by simp, fun k l hl => by simp at hl⟩
  · cases hcs
    rw [cellsLz] at hi
    have hlm : len ≤ m := by rw [hmm]; split <;> omega
    have hex : ∀ i, ∃ l : Lz, i < len → (w.cell? (a.add (i * 3)) = some (.int .i64 l.o) ∧ w.cell? (a.add (i * 3 + 1)) = some (.int .i64 l.q) ∧ w.cell? (a.add (i * 3 + 2)) = some (.slice l.A l.es.length l.c)) ∧ l.es.length ≤ maxLen ∧ Slb w w.heap.size l.A l.es := by
      intro i
      by_cases hil : i < len
      · obtain ⟨cs', hc, ht⟩ := hi i (by omega)
        obtain ⟨l, rfl, hlm, hls⟩ := open_lsaC ht
        obtain ⟨_, _, hat⟩ := World.cells?_some hc
        refine ⟨l, fun _ => ⟨⟨?_, ?_, ?_⟩, hlm, hls⟩⟩
        · have := hat 0 (by omega); simpa [Go.Deep.add_add] using this
        · have := hat 1 (by omega); simpa [Go.Deep.add_add] using this
        · have := hat 2 (by omega); simpa [Go.Deep.add_add] using this
      · exact ⟨⟨0, 0, [], none, 0, 0⟩, fun h => absurd h hil⟩
    refine ⟨some a, (List.range len).map fun i => (hex i).choose, cap, by simp, by simp; omega, ?_, ?_⟩
    · intro z hz
      obtain ⟨i, hil, rfl⟩ := List.mem_map.1 hz
      exact ((hex i).choose_spec (by simpa using hil)).2.1
    intro k l hkl
    have hk : k < len := by
      have := (List.getElem?_eq_some_iff.1 hkl).1
      simpa using this
    have hl2 : l = (hex k).choose := by
      rw [List.getElem?_map, List.getElem?_range hk] at hkl
      simpa using hkl.symm
    obtain ⟨⟨h0, h1, h2⟩, -, h3⟩ := (hex k).choose_spec hk
    rw [← hl2] at h0 h1 h2 h3
    obtain ⟨b, off, spot⟩ := a
    have hs := World.cell?_spot ((hex 0).choose_spec (by omega)).1.1
    have hspot : spot = none := by simpa [Addr.add] using hs
    subst hspot
    have e : ∀ j, (⟨b, off, none⟩ : Addr).add j = ⟨b, off + j, none⟩ := fun j => by simp [Addr.add]
    rw [e] at h0 h1 h2
    refine ⟨b, off, rfl, ?_, h0, h1, h2, h3⟩
    unfold World.cell? at h0
    split at h0
    · rename_i hh
      exact (Array.getElem?_eq_some_iff.1 hh).1
    · cases h0
end

end Go.Proofs.Ytnkohgdfipgdoab
