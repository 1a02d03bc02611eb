/-
  A contract over this seat: the draw of two lists of announcements.
-/
import Derived.Test.YtnkohgdfipgdoabZs
namespace Go.Proofs.Ytnkohgdfipgdoab
open Go.RowKit Go.Maps

abbrev Lz.setQ (z : Lz) (q : Int) : Lz := ⟨z.o, q, z.es, z.A, z.c, z.g⟩
theorem flatZ_set (q : Int) : ∀ (zs : List Lz) (k : Nat) (z : Lz), zs[k]? = some z → flatZ (zs.set k (z.setQ q)) = (flatZ zs).set (k * 3 + 1) (.int .i64 q)
  | [], k, z, h => by simp at h
  | x :: zs, 0, z, h => by
    simp at h
    subst h
    rfl
  | x :: zs, k + 1, z, h => by
    have := flatZ_set q zs k z (by simpa using h)
    rw [show (k + 1) * 3 + 1 = k * 3 + 1 + 1 + 1 + 1 by omega]
    simp only [List.set_cons_succ, flatZ, this]
theorem set_gs {zs : List Lz} {k : Nat} {z : Lz} {q : Int} (hk : zs[k]? = some z) (i : Nat) (x : Lz) (h : (zs.set k (z.setQ q))[i]? = some x) : ∃ y, zs[i]? = some y ∧ y.g = x.g ∧ y.es = x.es ∧ y.A = x.A ∧ y.c = x.c := by
  rw [List.getElem?_set] at h
  split at h
  · rename_i e
    subst e
    split at h
    · cases h
      exact ⟨z, hk, rfl, rfl, rfl, rfl⟩
    · cases h
  · exact ⟨x, h, rfl, rfl, rfl, rfl⟩
/-- Another sequence number in a row of a call's own. -/
theorem ZI.setQ {B g c : Nat} {zs : List Lz} {W : World} (h : ZI B (.slice (some ⟨g, 0, none⟩) zs.length c) zs W) {k : Nat} {z : Lz} (hk : zs[k]? = some z) (q : Int) : ZI B (.slice (some ⟨g, 0, none⟩) zs.length c) (zs.set k (z.setQ q)) (W.setCell ⟨g, k * 3 + 1, none⟩ (.int .i64 q)) := by
  obtain ⟨hrow, hinn, hdis⟩ := h
  obtain ⟨hl, hr⟩ := hrow
  rcases hr with ⟨he, _⟩ | ⟨g', cap, cur, he, hbg, hh, hn, h9, hs, ht⟩
  · cases he
  · cases he
    refine ⟨?_, fun x hx => ?_, ?_⟩
    · rw [List.length_set]
      refine ⟨by rw [flatZ_len, List.length_set], .inr ⟨g, c, cur.setIfInBounds (k * 3 + 1) (.int .i64 q), rfl, hbg, heap_set hh _ _, hn, h9, by simpa using hs, ?_⟩⟩
      rw [flatZ_set q zs k z hk, Array.toList_setIfInBounds, List.take_set, ht]
    · obtain ⟨i, hi⟩ := List.getElem?_of_mem hx
      obtain ⟨y, hy, e1, e2, e3, e4⟩ := set_gs hk i x hi
      obtain ⟨h1, h2, h3⟩ := hinn y (List.mem_of_getElem? hy)
      rw [e1] at h1 h2
      rw [e2] at h1 h3
      rw [e3] at h1
      rw [e4] at h3
      refine ⟨fun hp => ?_, h2, h3⟩
      obtain ⟨e, cs, hh', hc⟩ := h1 hp
      have hne : x.g ≠ g := by
        intro e
        rw [e, hh] at hh'
        injection hh' with hh'
        injection hh' with _ h2
        exact absurd h2 (by decide)
      exact ⟨e, cs, (Below.heap_setCell W ⟨g, k * 3 + 1, none⟩ _ x.g hne).trans hh', hc⟩
    · rw [List.pairwise_iff_getElem]
      intro i j hi hj hij h1 h2
      obtain ⟨y, hy, e1, e2, _⟩ := set_gs hk i _ (List.getElem?_eq_getElem hi)
      obtain ⟨u, hu, f1, f2, _⟩ := set_gs hk j _ (List.getElem?_eq_getElem hj)
      rw [← e1, ← f1]
      rw [← e2] at h1
      rw [← f2] at h2
      obtain ⟨hi', rfl⟩ := List.getElem?_eq_some_iff.1 hy
      obtain ⟨hj', rfl⟩ := List.getElem?_eq_some_iff.1 hu
      exact List.pairwise_iff_getElem.1 hdis i j hi' hj' hij h1 h2
theorem ZL.setQ {w W : World} {R : Nat} {A : Option Addr} {len c : Nat} {f : Nat → Int} {P g n : Nat} {zs : List Lz} (h : ZL w R A len c f P (.slice (some ⟨g, 0, none⟩) zs.length n) zs W) (hRw : R < w.heap.size) (hg : w.heap.size ≤ g) {k : Nat} {z : Lz} (hk : zs[k]? = some z) (q : Int) :
    ZL w R A len c f P (.slice (some ⟨g, 0, none⟩) zs.length n) (zs.set k (z.setQ q)) (W.setCell ⟨g, k * 3 + 1, none⟩ (.int .i64 q)) :=
  ⟨h.rd.set (q := ⟨g, k * 3 + 1, none⟩) (by show R < g; omega) _, h.row.setQ hk q, grown_setFar h.gr (p := ⟨g, k * 3 + 1, none⟩) hg _⟩
theorem ZI.at {B g n c : Nat} {zs : List Lz} {W : World} (h : ZI B (.slice (some ⟨g, 0, none⟩) n c) zs W) {k : Nat} {z : Lz} (hk : zs[k]? = some z) : g < W.heap.size ∧ W.cell? ⟨g, k * 3 + 1, none⟩ = some (.int .i64 z.q) ∧ W.frozen? ⟨g, k * 3 + 1, none⟩ = false ∧ B ≤ g := by
  rcases h.row.2 with ⟨e, _⟩ | ⟨g', cap, cs, e, hbg, hh, hn, _, hs, ht⟩
  · cases e
  cases e
  have hkl := (List.getElem?_eq_some_iff.1 hk).1
  refine ⟨heap_lt hh, ?_, heap_frozen hh _, hbg⟩
  obtain ⟨h1, h2, h3⟩ := flatZ_at zs k z hk
  rw [← ht] at h2
  rw [List.getElem?_take_of_lt (by omega), Array.getElem?_toList] at h2
  rw [cell_of_row W g _ cs _ _ hh]
  exact h2
theorem ZL.drew {w w1 : World} {R : Nat} {A : Option Addr} {len c : Nat} {f : Nat → Int} {P : Nat} {v : Value} {zs : List Lz} (h : ZL w R A len c f P v zs w1) : ZL w R A len c f P v zs w1.drew := by
  obtain ⟨⟨p, hp, hx, hB⟩, h2, h5⟩ := h
  exact ⟨⟨p, hp, hx, hB⟩, h2.drew, ⟨h5.os, h5.tape, h5.output, h5.size, h5.block⟩⟩
/-- Two drawn lists. -/
def MrgX (w : World) (e : Ending) (w' : World) : Prop := ∃ (zs : List Lz) (A : Option Addr) (c : Nat) (os : List Lz) (B : Option Addr) (cb b0 : Nat), e = .returned (.tuple #[.slice A zs.length c, .slice B os.length cb]) ∧ zs.length ≤ 9 ∧ os.length ≤ 9 ∧ (∀ x ∈ zs, x.es.length ≤ 8) ∧ (∀ x ∈ os, x.es.length ≤ 8) ∧
  ZI w.heap.size (.slice A zs.length c) zs w' ∧ w.heap.size ≤ b0 ∧ ZI b0 (.slice B os.length cb) os w' ∧ (∀ x ∈ zs, 0 < x.es.length → x.g < b0) ∧ (∀ j, (Value.slice A zs.length c).ownBlock = some j → j < b0) ∧ Below w.heap.size w w'


end Go.Proofs.Ytnkohgdfipgdoab
