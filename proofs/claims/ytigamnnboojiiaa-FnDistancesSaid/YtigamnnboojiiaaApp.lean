/-
  Over this seat: an array of links as a list of cells, and what an append onto a row of the call's own leaves; slices.Clone of links.
-/
import Derived.Test.YtigamnnboojiiaaMark
import Derived.Lib.LazyBuf
namespace Go.Proofs.Ytigamnnboojiiaa
open Go.RowKit

def flat : List Lk → List Value
  | [] => []
  | l :: ls => .int .i64 l.a :: .int .i64 l.b :: .int .i64 l.c :: flat ls
theorem flat_len (ls : List Lk) : (flat ls).length = ls.length * 3 := by
  induction ls with
  | nil => rfl
  | cons l ls ih => simp [flat, ih]; omega
theorem flat_append (xs ys : List Lk) : flat (xs ++ ys) = flat xs ++ flat ys := by
  induction xs with
  | nil => rfl
  | cons l ls ih => simp [flat, ih]
theorem flat_at (ls : List Lk) : ∀ (k : Nat) (l : Lk), ls[k]? = some l → (flat ls)[k * 3]? = some (.int .i64 l.a) ∧ (flat ls)[k * 3 + 1]? = some (.int .i64 l.b) ∧ (flat ls)[k * 3 + 2]? = some (.int .i64 l.c) := by
  induction ls with
  | nil => intro k l h; simp at h
  | cons x ls ih =>
    intro k l h
    cases k with
    | zero =>
      simp at h
      subst h
      exact ⟨rfl, rfl, rfl⟩
    | succ k =>
      obtain ⟨h1, h2, h3⟩ := ih k l (by simpa using h)
      rw [show (k + 1) * 3 = k * 3 + 1 + 1 + 1 by omega]
      exact ⟨h1, h2, h3⟩
theorem flat_inv (ls : List Lk) : ∀ (j : Nat) (u : Value), (flat ls)[j]? = some u → ∃ k l, ls[k]? = some l ∧ ((j = k * 3 ∧ u = .int .i64 l.a) ∨ (j = k * 3 + 1 ∧ u = .int .i64 l.b) ∨ (j = k * 3 + 2 ∧ u = .int .i64 l.c)) := by
  induction ls with
  | nil => intro j u h; simp [flat] at h
  | cons x ls ih =>
    intro j u h
    match j, h with
    | 0, h => exact ⟨0, x, rfl, .inl ⟨rfl, by simpa [flat] using h.symm⟩⟩
    | 1, h => exact ⟨0, x, rfl, .inr (.inl ⟨rfl, by simpa [flat] using h.symm⟩)⟩
    | 2, h => exact ⟨0, x, rfl, .inr (.inr ⟨rfl, by simpa [flat] using h.symm⟩)⟩
    | j + 3, h =>
      obtain ⟨k, l, hl, hc⟩ := ih j u (by simpa [flat] using h)
      refine ⟨k + 1, l, by simpa using hl, ?_⟩
      rcases hc with ⟨e, h⟩ | ⟨e, h⟩ | ⟨e, h⟩
      · exact .inl ⟨by omega, h⟩
      · exact .inr (.inl ⟨by omega, h⟩)
      · exact .inr (.inr ⟨by omega, h⟩)
theorem flat_one (ls : List Lk) : ∀ u ∈ flat ls, u.oneCell' = true := by
  intro u hu
  obtain ⟨j, hj⟩ := List.getElem?_of_mem hu
  obtain ⟨k, l, _, h | h | h⟩ := flat_inv ls j u hj
  · rw [h.2]; rfl
  · rw [h.2]; rfl
  · rw [h.2]; rfl

theorem Sl.flat {w : World} {B g off : Nat} {ls : List Lk} (h : Sl w B (some ⟨g, off, none⟩) ls) : ∀ j u, (flat ls)[j]? = some u → w.cell? ((⟨g, off, none⟩ : Addr).add j) = some u := by
  intro j u hj
  have e : ∀ j, (⟨g, off, none⟩ : Addr).add j = ⟨g, off + j, none⟩ := fun j => by
    unfold Addr.add
    by_cases h : j = 0 <;> simp [h]
  obtain ⟨k, l, hl, hc⟩ := flat_inv ls j u hj
  obtain ⟨b, o, he, _, h1, h2, h3⟩ := h k l hl
  cases he
  rw [e]
  rcases hc with ⟨rfl, rfl⟩ | ⟨rfl, rfl⟩ | ⟨rfl, rfl⟩
  · exact h1
  · exact h2
  · exact h3
theorem Sl.drop {w : World} {B g off : Nat} {ls : List Lk} (h : Sl w B (some ⟨g, off, none⟩) ls) (d : Nat) : Sl w B (some ⟨g, off + d * 3, none⟩) (ls.drop d) := by
  intro k l hl
  rw [List.getElem?_drop] at hl
  obtain ⟨b, o, he, hb, h1, h2, h3⟩ := h _ _ hl
  cases he
  refine ⟨g, off + d * 3, rfl, hb, ?_, ?_, ?_⟩
  · rw [show off + d * 3 + k * 3 = off + (d + k) * 3 by omega]; exact h1
  · rw [show off + d * 3 + k * 3 = off + (d + k) * 3 by omega]; exact h2
  · rw [show off + d * 3 + k * 3 = off + (d + k) * 3 by omega]; exact h3
theorem Sl.take {w : World} {B : Nat} {A : Option Addr} {ls : List Lk} (h : Sl w B A ls) (d : Nat) : Sl w B A (ls.take d) := by
  intro k l hl
  by_cases hk : k < d
  · rw [List.getElem?_take_of_lt hk] at hl
    exact h k l hl
  · rw [List.getElem?_eq_none (by simp; omega)] at hl
    cases hl

/-- A row of the call's own: nil, or at the head of a block from base on; Own1 at a block from base on. -/
theorem own_slice {w : World} {base n : Nat} {v : Value} {ls : List Lk} (h : w.ownsRow base 47 3 v n (flat ls)) (hb : base ≤ w.heap.size) :
    ∃ A g c, v = .slice A ls.length c ∧ base ≤ g ∧ n = ls.length ∧ Own1 w A g ls := by
  have hn : n = ls.length := by have := h.1; rw [flat_len] at this; omega
  subst hn
  rcases h.2 with ⟨rfl, h0⟩ | ⟨g, cap, cur, rfl, hbg, hh, hn, _, hs, ht⟩
  · exact ⟨none, w.heap.size, 0, by rw [h0], hb, rfl, fun hp => by omega⟩
  · refine ⟨_, g, cap, rfl, hbg, rfl, fun _ => ⟨rfl, cur, hh, fun k l hl => ?_⟩⟩
    have hk : k < ls.length := (List.getElem?_eq_some_iff.1 hl).1
    obtain ⟨h1, h2, h3⟩ := flat_at ls k l hl
    rw [← ht] at h1 h2 h3
    rw [List.getElem?_take_of_lt (by omega), Array.getElem?_toList] at h1 h2 h3
    exact ⟨h1, h2, h3⟩

/-- A slice of links in memory of its own. -/
def NewSl (ls : List Lk) (w : World) (e : Ending) (w' : World) : Prop :=
  ∃ A g c, e = .returned (.slice A ls.length c) ∧ w.heap.size ≤ g ∧ Own1 w' A g ls ∧ Below w.heap.size w w'


end Go.Proofs.Ytigamnnboojiiaa
