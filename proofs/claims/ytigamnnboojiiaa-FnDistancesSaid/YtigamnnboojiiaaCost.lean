/-
  Contracts over this seat: GraphCost, of the program and of the specification.
-/
import Derived.Test.YtigamnnboojiiaaApp
import Derived.Test.YtigamnnboojiiaaBox
namespace Go.Proofs.Ytigamnnboojiiaa
open Go.RowKit

/-- A graph and a Boolean, the graph's links in memory of its own. -/
def GRes (m : Int) (ls : List Lk) (ok : Bool) (w : World) (e : Ending) (w' : World) : Prop :=
  ∃ A g c, e = .returned (.tuple #[gval m A ls.length c, .bool ok]) ∧ w.heap.size ≤ g ∧ Own1 w' A g ls ∧ Below w.heap.size w w'


def costOk (n : Int) (ls : List Lk) (x cost : Int) : Bool := gvB n ls && inB x 0 ((ls.length : Int) - 1) && inB cost 1 20
def costLs (ls : List Lk) (x : Nat) (cost : Int) : List Lk := match ls[x]? with
  | some l => ls.set x ⟨l.a, l.b, cost⟩
  | none => ls
theorem costLs_len (ls : List Lk) (x : Nat) (cost : Int) : (costLs ls x cost).length = ls.length := by
  unfold costLs; split <;> simp

theorem Own1.setCost {w : World} {A : Option Addr} {g : Nat} {ls : List Lk} (h : Own1 w A g ls) {x : Nat} (hx : x < ls.length) (cost : Int) :
    Own1 (w.setCell ⟨g, x * 3 + 2, none⟩ (.int .i64 cost)) A g (costLs ls x cost) := fun hp => by
  rw [costLs_len] at hp
  obtain ⟨e, cs, hh, hc⟩ := h hp
  obtain ⟨l, hl⟩ : ∃ l, ls[x]? = some l := ⟨_, List.getElem?_eq_getElem hx⟩
  refine ⟨e, _, heap_set hh _ _, fun k m hk => ?_⟩
  have hs := (Array.getElem?_eq_some_iff.1 (hc x l hl).2.2).1
  unfold costLs at hk
  rw [hl] at hk
  simp only [Array.getElem?_setIfInBounds]
  by_cases hkx : x = k
  · subst hkx
    have hm : m = ⟨l.a, l.b, cost⟩ := by simpa [hx] using hk.symm
    subst hm
    obtain ⟨h1, h2, h3⟩ := hc x l hl
    refine ⟨?_, ?_, ?_⟩
    · rw [if_neg (by omega)]; exact h1
    · rw [if_neg (by omega)]; exact h2
    · rw [if_pos rfl, if_pos hs]
  · have hk' : ls[k]? = some m := by simpa [List.getElem?_set, hkx] using hk
    obtain ⟨h1, h2, h3⟩ := hc k m hk'
    refine ⟨?_, ?_, ?_⟩
    · rw [if_neg (by omega)]; exact h1
    · rw [if_neg (by omega)]; exact h2
    · rw [if_neg (by omega)]; exact h3

theorem Own1.set_far {w : World} {A : Option Addr} {g : Nat} {ls : List Lk} (h : Own1 w A g ls) {p : Addr} (hp : g ≠ p.block) (u : Value) : Own1 (w.setCell p u) A g ls := fun hl => by
  obtain ⟨e, ha⟩ := h hl
  exact ⟨e, ha.far hp u⟩


end Go.Proofs.Ytigamnnboojiiaa
