/-
  A contract over this seat: the specification's distances.
-/
import Derived.Test.YtohflcbpjjnccabA3
import Derived.Test.YtohflcbpjjnccabA9
import Derived.Deep.DeepCutAuto
namespace Go.Proofs.Ytohflcbpjjnccab
open Go.RowKit

def fl (n : Nat) (f : Int → Int) : List Int := (List.range n).map fun i : Nat => f (i : Int)
theorem fl_len (n : Nat) (f : Int → Int) : (fl n f).length = n := by simp [fl]
theorem fl_at {n : Nat} {f : Int → Int} {i : Nat} (h : i < n) : (fl n f)[i]? = some (f (i : Int)) := by simp [fl, h]
theorem Arri.cell {W : World} {g : Nat} {xs : List Int} (h : Arri W g xs) {i : Nat} {x : Int} (hx : xs[i]? = some x) : W.cell? ⟨g, i, none⟩ = some (.int .i64 x) := by
  obtain ⟨cs, hh, hc⟩ := h
  exact (cell_of_row W g i cs _ _ hh).trans (hc i x hx)
theorem Arri.frozen {W : World} {g : Nat} {xs : List Int} (h : Arri W g xs) (i : Nat) : W.frozen? ⟨g, i, none⟩ = false := by
  obtain ⟨cs, hh, _⟩ := h
  exact heap_frozen hh i
theorem Arri.set {W : World} {g n : Nat} {f : Int → Int} (h : Arri W g (fl n f)) {i : Nat} (x : Int) (hi : i < n) : Arri (W.setCell ⟨g, i, none⟩ (.int .i64 x)) g (fl n (upd f (i : Int) x)) := by
  obtain ⟨cs, hh, hc⟩ := h
  refine ⟨_, heap_set hh i _, fun k y hk => ?_⟩
  have hkn : k < n := by have := (List.getElem?_eq_some_iff.1 hk).1; rwa [fl_len] at this
  rw [fl_at hkn] at hk
  have hy := Option.some.inj hk
  have hsz := (Array.getElem?_eq_some_iff.1 (hc i _ (fl_at hi))).1
  rw [Array.getElem?_setIfInBounds]
  unfold upd at hy
  by_cases hki : i = k
  · subst hki
    rw [if_pos rfl] at hy
    rw [if_pos rfl, if_pos hsz, hy]
  · rw [if_neg (by omega)] at hy
    rw [if_neg hki, ← hy]
    exact hc k _ (fl_at hkn)

def Bd (f : Int → Int) (M : Int) : Prop := ∀ v, -1 ≤ f v ∧ f v ≤ M
theorem Bd.lower {f : Int → Int} {M : Int} (h : Bd f M) {u v e : Int} (h0 : 0 ≤ e) (he : e ≤ 20) (_hM : 0 ≤ M) : Bd (lower f u v e) (M + 20) := by
  intro x
  have hx := h x
  have hu := h u
  unfold Go.Proofs.Ytohflcbpjjnccab.lower
  split
  · unfold upd
    split <;> omega
  · omega








theorem Box.drewN {W : World} {b : Nat} {t : TypeId} {cs : Array Value} (h : Box W b t cs) (q : Nat) : Box (W.drewN q) b t cs := by
  induction q with
  | zero => exact h
  | succ q ih => exact ih

theorem foldl_take {f : Int → Int} {ls : List Lk} {i : Nat} {l : Lk} (h : ls[i]? = some l) : (ls.take (i + 1)).foldl relax f = relax ((ls.take i).foldl relax f) l := by
  rw [List.take_add_one, h, Option.toList_some, List.foldl_append]
  rfl


end Go.Proofs.Ytohflcbpjjnccab
