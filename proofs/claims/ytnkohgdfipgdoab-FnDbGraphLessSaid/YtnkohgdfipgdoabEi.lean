/-
  Contracts over this seat: what the exact laws do with lists of numbers, and with labels that are marked.
-/
import Derived.Test.YtnkohgdfipgdoabA8
import Derived.Test.YtnkohgdfipgdoabC1
namespace Go.Proofs.Ytnkohgdfipgdoab
open Go.RowKit

def MadeArri (xs : List Int) (w : World) (e : Ending) (w' : World) : Prop :=
  ∃ g, e = .returned (.slice (some ⟨g, 0, none⟩) xs.length xs.length) ∧ w.heap.size ≤ g ∧ Arri w' g xs ∧ Below w.heap.size w w'
def UptoJ (cs : Array Value) (xs : List Int) (k : Nat) : Prop := ∀ (j : Nat) (x : Int), j < k → xs[j]? = some x → cs[j]? = some (.int .i64 x)
theorem UptoJ.succ {cs : Array Value} {xs : List Int} {k : Nat} {x : Int} (h : UptoJ cs xs k) (hx : xs[k]? = some x) (hs : k < cs.size) : UptoJ (cs.setIfInBounds k (.int .i64 x)) xs (k + 1) := by
  intro j y hj hy
  simp only [Array.getElem?_setIfInBounds]
  by_cases e : j < k
  · rw [if_neg (by omega)]
    exact h j y e hy
  · obtain rfl : j = k := by omega
    rw [if_pos rfl, if_pos hs]
    rw [hx] at hy
    cases hy
    rfl


/-! ### Labels with marks -/
def markLs (k : Int) (n : Nat) : List Lb := (List.range n).map fun (j : Nat) => ⟨k + 2 * j, k + 2 * j + 1⟩
theorem markLs_len (k : Int) (n : Nat) : (markLs k n).length = n := by simp [markLs]
theorem markLs_at {k : Int} {n j : Nat} (h : j < n) : (markLs k n)[j]? = some ⟨k + 2 * j, k + 2 * j + 1⟩ := by simp [markLs, List.getElem?_range h]
def UptoL (cs : Array Value) (k : Int) (j : Nat) : Prop := ∀ i, i < j → cs[i * 2]? = some (.int .i64 (k + 2 * i)) ∧ cs[i * 2 + 1]? = some (.int .i64 (k + 2 * i + 1))
theorem UptoL.succ {cs : Array Value} {k : Int} {j : Nat} (h : UptoL cs k j) (hs : j * 2 + 1 < cs.size) : UptoL ((cs.setIfInBounds (j * 2) (.int .i64 (k + 2 * j))).setIfInBounds (j * 2 + 1) (.int .i64 (k + 2 * j + 1))) k (j + 1) := by
  intro i hi
  simp only [Array.getElem?_setIfInBounds, Array.size_setIfInBounds]
  by_cases e : i < j
  · rw [if_neg (by omega), if_neg (by omega), if_neg (by omega), if_neg (by omega)]
    exact h i e
  · obtain rfl : i = j := by omega
    rw [if_neg (by omega), if_pos rfl, if_pos (by omega), if_pos rfl, if_pos hs]
    exact ⟨rfl, rfl⟩





end Go.Proofs.Ytnkohgdfipgdoab
