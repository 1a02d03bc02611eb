/-
  Contracts over this seat: the specification's DbGraph.
-/
import Derived.Test.YtimebipgiicmiabZh
import Derived.Test.YtimebipgiicmiabA7
namespace Go.Proofs.Ytimebipgiicmiab
open Go.RowKit Go.Maps

theorem lnkG_len (db : List La) (a b : Int) : (lnkG db a b).length ≤ 1 := by unfold lnkG; split <;> simp
theorem rowG_len (db : List La) (a k : Nat) : (rowG db a k).length ≤ k := by
  induction k with
  | zero => exact Nat.le_refl 0
  | succ k ih =>
    unfold rowG
    rw [List.length_append]
    have := lnkG_len db (a : Int) ((a + 1 + k : Nat) : Int)
    omega
theorem topG_len (db : List La) {m : Nat} (hm : m ≤ 8) (k : Nat) : (topG db m k).length ≤ k * 8 := by
  induction k with
  | zero => exact Nat.le_refl 0
  | succ k ih =>
    unfold topG
    rw [List.length_append]
    have := rowG_len db k (m - (k + 1))
    omega





end Go.Proofs.Ytimebipgiicmiab
