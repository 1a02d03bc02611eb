/-
  Contracts over this seat: GraphIsolate and GraphWithout, of the program: 'keep' with the two tests.
-/
import Derived.Test.YtohflcbpjjnccabA2
import Derived.Deep.AppendLies
namespace Go.Proofs.Ytohflcbpjjnccab
open Go.RowKit




/-- The links that pass, among the first k. -/
def keepTo (T : Nat → Lk → Bool) (ls : List Lk) : Nat → List Lk
  | 0 => []
  | k + 1 => keepTo T ls k ++ (match ls[k]? with
    | some l => if T k l = true then [l] else []
    | none => [])
theorem keepTo_len (T : Nat → Lk → Bool) (ls : List Lk) (k : Nat) : (keepTo T ls k).length ≤ k := by
  induction k with
  | zero => simp [keepTo]
  | succ k ih =>
    simp only [keepTo, List.length_append]
    split
    · split <;> simp <;> omega
    · simp; omega
theorem keepTo_hit {T : Nat → Lk → Bool} {ls : List Lk} {k : Nat} {l : Lk} (h : ls[k]? = some l) (ht : T k l = true) : keepTo T ls (k + 1) = keepTo T ls k ++ [l] := by
  simp [keepTo, h, ht]
theorem keepTo_miss {T : Nat → Lk → Bool} {ls : List Lk} {k : Nat} {l : Lk} (h : ls[k]? = some l) (ht : T k l = false) : keepTo T ls (k + 1) = keepTo T ls k := by
  simp [keepTo, h, ht]

theorem new3l (w : World) (x y z : Value) (t : TypeId) : ∀ j u, [x, y, z][j]? = some u → (w.alloc (.cells #[x, y, z] t)).cell? ((⟨w.heap.size, 0, none⟩ : Addr).add j) = some u := by
  intro j u h
  have e : (⟨w.heap.size, 0, none⟩ : Addr).add j = ⟨w.heap.size, j, none⟩ := by
    unfold Addr.add
    by_cases hj : j = 0 <;> simp [hj]
  rw [e, (Box.new w t #[x, y, z]).cell j]
  simpa using h
theorem one3l (x y z : Int) : ∀ u ∈ [Value.int .i64 x, Value.int .i64 y, Value.int .i64 z], u.oneCell' = true := by
  intro u hu
  simp at hu
  rcases hu with rfl | rfl | rfl <;> rfl
theorem owns_below {w w' : World} {base e size n : Nat} {v : Value} {xs : List Value} (h : w.ownsRow base e size v n xs) (hb : Below w.heap.size w w') : w'.ownsRow base e size v n xs :=
  h.kept ⟨hb.os, hb.tape, hb.output, hb.size, fun k hk _ => hb.block k hk⟩ (row := none) (by
    by_cases h : v.ownBlock = none
    · exact .inl h
    · exact .inr h)



/-- Whether the graph is valid and has the link. -/
def withoutOk (n : Int) (ls : List Lk) (x : Int) : Bool := gvB n ls && inB x 0 ((ls.length : Int) - 1)


/-- Whether the graph is valid and has the node. -/
def isolateOk (n : Int) (ls : List Lk) (x : Int) : Bool := gvB n ls && inB x 0 (n - 1)


end Go.Proofs.Ytohflcbpjjnccab

/-
  Contracts over this seat: the specification's GraphIsolate.
-/
namespace Go.Proofs.Ytohflcbpjjnccab
open Go.RowKit

theorem own_box_ne2 {w : World} {base e size n : Nat} {v : Value} {xs : List Value} {g t : Nat} {cs : Array Value} (h : w.ownsRow base e size v n xs) (hg : Box w g t cs) (hne : e ≠ t) : v.ownBlock ≠ some g := by
  rcases h.2 with ⟨rfl, _⟩ | ⟨g', cap, cur, rfl, _, hh, _⟩
  · simp [Value.ownBlock]
  · intro he
    have : g' = g := by simpa [Value.ownBlock] using he
    subst this
    unfold Box at hg
    rw [hh] at hg
    injection hg with hg
    injection hg with _ ht
    exact hne ht


theorem gvB_n {n : Int} {ls : List Lk} (h : gvB n ls = true) : 1 ≤ n ∧ n ≤ 8 ∧ ls.length ≤ 14 := by
  unfold gvB inB at h
  simp at h
  omega






end Go.Proofs.Ytohflcbpjjnccab

/-
  Contracts over this seat: GraphIsolate, the program's and the specification's, wherever the links lie.
-/
namespace Go.Proofs.Ytohflcbpjjnccab
open Go.RowKit



end Go.Proofs.Ytohflcbpjjnccab

/-
  A contract over this seat: sameGraph of the same graphs.
-/
namespace Go.Proofs.Ytohflcbpjjnccab
open Go.RowKit


end Go.Proofs.Ytohflcbpjjnccab
