/-
  Contracts over this seat: GraphIsolate and GraphWithout, of the program: 'keep' with the two tests.
-/
import Derived.Test.YtenlofomkchlaacA2
import Derived.Deep.AppendLies
namespace Go.Proofs.Ytenlofomkchlaac
open Go.RowKit

theorem touches_any2 (l : Lk) (n : Int) (w : World) :
   Calls Try.prog 101 #[l.v, .int .i64 n] w fun e w' => e = .returned (.bool (decide (l.a = n) || decide (l.b = n))) ∧ Below w.heap.size w w' := by
  go_enter Try.func101, Try.ntmps101
  go_wp2
  all_goals
    go_ret
    exact ⟨ret_bool (by rw [Bool.eq_iff_iff]; simp_all), by (repeat (first | exact Below.refl _ _ | (refine Below.alloc ?_ (by first | exact Nat.le_refl _ | omega | (simp; done) | (simp; omega)) _) | (refine Below.setCell ?_ (by first | exact Nat.le_refl _ | omega | (simp; done) | (simp; omega)) _) | exact Below.drew ‹_›))⟩



/-- The links that pass, among the first k. -/
def keepTo (T : Nat → Lk → Bool) (ls : List Lk) : Nat → List Lk
  | 0 => []
  | k + 1 => keepTo T ls k ++ (match ls[k]? with
    | some l => if T k l = true then [l] else []
    | none => [])
theorem keepTo_len (T : Nat → Lk → Bool) (ls : List Lk) (k : Nat) : (keepTo T ls k).length ≤ k := by
  induction k with
  | zero => simp [keepTo]
  | succ k ih =>
    simp only [keepTo, List.length_append]
    split
    · split <;> simp <;> omega
    · simp; omega
theorem keepTo_hit {T : Nat → Lk → Bool} {ls : List Lk} {k : Nat} {l : Lk} (h : ls[k]? = some l) (ht : T k l = true) : keepTo T ls (k + 1) = keepTo T ls k ++ [l] := by
  simp [keepTo, h, ht]
theorem keepTo_miss {T : Nat → Lk → Bool} {ls : List Lk} {k : Nat} {l : Lk} (h : ls[k]? = some l) (ht : T k l = false) : keepTo T ls (k + 1) = keepTo T ls k := by
  simp [keepTo, h, ht]

theorem new3l (w : World) (x y z : Value) (t : TypeId) : ∀ j u, [x, y, z][j]? = some u → (w.alloc (.cells #[x, y, z] t)).cell? ((⟨w.heap.size, 0, none⟩ : Addr).add j) = some u := by
  intro j u h
  have e : (⟨w.heap.size, 0, none⟩ : Addr).add j = ⟨w.heap.size, j, none⟩ := by
    unfold Addr.add
    by_cases hj : j = 0 <;> simp [hj]
  rw [e, (Box.new w t #[x, y, z]).cell j]
  simpa using h
theorem one3l (x y z : Int) : ∀ u ∈ [Value.int .i64 x, Value.int .i64 y, Value.int .i64 z], u.oneCell' = true := by
  intro u hu
  simp at hu
  rcases hu with rfl | rfl | rfl <;> rfl
theorem owns_below {w w' : World} {base e size n : Nat} {v : Value} {xs : List Value} (h : w.ownsRow base e size v n xs) (hb : Below w.heap.size w w') : w'.ownsRow base e size v n xs :=
  h.kept ⟨hb.os, hb.tape, hb.output, hb.size, fun k hk _ => hb.block k hk⟩ (row := none) (by
    by_cases h : v.ownBlock = none
    · exact .inl h
    · exact .inr h)



/-- Whether the graph is valid and has the link. -/
def withoutOk (n : Int) (ls : List Lk) (x : Int) : Bool := gvB n ls && inB x 0 ((ls.length : Int) - 1)


/-- Whether the graph is valid and has the node. -/
def isolateOk (n : Int) (ls : List Lk) (x : Int) : Bool := gvB n ls && inB x 0 (n - 1)


end Go.Proofs.Ytenlofomkchlaac

/-
  Contracts over this seat: the specification's GraphIsolate.
-/
namespace Go.Proofs.Ytenlofomkchlaac
open Go.RowKit

theorem own_box_ne2 {w : World} {base e size n : Nat} {v : Value} {xs : List Value} {g t : Nat} {cs : Array Value} (h : w.ownsRow base e size v n xs) (hg : Box w g t cs) (hne : e ≠ t) : v.ownBlock ≠ some g := by
  rcases h.2 with ⟨rfl, _⟩ | ⟨g', cap, cur, rfl, _, hh, _⟩
  · simp [Value.ownBlock]
  · intro he
    have : g' = g := by simpa [Value.ownBlock] using he
    subst this
    unfold Box at hg
    rw [hh] at hg
    injection hg with hg
    injection hg with _ ht
    exact hne ht

theorem l1Node_any (n : Int) (v : Value) (x : Int) (w : World) (hn1 : 1 ≤ n) (hn8 : n ≤ 8) :
   Calls Try.prog 68 #[.agg #[.int .i64 n, v], .int .i64 x] w fun e w' => e = .returned (.bool (inB x 0 (n - 1))) ∧ Below w.heap.size w w' := by
  go_enter Try.func68, Try.ntmps68
  go_wp2_with (go_at_call 67; refine (l6In_any _ _ _ _).mono ?_; rintro e w' ⟨rfl, rfl⟩)
  go_ret
  exact ⟨rfl, by (repeat (first | exact Below.refl _ _ | (refine Below.alloc ?_ (by first | exact Nat.le_refl _ | omega | (simp; done) | (simp; omega)) _) | (refine Below.setCell ?_ (by first | exact Nat.le_refl _ | omega | (simp; done) | (simp; omega)) _) | exact Below.drew ‹_›))⟩

theorem gvB_n {n : Int} {ls : List Lk} (h : gvB n ls = true) : 1 ≤ n ∧ n ≤ 8 ∧ ls.length ≤ 14 := by
  unfold gvB inB at h
  simp at h
  omega

/-- The state while the graph is filled: the argument's box, the result's, the new graph's box and its row. -/
def IS (w : World) (b0 : Nat) (n : Int) (A : Option Addr) (len c : Nat) (ks : List Lk) (v : Value) (wx : World) : Prop :=
  Box wx w.heap.size 32 #[.int .i64 n, .slice A len c] ∧ Box wx (w.heap.size + 1) 32 #[.int .i64 0, .slice none 0 0] ∧ Box wx (b0 + 1) 32 #[.int .i64 n, v] ∧
  wx.ownsRow b0 90 3 v ks.length (flat ks) ∧ Below w.heap.size w wx ∧ w.heap.size + 1 < b0 ∧ b0 ≤ wx.heap.size
theorem IS.drew {w wx : World} {b0 : Nat} {n : Int} {A : Option Addr} {len c : Nat} {ks : List Lk} {v : Value} (h : IS w b0 n A len c ks v wx) : IS w b0 n A len c ks v wx.drew :=
  ⟨h.1, h.2.1, h.2.2.1, h.2.2.2.1, h.2.2.2.2.1.drew, h.2.2.2.2.2⟩
theorem IS.stored {w wx w8 : World} {b0 : Nat} {n : Int} {A : Option Addr} {len c : Nat} {ks : List Lk} {v v' : Value} {o : Obj} {x y z : Int} (h : IS w b0 n A len c ks v wx)
    (hown : w8.ownsRow b0 90 3 v' (ks.length + 1) (flat ks ++ [.int .i64 x, .int .i64 y, .int .i64 z])) (hg : (wx.alloc o).grownBy w8 v.ownBlock) :
    Box w8 (b0 + 1) 32 #[.int .i64 n, v] ∧ IS w b0 n A len c (ks ++ [⟨x, y, z⟩]) v' (w8.setCell ⟨b0 + 1, 1, none⟩ v') := by
  obtain ⟨h1, h2, h3, h4, h5, h6, h7⟩ := h
  have hbase := h4.lt
  have k1 : Box w8 w.heap.size 32 #[.int .i64 n, .slice A len c] := (hg.block _ (by have := h1.lt; simp; omega) (fun e => own_box_ne2 h4 h1 (by decide) e.symm)).trans (h1.alloc o)
  have k2 : Box w8 (w.heap.size + 1) 32 #[.int .i64 0, .slice none 0 0] := (hg.block _ (by have := h2.lt; simp; omega) (fun e => own_box_ne2 h4 h2 (by decide) e.symm)).trans (h2.alloc o)
  have k3 : Box w8 (b0 + 1) 32 #[.int .i64 n, v] := (hg.block _ (by have := h3.lt; simp; omega) (fun e => own_box_ne2 h4 h3 (by decide) e.symm)).trans (h3.alloc o)
  refine ⟨k3, (Below.heap_setCell w8 ⟨b0 + 1, 1, none⟩ _ _ (by dsimp only; omega)).trans k1, (Below.heap_setCell w8 ⟨b0 + 1, 1, none⟩ _ _ (by dsimp only; omega)).trans k2, heap_set k3 1 _, ?_, ?_, h6, ?_⟩
  · have hk := hown.kept (grown_set (World.grownBy.refl w8 (some (b0 + 1))) 1 v') (.inr (own_box_ne2 hown k3 (by decide)))
    rw [flat_append, List.length_append]
    exact hk
  · exact ((h5.alloc (by omega) o).grown hg (by simp; omega) (fun j e => by have := (hbase j e).1; omega)).setCell (by dsimp only; omega) _
  · have := hg.size; simp at this ⊢; omega



end Go.Proofs.Ytenlofomkchlaac

/-
  Contracts over this seat: GraphIsolate, the program's and the specification's, wherever the links lie.
-/
namespace Go.Proofs.Ytenlofomkchlaac
open Go.RowKit



end Go.Proofs.Ytenlofomkchlaac

/-
  A contract over this seat: sameGraph of the same graphs.
-/
namespace Go.Proofs.Ytenlofomkchlaac
open Go.RowKit


end Go.Proofs.Ytenlofomkchlaac
