/-
  A list of the call's own that grows.
-/
import Derived.Test.YtblmmmeeljidiabHos
namespace Go.Proofs.Ytblmmmeeljidiab
open Go.RowKit Go.Maps

/-! ### A list of the call's own that grows -/
structure PL (w : World) (gv : Array Value) (v : Value) (out : List Int) (W : World) : Prop where
  row : W.ownsRow (w.heap.size + 1) 3 1 v out.length (out.map (Value.int .i64))
  bel : Below w.heap.size w W
  box : Box W w.heap.size 25 gv
theorem PL.call {w : World} {gv : Array Value} {v : Value} {out : List Int} {W W' : World} (h : PL w gv v out W) (hb : Below W.heap.size W W') : PL w gv v out W' :=
  ⟨owns_kept h.row hb, h.bel.trans (hb.mono h.bel.size), h.box.below hb h.box.lt⟩
theorem PL.drew {w : World} {gv : Array Value} {v : Value} {out : List Int} {W : World} (h : PL w gv v out W) : PL w gv v out W.drew := ⟨h.row, h.bel.drew, h.box⟩
theorem PL.drewN {w : World} {gv : Array Value} {v : Value} {out : List Int} {W : World} (h : PL w gv v out W) (q : Nat) : PL w gv v out (W.drewN q) := ⟨h.row, ⟨h.bel.os, h.bel.tape, h.bel.output, h.bel.size, h.bel.block⟩, h.box⟩
theorem PL.append {w : World} {gv : Array Value} {v : Value} {out : List Int} {W : World} (h : PL w gv v out W) {x : Int} {v' : Value} {W' : World}
    (hown : W'.ownsRow (w.heap.size + 1) 3 1 v' (out.length + 1) (out.map (Value.int .i64) ++ [.int .i64 x])) (hg : (W.alloc (.cells #[.int .i64 x] 3)).grownBy W' v.ownBlock) :
    PL w gv v' (out ++ [x]) W' := by
  have hl := h.row.lt
  have zb := h.box.lt
  refine ⟨by rw [List.length_append, List.map_append]; exact hown, ?_, ?_⟩
  · exact (h.bel.alloc (by omega) _).grown hg (by simp; omega) (fun j e => by have := (hl j e).1; omega)
  · exact (hg.block _ (by simp; omega) (fun e => by have := (hl _ e.symm).1; omega)).trans (h.box.alloc _)
/-- A slice of numbers in memory of its own, no longer than its capacity. -/
def NewC (xs : List Int) (w : World) (e : Ending) (w' : World) : Prop :=
  ∃ A g c, e = .returned (.slice A xs.length c) ∧ w.heap.size ≤ g ∧ Own1i w' A g xs ∧ Below w.heap.size w w' ∧ xs.length ≤ c
theorem own_slicec {w : World} {base n : Nat} {v : Value} {xs : List Int} (h : w.ownsRow base 3 1 v n (xs.map (Value.int .i64))) (hb : base ≤ w.heap.size) :
    ∃ A g c, v = .slice A xs.length c ∧ base ≤ g ∧ xs.length ≤ c ∧ Own1i w A g xs := by
  have hn : n = xs.length := by have := h.1; simp at this; omega
  subst hn
  rcases h.2 with ⟨rfl, h0⟩ | ⟨g, cap, cur, rfl, hbg, hh, hn, _, hs, ht⟩
  · exact ⟨none, w.heap.size, 0, by rw [h0], hb, by omega, fun hp => by omega⟩
  · refine ⟨_, g, cap, rfl, hbg, hn, fun _ => ⟨rfl, cur, hh, fun k x hk => ?_⟩⟩
    have hkl : k < xs.length := (List.getElem?_eq_some_iff.1 hk).1
    have h1 : (xs.map (Value.int .i64))[k]? = some (.int .i64 x) := by rw [List.getElem?_map, hk]; rfl
    rw [← ht, List.getElem?_take_of_lt (by omega), Array.getElem?_toList] at h1
    exact h1
theorem PL.doneC {w : World} {gv : Array Value} {v : Value} {out : List Int} {W : World} (h : PL w gv v out W) : NewC out w (.returned v) W := by
  obtain ⟨A, g, c, e, hg, hc, ho⟩ := own_slicec h.row (by have := h.box.lt; omega)
  exact ⟨A, g, c, by rw [e], by omega, ho, h.bel, hc⟩
theorem NewC.newI {xs : List Int} {w : World} {e : Ending} {w' : World} (h : NewC xs w e w') : NewI xs w e w' := by
  obtain ⟨A, g, c, h1, h2, h3, h4, _⟩ := h
  exact ⟨A, g, c, h1, h2, h3, h4⟩
theorem PL.done {w : World} {gv : Array Value} {v : Value} {out : List Int} {W : World} (h : PL w gv v out W) : NewI out w (.returned v) W := by
  obtain ⟨A, g, c, e, hg, _, ho⟩ := own_slicei h.row (by have := h.box.lt; omega)
  exact ⟨A, g, c, by rw [e], by omega, ho, h.bel⟩

end Go.Proofs.Ytblmmmeeljidiab
