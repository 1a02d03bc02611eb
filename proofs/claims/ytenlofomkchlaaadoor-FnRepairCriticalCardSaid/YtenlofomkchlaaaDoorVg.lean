/-
  A row of labels of the call's own that grows beside a path.
-/
import Derived.Test.YtenlofomkchlaaaDoorVd
namespace Go.Proofs.YtenlofomkchlaaaDoor
open Go.RowKit Go.Maps

/-- Labels that grow beside a path in memory of its own. -/
structure RB (w : World) (gv : Array Value) (g3 : Nat) (A3 : Option Addr) (xs : List Int) (v : Value) (out : List Lb) (W : World) : Prop where
  row : W.ownsRow (w.heap.size + 1) 97 2 v out.length (flatB out)
  far : ∀ g, v.ownBlock = some g → g ≠ g3
  own : Own1i W A3 g3 xs
  bel : Below w.heap.size w W
  box : Box W w.heap.size 25 gv
  lt3 : 0 < xs.length → g3 < W.heap.size
section
variable {w : World} {gv : Array Value} {g3 : Nat} {A3 : Option Addr} {xs : List Int} {v : Value} {out : List Lb} {W W' : World}
theorem RB.call (h : RB w gv g3 A3 xs v out W) (hb : Below W.heap.size W W') : RB w gv g3 A3 xs v out W' :=
  ⟨owns_kept h.row hb, h.far, h.own.below hb, h.bel.trans (hb.mono h.bel.size), h.box.below hb h.box.lt, fun hp => Nat.lt_of_lt_of_le (h.lt3 hp) hb.size⟩
theorem RB.append (h : RB w gv g3 A3 xs v out W) (hp : 0 < xs.length) {x : Lb} {v' : Value} {o : Obj}
    (hown : W'.ownsRow (w.heap.size + 1) 97 2 v' (out.length + 1) (flatB out ++ [.int .i64 x.k, .int .i64 x.a])) (hg : (W.alloc o).grownBy W' v.ownBlock) (hat : v'.ownBlock = v.ownBlock ∨ v'.ownBlock = some (W.alloc o).heap.size) :
    RB w gv g3 A3 xs v' (out ++ [x]) W' := by
  have hl := h.row.lt
  have z3 := h.lt3 hp
  have zb := h.box.lt
  refine ⟨by rw [List.length_append, flatB_append]; exact hown, fun g e => ?_, fun hq => ?_, ?_, ?_, fun _ => ?_⟩
  · rcases hat with e2 | e2
    · exact h.far g (e2.symm.trans e)
    · rw [e] at e2
      simp at e2
      omega
  · obtain ⟨e, cs, hh, hc⟩ := h.own hq
    exact ⟨e, cs, (hg.block g3 (by simp; omega) (fun e => h.far g3 e.symm rfl)).trans ((Below.heap_alloc W _ _ z3).trans hh), hc⟩
  · exact (h.bel.alloc (by omega) _).grown hg (by simp; omega) (fun j e => by have := (hl j e).1; omega)
  · exact (hg.block _ (by simp; omega) (fun e => by have := (hl _ e.symm).1; omega)).trans (h.box.alloc _)
  · have := hg.size
    simp at this
    omega
end
theorem RB.start {w W : World} {gv : Array Value} {g3 : Nat} {A3 : Option Addr} {xs : List Int} {W0 : World} (hE : Box W0 (w.heap.size + 1) 97 #[]) (hG : Box W0 w.heap.size 25 gv) (hb : Below W0.heap.size W0 W) (hb0 : Below w.heap.size w W0) (hg3 : W0.heap.size ≤ g3) (ho : Own1i W A3 g3 xs) :
    RB w gv g3 A3 xs (.slice (some ⟨w.heap.size + 1, 0, none⟩) 0 0) [] W := by
  have z0 := hE.lt
  refine ⟨⟨by simp [flatB], .inr ⟨w.heap.size + 1, 0, #[], rfl, Nat.le_refl _, hE.below hb z0, Nat.le_refl _, by omega, rfl, by simp [flatB]⟩⟩, fun g e => ?_, ho, hb0.trans (hb.mono hb0.size), hG.below hb hG.lt, fun hp => (ho hp).2.lt⟩
  simp [Value.ownBlock] at e
  omega
end Go.Proofs.YtenlofomkchlaaaDoor
