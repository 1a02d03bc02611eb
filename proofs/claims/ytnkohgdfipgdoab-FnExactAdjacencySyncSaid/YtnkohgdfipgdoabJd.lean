/-
  The walks of the exact laws of adjacencies over this seat: valid, tick.
-/
import Derived.Test.YtnkohgdfipgdoabF1
namespace Go.Proofs.Ytnkohgdfipgdoab
open Go.RowKit Go.Maps

theorem toAdj_any (s g : Int) (w : World) :
   Calls Try.prog 11 #[adjV s g] w fun e w' => e = .returned (adjV s g) ∧ Below w.heap.size w w' := by
  go_enter Try.func11, Try.ntmps11
  go_wp2
  refine bodyPost_ret (v := adjV s g) (by simp [results, Try.results11, go_sem]) rfl ⟨rfl, ?_⟩
  (repeat (first | exact Below.refl _ _ | (refine Below.alloc ?_ (by first | exact Nat.le_refl _ | omega | (simp; done) | (simp; omega)) _) | (refine Below.setCell ?_ (by first | exact Nat.le_refl _ | omega | (simp; done) | (simp; omega)) _) | exact Below.drew ‹_›))
theorem eqAdj_same (s g : Int) (w : World) :
   Calls Try.prog 14 #[adjV s g, adjV s g] w fun e w' => e = .returned (.bool true) ∧ Below w.heap.size w w' := by
  go_enter Try.func14, Try.ntmps14
  go_wp2
  go_ret
  exact ⟨rfl, by (repeat (first | exact Below.refl _ _ | (refine Below.alloc ?_ (by first | exact Nat.le_refl _ | omega | (simp; done) | (simp; omega)) _) | (refine Below.setCell ?_ (by first | exact Nat.le_refl _ | omega | (simp; done) | (simp; omega)) _) | exact Below.drew ‹_›))⟩

/-- The boxes that an exact law of adjacencies keeps: what came in. -/
structure AE (w : World) (s g : Int) (W : World) : Prop where
  box : Box W w.heap.size 23 #[.int .i64 s, .int .i64 g]
  bel : Below w.heap.size w W
theorem AE.start (w : World) (s g : Int) : AE w s g (w.alloc (.cells #[.int .i64 s, .int .i64 g] 23)) := ⟨Box.new w _ _, by (repeat (first | exact Below.refl _ _ | (refine Below.alloc ?_ (by first | exact Nat.le_refl _ | omega | (simp; done) | (simp; omega)) _) | (refine Below.setCell ?_ (by first | exact Nat.le_refl _ | omega | (simp; done) | (simp; omega)) _) | exact Below.drew ‹_›))⟩
theorem AE.call {w w1 w2 : World} {s g : Int} (h : AE w s g w1) (hb : Below w1.heap.size w1 w2) : AE w s g w2 := ⟨h.box.below hb h.box.lt, h.bel.trans (hb.mono h.bel.size)⟩



end Go.Proofs.Ytnkohgdfipgdoab
