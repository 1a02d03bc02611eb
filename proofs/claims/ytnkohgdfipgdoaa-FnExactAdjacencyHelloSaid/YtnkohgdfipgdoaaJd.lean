/-
  The walks of the exact laws of adjacencies over this seat: valid, tick.
-/
import Derived.Test.YtnkohgdfipgdoaaJb
namespace Go.Proofs.Ytnkohgdfipgdoaa
open Go.RowKit Go.Maps

theorem toAdj_any (s g : Int) (w : World) :
   Calls Try.prog 12 #[adjV s g] w fun e w' => e = .returned (adjV s g) ∧ Below w.heap.size w w' := by
  go_enter Try.func12, Try.ntmps12
  go_wp2
  refine bodyPost_ret (v := adjV s g) (by simp [results, Try.results12, go_sem]) rfl ⟨rfl, ?_⟩
  (repeat (first | exact Below.refl _ _ | (refine Below.alloc ?_ (by first | exact Nat.le_refl _ | omega | (simp; done) | (simp; omega)) _) | (refine Below.setCell ?_ (by first | exact Nat.le_refl _ | omega | (simp; done) | (simp; omega)) _) | exact Below.drew ‹_›))
theorem eqAdj_same (s g : Int) (w : World) :
   Calls Try.prog 16 #[adjV s g, adjV s g] w fun e w' => e = .returned (.bool true) ∧ Below w.heap.size w w' := by
  go_enter Try.func16, Try.ntmps16
  go_wp2
  go_ret
  exact ⟨rfl, by (repeat (first | exact Below.refl _ _ | (refine Below.alloc ?_ (by first | exact Nat.le_refl _ | omega | (simp; done) | (simp; omega)) _) | (refine Below.setCell ?_ (by first | exact Nat.le_refl _ | omega | (simp; done) | (simp; omega)) _) | exact Below.drew ‹_›))⟩

/-- The boxes that an exact law of adjacencies keeps: what came in. -/
structure AE (w : World) (s g : Int) (W : World) : Prop where
  box : Box W w.heap.size 23 #[.int .i64 s, .int .i64 g]
  bel : Below w.heap.size w W
theorem AE.start (w : World) (s g : Int) : AE w s g (w.alloc (.cells #[.int .i64 s, .int .i64 g] 23)) := ⟨Box.new w _ _, by (repeat (first | exact Below.refl _ _ | (refine Below.alloc ?_ (by first | exact Nat.le_refl _ | omega | (simp; done) | (simp; omega)) _) | (refine Below.setCell ?_ (by first | exact Nat.le_refl _ | omega | (simp; done) | (simp; omega)) _) | exact Below.drew ‹_›))⟩
theorem AE.call {w w1 w2 : World} {s g : Int} (h : AE w s g w1) (hb : Below w1.heap.size w1 w2) : AE w s g w2 := ⟨h.box.below hb h.box.lt, h.bel.trans (hb.mono h.bel.size)⟩

set_option maxHeartbeats 800000 in
theorem exactAdjValid_walk (s g : Int) (w : World) :
   Calls Try.prog 3 #[adjV s g] w fun e w' => e = .returned (.bool true) ∧ Below w.heap.size w w' := by
  have L0 := Lib.hid (AE.start w s g)
  have CT := fun W => toAdj_any s g W
  have CI := fun W => adjValid_impl s g W
  have CS := fun W => adjValid_spec s g W
  generalize adjB s g = b at *
  go_enter Try.func3, Try.ntmps3
  go_wp2_with fail
  refine (CT _).mono ?_
  rintro e w1 ⟨rfl, hb1⟩
  have L1 := Lib.hid (L0.out.call hb1)
  clear hb1 L0
  go_wp2_with fail
  refine (CS _).mono ?_
  rintro e w2 ⟨rfl, hb2⟩
  have L2 := Lib.hid (L1.out.call hb2)
  clear hb2 L1
  obtain ⟨zx, x0, x1, -, -⟩ := L2.out.box.two
  go_wp2_with fail
  refine (CT _).mono ?_
  rintro e w3 ⟨rfl, hb3⟩
  have L3 := Lib.hid (L2.out.call hb3)
  clear hb3 L2 zx x0 x1
  go_wp2_with fail
  refine (CI _).mono ?_
  rintro e w4 ⟨rfl, hb4⟩
  have L4 := Lib.hid (L3.out.call hb4)
  clear hb4 L3
  have hbb : (b != b) = false := by cases b <;> rfl
  go_wp2_with fail
  go_ret
  exact ⟨rfl, L4.out.bel⟩

set_option maxHeartbeats 800000 in
theorem exactAdjTick_walk (s g : Int) (w : World) :
   Calls Try.prog 4 #[adjV s g] w fun e w' => e = .returned (.bool true) ∧ Below w.heap.size w w' := by
  have L0 := Lib.hid (AE.start w s g)
  have CT := fun W => toAdj_any s g W
  have CI := fun W => tick_impl s g W
  have CS := fun W => tick_spec s g W
  have CE := fun W => eqAdj_same (tickA s g).1 (tickA s g).2 W
  generalize tickA s g = r at *
  obtain ⟨u, v⟩ := r
  go_enter Try.func4, Try.ntmps4
  go_wp2_with fail
  refine (CT _).mono ?_
  rintro e w1 ⟨rfl, hb1⟩
  have L1 := Lib.hid (L0.out.call hb1)
  clear hb1 L0
  go_wp2_with fail
  refine (CS _).mono ?_
  rintro e w2 ⟨rfl, hb2⟩
  have L2 := Lib.hid (L1.out.call (hb2.alloc hb2.size (.cells #[.int .i64 u, .int .i64 v] 25)))
  have W2 := Lib.hid (Box.new w2 25 #[.int .i64 u, .int .i64 v])
  clear hb2 L1
  obtain ⟨zx, x0, x1, -, -⟩ := L2.out.box.two
  go_wp2_with fail
  generalize w2.heap.size = X at *
  generalize w2.alloc (.cells #[.int .i64 u, .int .i64 v] 25) = V2 at *
  refine (CT _).mono ?_
  rintro e w3 ⟨rfl, hb3⟩
  have L3 := Lib.hid (L2.out.call hb3)
  have W3 := Lib.hid (W2.out.below hb3 W2.out.lt)
  clear hb3 L2 W2 zx x0 x1
  go_wp2_with fail
  refine (CI _).mono ?_
  rintro e w4 ⟨rfl, hb4⟩
  have L4 := Lib.hid (L3.out.call hb4)
  have W4 := Lib.hid (W3.out.below hb4 W3.out.lt)
  clear hb4 L3 W3
  have G5 := Lib.hid (Box.new w4 25 #[.int .i64 u, .int .i64 v])
  have W5 := Lib.hid (W4.out.alloc (.cells #[.int .i64 u, .int .i64 v] 25))
  have L5 := Lib.hid (L4.out.call ((Below.refl _ _).alloc (Nat.le_refl _) (.cells #[.int .i64 u, .int .i64 v] 25)))
  obtain ⟨zy, y0, y1, -, -⟩ := W5.out.two
  clear L4 W4
  go_wp2_with fail
  refine (CE _).mono ?_
  rintro e w6 ⟨rfl, hb6⟩
  have L6 := Lib.hid (L5.out.call hb6)
  clear hb6
  go_wp2_with fail
  go_ret
  exact ⟨rfl, L6.out.bel⟩
end Go.Proofs.Ytnkohgdfipgdoaa
