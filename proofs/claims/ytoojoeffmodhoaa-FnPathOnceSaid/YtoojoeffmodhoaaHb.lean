/-
  Both, of one graph: the program's and the specification's next hops; what the laws of next hops draw.
-/
import Derived.Test.YtoojoeffmodhoaaHop
import Derived.Test.YtoojoeffmodhoaaHos
import Derived.Test.YtoojoeffmodhoaaA5
namespace Go.Proofs.Ytoojoeffmodhoaa
open Go.RowKit



set_option maxRecDepth 100000 in
theorem drawPath_any (A : Option Addr) (len c : Nat) (f : Nat → Int) (w : World) (hlc : len ≤ c) (hc : c ≤ maxLen) (hB : Byt w w.heap.size A len f) :
   Calls Try.prog 4 #[.slice A len c] w fun e w' => ∃ (n : Int) (ls : List Lk) (A' : Option Addr) (g' c' : Nat) (x y : Int), e = .returned (.tuple #[gval n A' ls.length c', .int .i64 x, .int .i64 y]) ∧ DG w n ls A' g' w' ∧ -1 ≤ x ∧ x ≤ 10 ∧ -1 ≤ y ∧ y ≤ 10 := by
  have HB := Lib.hid (hB.alloc (.cells #[.int .i64 0, .slice none 0 0] 25))
  have HQ := Lib.hid (Box.new w 25 #[.int .i64 0, .slice none 0 0])
  clear hB
  go_enter Try.func4, Try.ntmps4
  go_wp2_with fail
  refine (drawLink_any A len c f _ hlc hc HB.out).mono ?_
  rintro e w1 ⟨n, ls, A2, g2, c2, x, y, rfl, ⟨hn0, hn1, hls, hg2, ho2, hb2⟩, hx0, hx1, hy0, hy1⟩
  rw [World.size_alloc] at hg2 hb2
  have Q1 := HQ.out.below hb2 (by omega)
  have B1 := Lib.hid (Below.trans (B := w.heap.size) (a := w) (by (repeat (first | exact Below.refl _ _ | (refine Below.alloc ?_ (by first | exact Nat.le_refl _ | omega | (simp; done) | (simp; omega)) _) | (refine Below.setCell ?_ (by first | exact Nat.le_refl _ | omega | (simp; done) | (simp; omega)) _) | exact Below.drew ‹_›))) (hb2.mono (by omega)))
  have O1 := Lib.hid ho2
  clear HQ HB hb2 ho2
  obtain ⟨zq, e0, e1, q0, q1⟩ := Q1.two
  go_wp2_with fail
  obtain ⟨b2, r0, r1⟩ := ret_two Q1 (.int .i64 n) (.slice A2 ls.length c2)
  refine bodyPost_ret (v := .tuple #[gval n A2 ls.length c2, .int .i64 x, .int .i64 y]) (by simp [results, Try.results4, go_sem, r0, r1]) rfl ?_
  exact ⟨n, ls, A2, g2, c2, x, y, rfl, ⟨hn0, hn1, hls, by omega, (O1.out.set_box Q1 (by decide) 0 _).set_box (heap_set Q1 0 _) (by decide) 1 _, (B1.out.setCell (p := ⟨w.heap.size, 0, none⟩) (Nat.le_refl _) _).setCell (p := ⟨w.heap.size, 1, none⟩) (Nat.le_refl _) _⟩, hx0, hx1, hy0, hy1⟩


end Go.Proofs.Ytoojoeffmodhoaa
