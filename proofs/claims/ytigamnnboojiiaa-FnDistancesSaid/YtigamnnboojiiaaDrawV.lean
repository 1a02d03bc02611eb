/-
  Contracts over this seat: what the laws of reach and of distances draw.
-/
import Derived.Test.YtigamnnboojiiaaDrawU
namespace Go.Proofs.Ytigamnnboojiiaa
open Go.RowKit

set_option maxRecDepth 100000 in
theorem drawReach_any (A : Option Addr) (len c : Nat) (f : Nat → Int) (w : World) (hlc : len ≤ c) (hc : c ≤ maxLen) (hB : Byt w w.heap.size A len f) :
   Calls Try.prog 24 #[.slice A len c] w fun e w' => ∃ (n : Int) (ls : List Lk) (A' : Option Addr) (g' c' : Nat) (x : Int), e = .returned (.tuple #[gval n A' ls.length c', .int .i64 x]) ∧ DG w n ls A' g' w' ∧ -1 ≤ x ∧ x ≤ 10 := by
  have HB := Lib.hid (hB.alloc (.cells #[.int .i64 0, .slice none 0 0] 30))
  have HQ := Lib.hid (Box.new w 30 #[.int .i64 0, .slice none 0 0])
  clear hB
  go_enter Try.func24, Try.ntmps24
  go_wp2_with fail
  refine (drawNb_any A len c f _ hlc hc HB.out).mono ?_
  rintro e w1 ⟨n, ls, A2, g2, c2, x, rfl, ⟨hn0, hn1, hls, hg2, ho2, hb2⟩, hx0, hx1⟩
  rw [World.size_alloc] at hg2 hb2
  have Q1 := HQ.out.below hb2 (by omega)
  have B1 := Lib.hid (Below.trans (B := w.heap.size) (a := w) (by (repeat (first | exact Below.refl _ _ | (refine Below.alloc ?_ (by first | exact Nat.le_refl _ | omega | (simp; done) | (simp; omega)) _) | (refine Below.setCell ?_ (by first | exact Nat.le_refl _ | omega | (simp; done) | (simp; omega)) _) | exact Below.drew ‹_›))) (hb2.mono (by omega)))
  have O1 := Lib.hid ho2
  clear HQ HB hb2 ho2
  obtain ⟨zq, e0, e1, q0, q1⟩ := Q1.two
  go_wp2_with fail
  obtain ⟨b2, r0, r1⟩ := ret_two Q1 (.int .i64 n) (.slice A2 ls.length c2)
  refine bodyPost_ret (v := .tuple #[gval n A2 ls.length c2, .int .i64 x]) (by simp [results, Try.results24, go_sem, r0, r1]) rfl ?_
  exact ⟨n, ls, A2, g2, c2, x, rfl, ⟨hn0, hn1, hls, by omega, (O1.out.set_box Q1 (by decide) 0 _).set_box (heap_set Q1 0 _) (by decide) 1 _, (B1.out.setCell (p := ⟨w.heap.size, 0, none⟩) (Nat.le_refl _) _).setCell (p := ⟨w.heap.size, 1, none⟩) (Nat.le_refl _) _⟩, hx0, hx1⟩

set_option maxRecDepth 100000 in
theorem drawDist_any (A : Option Addr) (len c : Nat) (f : Nat → Int) (w : World) (hlc : len ≤ c) (hc : c ≤ maxLen) (hB : Byt w w.heap.size A len f) :
   Calls Try.prog 33 #[.slice A len c] w fun e w' => ∃ (n : Int) (ls : List Lk) (A' : Option Addr) (g' c' : Nat) (x : Int), e = .returned (.tuple #[gval n A' ls.length c', .int .i64 x]) ∧ DG w n ls A' g' w' ∧ -1 ≤ x ∧ x ≤ 10 := by
  have HB := Lib.hid (hB.alloc (.cells #[.int .i64 0, .slice none 0 0] 30))
  have HQ := Lib.hid (Box.new w 30 #[.int .i64 0, .slice none 0 0])
  clear hB
  go_enter Try.func33, Try.ntmps33
  go_wp2_with fail
  refine (drawNb_any A len c f _ hlc hc HB.out).mono ?_
  rintro e w1 ⟨n, ls, A2, g2, c2, x, rfl, ⟨hn0, hn1, hls, hg2, ho2, hb2⟩, hx0, hx1⟩
  rw [World.size_alloc] at hg2 hb2
  have Q1 := HQ.out.below hb2 (by omega)
  have B1 := Lib.hid (Below.trans (B := w.heap.size) (a := w) (by (repeat (first | exact Below.refl _ _ | (refine Below.alloc ?_ (by first | exact Nat.le_refl _ | omega | (simp; done) | (simp; omega)) _) | (refine Below.setCell ?_ (by first | exact Nat.le_refl _ | omega | (simp; done) | (simp; omega)) _) | exact Below.drew ‹_›))) (hb2.mono (by omega)))
  have O1 := Lib.hid ho2
  clear HQ HB hb2 ho2
  obtain ⟨zq, e0, e1, q0, q1⟩ := Q1.two
  go_wp2_with fail
  obtain ⟨b2, r0, r1⟩ := ret_two Q1 (.int .i64 n) (.slice A2 ls.length c2)
  refine bodyPost_ret (v := .tuple #[gval n A2 ls.length c2, .int .i64 x]) (by simp [results, Try.results33, go_sem, r0, r1]) rfl ?_
  exact ⟨n, ls, A2, g2, c2, x, rfl, ⟨hn0, hn1, hls, by omega, (O1.out.set_box Q1 (by decide) 0 _).set_box (heap_set Q1 0 _) (by decide) 1 _, (B1.out.setCell (p := ⟨w.heap.size, 0, none⟩) (Nat.le_refl _) _).setCell (p := ⟨w.heap.size, 1, none⟩) (Nat.le_refl _) _⟩, hx0, hx1⟩

end Go.Proofs.Ytigamnnboojiiaa
