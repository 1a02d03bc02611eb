/-
  The walk of FnExactPathCount over this seat: whatever graph and numbers come in, the law returns true and changes nothing that was there.
-/
import Derived.Test.YtmkjcdfoiabecaaHc
namespace Go.Proofs.Ytmkjcdfoiabecaa
open Go.RowKit

set_option maxRecDepth 100000 in
set_option maxHeartbeats 800000 in
theorem exactPathCount_walk (n : Int) (A : Option Addr) (ls : List Lk) (c : Nat) (x y : Int) (w : World) (hnu : n ≤ 9223372036854775807) (hmax : ls.length ≤ maxLen)
    (h1 : Sl w w.heap.size A ls) :
   Calls Try.prog 6 #[gval n A ls.length c, .int .i64 x, .int .i64 y] w fun e w' => e = .returned (.bool true) ∧ Below w.heap.size w w' := by
  unfold maxLen at hmax
  have H1 := Lib.hid h1
  clear h1
  by_cases hl : ls.length ≤ 1048576
  · have hm : ls.length ≤ 2000000 := by omega
    obtain ⟨r, CI, CS⟩ := count_both n ls x y hm hnu
    go_enter Try.func6, Try.ntmps6
    go_wp2_with (first
      | (go_at_call 15; go_in)
      | (go_at_call 45; go_in))
    -- the specification's copy
    refine (toGraph_any n A ls c _ hm ((H1.out.below (by (repeat (first | exact Below.refl _ _ | (refine Below.alloc ?_ (by first | exact Nat.le_refl _ | omega | (simp; done) | (simp; omega)) _) | (refine Below.setCell ?_ (by first | exact Nat.le_refl _ | omega | (simp; done) | (simp; omega)) _) | exact Below.drew ‹_›)))).more (by simp; omega))).mono ?_
    rintro e w1 ⟨g1, rfl, hg1, harr1, hb1⟩
    have K1 := At2.below (At2.alloc (At2.new w (.int .i64 n) (.slice A ls.length c) 24) _) hb1
    have B1 := Lib.hid (Below.trans (B := w.heap.size) (a := w) (by (repeat (first | exact Below.refl _ _ | (refine Below.alloc ?_ (by first | exact Nat.le_refl _ | omega | (simp; done) | (simp; omega)) _) | (refine Below.setCell ?_ (by first | exact Nat.le_refl _ | omega | (simp; done) | (simp; omega)) _) | exact Below.drew ‹_›))) (hb1.mono (by simp; omega)))
    have R1 := harr1.sl harr1.lt
    clear hb1 harr1
    obtain ⟨z1, e10, e11⟩ := K1
    go_wp2_with fail
    refine (CS g1 _ _ R1).mono ?_
    rintro e w2 ⟨rfl, hb2⟩
    have K2 := At2.below ⟨z1, e10, e11⟩ hb2
    have B2 := Lib.hid (B1.out.trans (hb2.mono (by omega)))
    clear hb2 R1 z1 e10 e11 B1
    obtain ⟨z2, e20, e21⟩ := K2
    go_wp2_with fail
    -- the program's copy
    refine (toGraph_any n A ls c _ hm ((H1.out.below B2.out).more (by omega))).mono ?_
    rintro e w3 ⟨g3, rfl, hg3, harr3, hb3⟩
    have K3 := At2.below ⟨z2, e20, e21⟩ hb3
    have B3 := Lib.hid (B2.out.trans (hb3.mono (by omega)))
    clear hb3 z2 e20 e21 B2
    have A3 := Lib.hid harr3
    have zg := harr3.lt
    clear harr3
    obtain ⟨z3, e30, e31⟩ := K3
    go_wp2_with fail
    refine (CI g3 _ _ (((A3.out.sl zg).alloc (Nat.le_refl _) _).more (by simp))).mono ?_
    rintro e w4 ⟨rfl, hb4⟩
    have K4 := At2.below (At2.alloc ⟨z3, e30, e31⟩ _) hb4
    have L4 := At2.below (At2.new w3 (.int .i64 n) (.slice (some ⟨g3, 0, none⟩) ls.length ls.length) 30) hb4
    have B4 := Lib.hid ((B3.out.alloc (by omega) _).trans (hb4.mono (by simp; omega)))
    have A4 := Lib.hid ((A3.out.below ((Below.refl w3.heap.size w3).alloc (Nat.le_refl _) _) zg).below hb4 (by simp; omega))
    have z4 : w3.heap.size < w4.heap.size := L4.1
    clear hb4 z3 e30 e31 B3 A3
    obtain ⟨z40, e40, e41⟩ := K4
    obtain ⟨z41, f40, f41⟩ := L4
    go_wp2_with fail
    go_region_with (first
      | (go_at_call 17; refine (toGraph_any n A ls c _ hm ((H1.out.below B4.out.drew).more (Nat.le_of_lt z40))).mono ?_; rintro e w5 ⟨g5, rfl, hg5, harr5, hb5⟩; have K5 := At2.below (w := w4.drew) ⟨z40, e40, e41⟩ hb5; have L5 := At2.below (w := w4.drew) ⟨z41, f40, f41⟩ hb5; obtain ⟨z50, e50, e51⟩ := K5; obtain ⟨z51, f50, f51⟩ := L5; have A5 := Lib.hid (harr5.sl harr5.lt); have D5 := Lib.hid ((A4.out.below (w := w4.drew) hb5 A4.out.lt).sl (Nat.lt_of_lt_of_le A4.out.lt hb5.size)); have B5 := Lib.hid (B4.out.drew.trans (hb5.mono (Nat.le_of_lt z40))); clear harr5 hb5)
      | (go_at_call 20; refine (eqGraph_same n _ _ ls _ _ _ hm D5.out A5.out).mono ?_; rintro e w6 ⟨rfl, hb6⟩; have B6 := Lib.hid (B5.out.trans (hb6.mono (Nat.le_of_lt z50))); clear hb6))
    all_goals
      go_wp2
      go_ret
      exact ⟨rfl, B6.out⟩
  · go_enter Try.func6, Try.ntmps6
    go_wp2
    go_ret
    exact ⟨rfl, by (repeat (first | exact Below.refl _ _ | (refine Below.alloc ?_ (by first | exact Nat.le_refl _ | omega | (simp; done) | (simp; omega)) _) | (refine Below.setCell ?_ (by first | exact Nat.le_refl _ | omega | (simp; done) | (simp; omega)) _) | exact Below.drew ‹_›))⟩

end Go.Proofs.Ytmkjcdfoiabecaa
