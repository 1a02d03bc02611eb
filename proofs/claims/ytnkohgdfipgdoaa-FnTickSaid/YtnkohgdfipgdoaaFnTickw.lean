/-
  The walk of FnTick over this seat.
-/
import Derived.Test.YtnkohgdfipgdoaaJl
namespace Go.Proofs.Ytnkohgdfipgdoaa
open Go.RowKit Go.Maps

set_option maxRecDepth 100000 in
set_option maxHeartbeats 1600000 in
theorem fnTick_walk (A : Option Addr) (len c : Nat) (f : Nat → Int) (w : World) (hlc : len ≤ c) (hc : c ≤ maxLen) (hB : Byt w w.heap.size A len f) :
   Calls Try.prog 6 #[.slice A len c] w fun e w' => e = .returned (.bool true) ∧ Below w.heap.size w w' := by
  have HB := Lib.hid hB
  clear hB
  by_cases hl : len ≤ 1048576
  · go_enter Try.func6, Try.ntmps6
    go_wp2_with fail
    refine (drawAdjTick_any A len c f w hlc hc HB.out).mono ?_
    rintro e w1 ⟨s, g, rfl, hs0, hs1, hg0, hg1, hb1⟩
    have L1 := Lib.hid (HL.start (A := none) (xs := []) (fun k x h => by simp at h) hb1 s g)
    have CI := fun W => tick_impl s g W
    have CS := fun W => tick_spec s g W
    have CV := fun W => adjValid_spec s g W
    clear hb1 HB
    cases hv : adjB s g with
    | false =>
      have ht : tickA s g = (0, 0) := by unfold tickA; rw [hv]; rfl
      rw [ht] at CI CS
      rw [hv] at CV
      clear hv ht
      go_wp2_with fail
      generalize w1.heap.size = G at *
      generalize w1.alloc (.cells #[.int .i64 s, .int .i64 g] 25) = V1 at *
      refine (CI _).mono ?_
      rintro e w2 ⟨rfl, hb2⟩
      have L2 := Lib.hid (L1.out.call (hb2.alloc hb2.size (.cells #[.int .i64 0, .int .i64 0] 25)))
      have O2 := Lib.hid (Box.new w2 25 #[.int .i64 0, .int .i64 0])
      clear hb2 L1 CI
      obtain ⟨za, a0, a1, -, -⟩ := L2.out.box.two
      go_wp2_with fail
      generalize w2.heap.size = X at *
      generalize w2.alloc (.cells #[.int .i64 0, .int .i64 0] 25) = V2 at *
      refine (CS _).mono ?_
      rintro e w3 ⟨rfl, hb3⟩
      have hb4 := hb3.alloc hb3.size (.cells #[.int .i64 0, .int .i64 0] 25)
      have L3 := Lib.hid (L2.out.call hb4)
      have O3 := Lib.hid (O2.out.below hb4 O2.out.lt)
      have W3 := Lib.hid (Box.new w3 25 #[.int .i64 0, .int .i64 0])
      clear hb3 hb4 L2 O2 CS za a0 a1
      obtain ⟨za, a0, a1, -, -⟩ := L3.out.box.two
      obtain ⟨zo, o0, o1, -, -⟩ := O3.out.two
      go_wp2_with fail
      refine (CV _).mono ?_
      rintro e w4 ⟨rfl, hb4⟩
      have L4 := Lib.hid (L3.out.call hb4)
      have O4 := Lib.hid (O3.out.below hb4 O3.out.lt)
      have W4 := Lib.hid (W3.out.below hb4 W3.out.lt)
      clear hb4 L3 O3 W3 za a0 a1 zo o0 o1
      obtain ⟨zo, o0, o1, -, -⟩ := O4.out.two
      obtain ⟨zw, p0, p1, -, -⟩ := W4.out.two
      go_wp2_with fail
      go_ret
      exact ⟨rfl, L4.out.bel⟩

    | true =>
      rw [hv] at CV
      obtain ⟨u, v, hu, hval, hcase⟩ := tick_facts hv
      rw [hu] at CI CS
      have CW := fun W => adjValid_impl u v W
      rw [hval] at CW
      have HC := Lib.hid hcase
      clear hv hu hval hcase
      go_wp2_with fail
      generalize w1.heap.size = G at *
      generalize w1.alloc (.cells #[.int .i64 s, .int .i64 g] 25) = V1 at *
      refine (CI _).mono ?_
      rintro e w2 ⟨rfl, hb2⟩
      have L2 := Lib.hid (L1.out.call (hb2.alloc hb2.size (.cells #[.int .i64 u, .int .i64 v] 25)))
      have O2 := Lib.hid (Box.new w2 25 #[.int .i64 u, .int .i64 v])
      clear hb2 L1 CI
      obtain ⟨za, a0, a1, -, -⟩ := L2.out.box.two
      go_wp2_with fail
      generalize w2.heap.size = X at *
      generalize w2.alloc (.cells #[.int .i64 u, .int .i64 v] 25) = V2 at *
      refine (CS _).mono ?_
      rintro e w3 ⟨rfl, hb3⟩
      have hb4 := hb3.alloc hb3.size (.cells #[.int .i64 u, .int .i64 v] 25)
      have L3 := Lib.hid (L2.out.call hb4)
      have O3 := Lib.hid (O2.out.below hb4 O2.out.lt)
      have W3 := Lib.hid (Box.new w3 25 #[.int .i64 u, .int .i64 v])
      clear hb3 hb4 L2 O2 CS za a0 a1
      obtain ⟨za, a0, a1, -, -⟩ := L3.out.box.two
      obtain ⟨zo, o0, o1, -, -⟩ := O3.out.two
      go_wp2_with fail
      refine (CV _).mono ?_
      rintro e w4 ⟨rfl, hb4⟩
      have L4 := Lib.hid (L3.out.call hb4)
      have O4 := Lib.hid (O3.out.below hb4 O3.out.lt)
      clear hb4 L3 O3 W3 za a0 a1 zo o0 o1
      obtain ⟨za, a0, a1, -, -⟩ := L4.out.box.two
      obtain ⟨zo, o0, o1, -, -⟩ := O4.out.two
      go_wp2_with fail
      refine (CW _).mono ?_
      rintro e w5 ⟨rfl, hb5⟩
      have L5 := Lib.hid (L4.out.call hb5)
      have O5 := Lib.hid (O4.out.below hb5 O4.out.lt)
      clear hb5 L4 O4 za a0 a1 zo o0 o1
      obtain ⟨za, a0, a1, -, -⟩ := L5.out.box.two
      obtain ⟨zo, o0, o1, -, -⟩ := O5.out.two
      rcases HC.out with ⟨rfl, rfl, rfl, rfl⟩ | ⟨hn, rfl, rfl, h3⟩ | ⟨hn, rfl, rfl⟩
      · clear HC
        go_wp2_with fail
        go_ret
        exact ⟨rfl, L5.out.bel⟩
      · clear HC
        have hw : IntKind.i64.wrap (g + 1) = g + 1 := IntWalk.i64_in _ (by omega)
        go_wp2_with fail
        go_ret
        exact ⟨rfl, L5.out.bel⟩
      · clear HC
        have hn' : ((0 : Int) == s) = false := by simpa using fun h => hn h.symm
        go_wp2_with fail
        go_ret
        exact ⟨rfl, L5.out.bel⟩
  · go_enter Try.func6, Try.ntmps6
    go_wp2
    go_ret
    exact ⟨rfl, by (repeat (first | exact Below.refl _ _ | (refine Below.alloc ?_ (by first | exact Nat.le_refl _ | omega | (simp; done) | (simp; omega)) _) | (refine Below.setCell ?_ (by first | exact Nat.le_refl _ | omega | (simp; done) | (simp; omega)) _) | exact Below.drew ‹_›))⟩

end Go.Proofs.Ytnkohgdfipgdoaa
