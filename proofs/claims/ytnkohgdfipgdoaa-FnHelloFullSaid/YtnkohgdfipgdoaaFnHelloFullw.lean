/-
  The walk of FnHelloFull over this seat.
-/
import Derived.Test.YtnkohgdfipgdoaaJl
namespace Go.Proofs.Ytnkohgdfipgdoaa
open Go.RowKit Go.Maps

set_option maxRecDepth 100000 in
set_option maxHeartbeats 1600000 in
theorem fnHelloFull_walk (A : Option Addr) (len c : Nat) (f : Nat → Int) (w : World) (hlc : len ≤ c) (hc : c ≤ maxLen) (hB : Byt w w.heap.size A len f) :
   Calls Try.prog 9 #[.slice A len c] w fun e w' => e = .returned (.bool true) ∧ Below w.heap.size w w' := by
  have HB := Lib.hid hB
  clear hB
  by_cases hl : len ≤ 1048576
  · go_enter Try.func9, Try.ntmps9
    go_wp2_with fail
    refine (drawAdjHello_any A len c f w hlc hc HB.out).mono ?_
    rintro e w1 ⟨s, g, me, xs, B, cb, rfl, hs0, hs1, hg0, hg1, hxl, hsl, hb1⟩
    have L1 := Lib.hid (HL.start hsl hb1 s g)
    have CI := fun W (h : Sli W W.heap.size B xs) => hello_impl s g me B xs cb W (by omega) h
    have CS := fun W (h : Sli W W.heap.size B xs) => hello_spec s g me B xs cb W (by omega) h
    clear hsl hb1 HB
    cases hok : helloB s g me xs with
    | false =>
      rw [hok, hello_not hok] at CI CS
      clear hok
      go_wp2_with fail
      generalize w1.heap.size = G at *
      generalize w1.alloc (.cells #[.int .i64 s, .int .i64 g] 25) = V1 at *
      refine (CI _ L1.out.sl).mono ?_
      rintro e w2 ⟨rfl, hb2⟩
      have L2 := Lib.hid (L1.out.call (hb2.alloc hb2.size (.cells #[.int .i64 0, .int .i64 0] 25)))
      have O2 := Lib.hid (Box.new w2 25 #[.int .i64 0, .int .i64 0])
      clear hb2 L1 CI
      obtain ⟨za, a0, a1, -, -⟩ := L2.out.box.two
      go_wp2_with fail
      generalize w2.heap.size = X at *
      generalize w2.alloc (.cells #[.int .i64 0, .int .i64 0] 25) = V2 at *
      refine (CS _ L2.out.sl).mono ?_
      rintro e w3 ⟨rfl, hb3⟩
      have hb4 := hb3.alloc hb3.size (.cells #[.int .i64 0, .int .i64 0] 25)
      have L3 := Lib.hid (L2.out.call hb4)
      have O3 := Lib.hid (O2.out.below hb4 O2.out.lt)
      have W3 := Lib.hid (Box.new w3 25 #[.int .i64 0, .int .i64 0])
      clear hb3 hb4 L2 O2 CS za a0 a1
      obtain ⟨za, a0, a1, -, -⟩ := L3.out.box.two
      obtain ⟨zo, o0, o1, -, -⟩ := O3.out.two
      go_wp2_with fail
      go_ret
      exact ⟨rfl, L3.out.bel⟩

    | true =>
      rw [hok, hello_yes hok] at CI CS
      obtain ⟨u, hu, hu1, hu3, hfull, hmem, hno, hval, h2a, h2b⟩ := hello_facts hok
      rw [hu] at CI CS
      clear hok hu
      have CH := fun W (h : Sli W W.heap.size B xs) => hasInt_any B xs cb me W (by omega) h
      go_wp2_with fail
      generalize w1.heap.size = G at *
      generalize w1.alloc (.cells #[.int .i64 s, .int .i64 g] 25) = V1 at *
      refine (CI _ L1.out.sl).mono ?_
      rintro e w2 ⟨rfl, hb2⟩
      have L2 := Lib.hid (L1.out.call (hb2.alloc hb2.size (.cells #[.int .i64 u, .int .i64 0] 25)))
      have O2 := Lib.hid (Box.new w2 25 #[.int .i64 u, .int .i64 0])
      clear hb2 L1 CI
      obtain ⟨za, a0, a1, -, -⟩ := L2.out.box.two
      go_wp2_with fail
      generalize w2.heap.size = X at *
      generalize w2.alloc (.cells #[.int .i64 u, .int .i64 0] 25) = V2 at *
      refine (CS _ L2.out.sl).mono ?_
      rintro e w3 ⟨rfl, hb3⟩
      have hb4 := hb3.alloc hb3.size (.cells #[.int .i64 u, .int .i64 0] 25)
      have L3 := Lib.hid (L2.out.call hb4)
      have O3 := Lib.hid (O2.out.below hb4 O2.out.lt)
      have W3 := Lib.hid (Box.new w3 25 #[.int .i64 u, .int .i64 0])
      clear hb3 hb4 L2 O2 CS za a0 a1
      obtain ⟨za, a0, a1, -, -⟩ := L3.out.box.two
      obtain ⟨zo, o0, o1, -, -⟩ := O3.out.two
      by_cases hs : s = 3
      · have hs' : (s != 3) = false := by simp [hs]
        have HF := Lib.hid (hfull hs)
        have HN := Lib.hid hno
        clear hmem hno hfull h2a h2b hs
        go_wp2_with fail
        generalize w3.heap.size = Y at *
        generalize w3.alloc (.cells #[.int .i64 u, .int .i64 0] 25) = V3 at *
        refine (CH _ L3.out.sl).mono ?_
        rintro e w4 ⟨rfl, hb4⟩
        have L4 := Lib.hid (L3.out.call hb4)
        have O4 := Lib.hid (O3.out.below hb4 O3.out.lt)
        clear hb4 L3 O3 W3 za a0 a1 zo o0 o1
        obtain ⟨zo, o0, o1, -, -⟩ := O4.out.two
        by_cases hm : me ∈ xs
        · have hu := HF.out hm
          subst hu
          have hm' : decide (me ∈ xs) = true := decide_eq_true hm
          clear hm HF HN
          generalize decide (me ∈ xs) = d at *
          subst hm'
          go_wp2_with fail
          go_ret
          exact ⟨rfl, L4.out.bel⟩
        · have hm' : decide (me ∈ xs) = false := decide_eq_false hm
          clear hm HF HN
          generalize decide (me ∈ xs) = d at *
          subst hm'
          go_wp2_with fail
          go_ret
          exact ⟨rfl, L4.out.bel⟩
      · have hs' : (s != 3) = true := by simp [hs]
        clear hmem hno hfull h2a h2b hs
        go_wp2_with fail
        go_ret
        exact ⟨rfl, L3.out.bel⟩
  · go_enter Try.func9, Try.ntmps9
    go_wp2
    go_ret
    exact ⟨rfl, by (repeat (first | exact Below.refl _ _ | (refine Below.alloc ?_ (by first | exact Nat.le_refl _ | omega | (simp; done) | (simp; omega)) _) | (refine Below.setCell ?_ (by first | exact Nat.le_refl _ | omega | (simp; done) | (simp; omega)) _) | exact Below.drew ‹_›))⟩

end Go.Proofs.Ytnkohgdfipgdoaa
