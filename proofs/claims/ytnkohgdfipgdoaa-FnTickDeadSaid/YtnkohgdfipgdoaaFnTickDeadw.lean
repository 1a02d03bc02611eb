/-
  The walk of FnTickDead over this seat.
-/
import Derived.Test.YtnkohgdfipgdoaaJl
namespace Go.Proofs.Ytnkohgdfipgdoaa
open Go.RowKit Go.Maps

set_option maxRecDepth 100000 in
set_option maxHeartbeats 1600000 in
theorem fnTickDead_walk (A : Option Addr) (len c : Nat) (f : Nat → Int) (w : World) (hlc : len ≤ c) (hc : c ≤ maxLen) (hB : Byt w w.heap.size A len f) :
   Calls Try.prog 10 #[.slice A len c] w fun e w' => e = .returned (.bool true) ∧ Below w.heap.size w w' := by
  have HB := Lib.hid hB
  clear hB
  by_cases hl : len ≤ 1048576
  · go_enter Try.func10, Try.ntmps10
    go_wp2_with fail
    refine (drawAdjHello_any A len c f w hlc hc HB.out).mono ?_
    rintro e w1 ⟨s, g, me, xs, B, cb, rfl, hs0, hs1, hg0, hg1, hxl, hsl, hb1⟩
    have L1 := Lib.hid (HL.start hsl hb1 s g)
    have CI := fun W (h : Sli W W.heap.size B xs) => hello_impl s g me B xs cb W (by omega) h
    have CS := fun W (h : Sli W W.heap.size B xs) => hello_spec s g me B xs cb W (by omega) h
    clear hsl hb1 HB
    cases hok : helloB s g me xs with
    | false =>
      rw [hok, hello_not hok] at CI CS
      clear hok
      go_wp2_with fail
      generalize w1.heap.size = G at *
      generalize w1.alloc (.cells #[.int .i64 s, .int .i64 g] 25) = V1 at *
      refine (CI _ L1.out.sl).mono ?_
      rintro e w2 ⟨rfl, hb2⟩
      have L2 := Lib.hid (L1.out.call (hb2.alloc hb2.size (.cells #[.int .i64 0, .int .i64 0] 25)))
      have O2 := Lib.hid (Box.new w2 25 #[.int .i64 0, .int .i64 0])
      clear hb2 L1 CI
      obtain ⟨za, a0, a1, -, -⟩ := L2.out.box.two
      go_wp2_with fail
      generalize w2.heap.size = X at *
      generalize w2.alloc (.cells #[.int .i64 0, .int .i64 0] 25) = V2 at *
      refine (CS _ L2.out.sl).mono ?_
      rintro e w3 ⟨rfl, hb3⟩
      have hb4 := hb3.alloc hb3.size (.cells #[.int .i64 0, .int .i64 0] 25)
      have L3 := Lib.hid (L2.out.call hb4)
      have O3 := Lib.hid (O2.out.below hb4 O2.out.lt)
      have W3 := Lib.hid (Box.new w3 25 #[.int .i64 0, .int .i64 0])
      clear hb3 hb4 L2 O2 CS za a0 a1
      obtain ⟨za, a0, a1, -, -⟩ := L3.out.box.two
      obtain ⟨zo, o0, o1, -, -⟩ := O3.out.two
      go_wp2_with fail
      go_ret
      exact ⟨rfl, L3.out.bel⟩

    | true =>
      rw [hok, hello_yes hok] at CI CS
      obtain ⟨u, hu, hu1, hu3, hfull, hmem, hno, hval, h2a, h2b⟩ := hello_facts hok
      rw [hu] at CI CS
      clear hok hu
      go_wp2_with fail
      generalize w1.heap.size = G at *
      generalize w1.alloc (.cells #[.int .i64 s, .int .i64 g] 25) = V1 at *
      refine (CI _ L1.out.sl).mono ?_
      rintro e w2 ⟨rfl, hb2⟩
      have L2 := Lib.hid (L1.out.call (hb2.alloc hb2.size (.cells #[.int .i64 u, .int .i64 0] 25)))
      have O2 := Lib.hid (Box.new w2 25 #[.int .i64 u, .int .i64 0])
      clear hb2 L1 CI
      obtain ⟨za, a0, a1, -, -⟩ := L2.out.box.two
      go_wp2_with fail
      generalize w2.heap.size = X at *
      generalize w2.alloc (.cells #[.int .i64 u, .int .i64 0] 25) = V2 at *
      refine (CS _ L2.out.sl).mono ?_
      rintro e w3 ⟨rfl, hb3⟩
      have hb4 := hb3.alloc hb3.size (.cells #[.int .i64 u, .int .i64 0] 25)
      have L3 := Lib.hid (L2.out.call hb4)
      have O3 := Lib.hid (O2.out.below hb4 O2.out.lt)
      have W3 := Lib.hid (Box.new w3 25 #[.int .i64 u, .int .i64 0])
      clear hb3 hb4 L2 O2 CS za a0 a1
      obtain ⟨za, a0, a1, -, -⟩ := L3.out.box.two
      obtain ⟨zo, o0, o1, -, -⟩ := O3.out.two
      clear hmem hno hfull h2a h2b hval
      have hTK := fun (k : Nat) (h : k < 3) W => tick_at (s := u) (k := k) hu1 hu3 h W
      have hTE := fun W => tick_end hu1 hu3 W
      have hsz := World.size_alloc w3 (.cells #[.int .i64 u, .int .i64 0] 25)
      go_wp2_with fail
      generalize w3.heap.size = Y at *
      generalize w3.alloc (.cells #[.int .i64 u, .int .i64 0] 25) = V3 at *
      have X4 := Lib.hid (Box.new V3 25 #[.int .i64 u, .int .i64 0])
      rw [hsz] at X4
      have hbv := (Below.refl V3.heap.size V3).alloc (Nat.le_refl _) (.cells #[.int .i64 u, .int .i64 0] 25)
      have L4 := Lib.hid (L3.out.call hbv)
      have O4 := Lib.hid (O3.out.below hbv O3.out.lt)
      have hYX : X < Y + 1 := by have := O3.out.lt; omega
      have hwY : w.heap.size ≤ Y + 1 := by have := L3.out.bel.size; omega
      clear hbv W3 L3 O3 za a0 a1 zo o0 o1 hsz
      generalize V3.alloc (.cells #[.int .i64 u, .int .i64 0] 25) = V4 at *
      go_loopw [11] (fun i wr => ∃ k : Nat, k ≤ 3 ∧ i = .int .i64 (k : Int) ∧ Hid (Box wr (Y + 1) 25 #[.int .i64 u, .int .i64 (k : Int)]) ∧ Hid (Box wr X 25 #[.int .i64 u, .int .i64 0]) ∧ Hid (Below w.heap.size w wr)) (fun i _ => 3 - (intOf i).toNat)
      case atStart => exact ⟨0, by omega, rfl, X4, O4, Lib.hid L4.out.bel⟩
      case round =>
        obtain ⟨k, hk, rfl, X5, O5, B5⟩ := hrel
        clear X4 O4 L4
        have hk1 : IntKind.i64.wrap ((k : Int) + 1) = (k : Int) + 1 := IntWalk.i64_in _ (by omega)
        obtain ⟨zx, x0, x1, q0, q1⟩ := X5.out.two
        by_cases hlt : k < 3
        · have hlti : (k : Int) + 1 < 4 := by omega
          have CT := hTK k hlt
          go_wp2_with fail
          refine (CT _).mono ?_
          rintro e w6 ⟨rfl, hb6⟩
          have X6 := Lib.hid (X5.out.below hb6 X5.out.lt)
          have O6 := Lib.hid (O5.out.below hb6 O5.out.lt)
          have B6 := Lib.hid (B5.out.trans (hb6.mono B5.out.size))
          clear hb6 X5 O5 B5 zx x0 x1 q0 q1
          obtain ⟨zx, x0, x1, q0, q1⟩ := X6.out.two
          go_wp2_with fail
          go_roundw
          case rel => exact ⟨k + 1, by omega, by go_num, Lib.hid (heap_set (heap_set X6.out 0 (.int .i64 u)) 1 (.int .i64 ((k + 1 : Nat) : Int))), Lib.hid (((Below.heap_setCell _ ⟨Y + 1, 1, none⟩ _ _ (by show X ≠ Y + 1; omega)).trans (Below.heap_setCell _ ⟨Y + 1, 0, none⟩ _ _ (by show X ≠ Y + 1; omega))).trans O6.out), Lib.hid ((B6.out.setCell (p := ⟨Y + 1, 0, none⟩) hwY _).setCell (p := ⟨Y + 1, 1, none⟩) hwY _)⟩
          case measure => simp [intOf]; omega
        · have hlti : ¬ (k : Int) + 1 < 4 := by omega
          obtain rfl : k = 3 := by omega
          obtain ⟨zo, o0, o1, -, -⟩ := O5.out.two
          go_wp2_with fail
          refine (hTE _).mono ?_
          rintro e w6 ⟨rfl, hb6⟩
          have B6 := Lib.hid (B5.out.trans (hb6.mono B5.out.size))
          go_wp2_with fail
          go_ret
          exact ⟨rfl, B6.out⟩
  · go_enter Try.func10, Try.ntmps10
    go_wp2
    go_ret
    exact ⟨rfl, by (repeat (first | exact Below.refl _ _ | (refine Below.alloc ?_ (by first | exact Nat.le_refl _ | omega | (simp; done) | (simp; omega)) _) | (refine Below.setCell ?_ (by first | exact Nat.le_refl _ | omega | (simp; done) | (simp; omega)) _) | exact Below.drew ‹_›))⟩

end Go.Proofs.Ytnkohgdfipgdoaa
