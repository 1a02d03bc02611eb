/-
  The walk of FnAffected over this seat.
-/
import Derived.Test.YtkdcialdjnedeaaAe
namespace Go.Proofs.Ytkdcialdjnedeaa
open Go.RowKit

set_option maxRecDepth 100000 in
set_option maxHeartbeats 1600000 in
theorem affected_walk (A : Option Addr) (len c : Nat) (f : Nat → Int) (w : World) (hlc : len ≤ c) (hc : c ≤ maxLen) (hB : Byt w w.heap.size A len f) :
   Calls Try.prog 8 #[.slice A len c] w fun e w' => e = .returned (.bool true) ∧ Below w.heap.size w w' := by
  have HB := Lib.hid hB
  clear hB
  by_cases hl : len ≤ 1048576
  · go_enter Try.func8, Try.ntmps8
    go_wp2_with fail
    refine (drawAff_any A len c f w hlc hc HB.out).mono ?_
    rintro e w1 ⟨n, ls, A1, g1, c1, x, y, z, rfl, ⟨hn0, hn1, hls, hg1, ho1, hb1⟩, hx0, hx1, hy0, hy1, hz0, hz1⟩
    have L1 := Lib.hid (show LB w w1.heap.size n ls A1 g1 c1 (w1.alloc (.cells #[.int .i64 n, .slice A1 ls.length c1] 30)) from ⟨Box.new w1 _ _, ho1.alloc _, hb1.alloc hb1.size _⟩)
    clear ho1 hb1 HB
    generalize hG : w1.heap.size = G at *
    go_wp2_with fail
    refine (aff_impl n A1 ls c1 x y z _ (by omega) L1.out.2.1.isA L1.out.2.1.sl).mono ?_
    rintro e w2 ⟨A2, g2, c2, rfl, hg2, ho2, hb2⟩
    have L2 := Lib.hid (L1.out.call hb2)
    have P2 := Lib.hid ho2
    clear hb2 L1 hG ho2
    obtain ⟨z2, c20, c21, -, -⟩ := L2.out.1.two
    go_wp2_with fail
    refine (aff_spec n A1 ls c1 x y z w2 (by omega) L2.out.2.1.isA (by omega) L2.out.2.1.sl).mono ?_
    rintro e w3 ⟨A3, g3, c3, rfl, hg3, ho3, hb3⟩
    have L3 := Lib.hid (L2.out.call hb3)
    have P3 := Lib.hid (P2.out.below hb3)
    have Q3 := Lib.hid ho3
    clear hb3 L2 z2 c20 c21 P2 ho3
    obtain ⟨z3, c30, c31, -, -⟩ := L3.out.1.two
    have hrs : (affL n ls x y z).length ≤ 8 := affL_len8 n ls x y z
    have HF : Hid (((affL n ls x y z).Pairwise (· < ·)) ∧ (aftL n ls x y z).length ≤ 8 ∧ ((aftL n ls x y z).length = 0 → (affL n ls x y z).length = 0) ∧ ∀ i : Nat, i < (aftL n ls x y z).length → ∃ d e : Int, (distL n ls x)[i]? = some d ∧ (aftL n ls x y z)[i]? = some e ∧ decide ((i : Int) ∈ affL n ls x y z) = (e != d)) := Lib.hid ⟨affL_asc n ls x y z, aftL_len8 n ls x y z, fun h => by unfold affL; rw [h]; rfl, fun i hi => by
      have hl := aftL_len n ls x y z
      refine ⟨_, _, List.getElem?_eq_getElem (by omega), List.getElem?_eq_getElem hi, ?_⟩
      rw [Bool.eq_iff_iff]
      simp only [decide_eq_true_eq, bne_iff_ne, ne_eq]
      unfold affL
      rw [dTo_mem]
      constructor
      · rintro ⟨j, hj, e, a, b, ha, hb, hne⟩
        obtain rfl : i = j := by omega
        rw [List.getElem?_eq_getElem (by omega)] at ha hb
        cases ha
        cases hb
        exact hne
      · intro hne
        exact ⟨i, hi, rfl, _, _, List.getElem?_eq_getElem (by omega), List.getElem?_eq_getElem hi, hne⟩⟩
    have CAA : ∀ W : World, Own1 W A1 g1 ls → Calls Try.prog 15 #[gval n A1 ls.length c1, .int .i64 x, .int .i64 y, .int .i64 z] W (NewI (aftL n ls x y z) W) := fun W h => aft_impl n A1 ls c1 x y z W (by omega) h.isA h.sl
    have CDD : ∀ W : World, Own1 W A1 g1 ls → Calls Try.prog 26 #[gval n A1 ls.length c1, .int .i64 x] W (NewI (distL n ls x) W) := fun W h => dist_impl n A1 ls c1 x W (by omega) h.sl
    generalize distL n ls x = ds at *
    generalize aftL n ls x y z = es at *
    generalize affL n ls x y z = xs at *
    go_wp2_with fail
    refine (sameInts_same A2 A3 xs c2 c3 w3 (by omega) P3.out.sli Q3.out.sli).mono ?_
    rintro e w4 ⟨rfl, hb4⟩
    have L4 := Lib.hid (L3.out.call hb4)
    have P4 := Lib.hid (P3.out.below hb4)
    have Q4 := Lib.hid (Q3.out.below hb4)
    clear hb4 L3 P3 Q3 z3 c30 c31 hg2 hg3
    obtain ⟨z4, c40, c41, -, -⟩ := L4.out.1.two
    obtain ⟨hasc, hel8, hnil, hall⟩ := HF.out
    have HASC := Lib.hid hasc
    have HNIL := Lib.hid hnil
    have HALL := Lib.hid hall
    have CA := CAA _ L4.out.2.1
    clear hasc hnil hall HF CAA Q4
    go_wp2_with fail
    refine CA.mono ?_
    clear CA
    rintro e w5 ⟨A5, g5, c5, rfl, hg5, ho5, hb5⟩
    have L5 := Lib.hid (L4.out.call hb5)
    have P5 := Lib.hid (P4.out.below hb5)
    have R5 := Lib.hid ho5
    clear hb5 ho5 hg5 L4 P4 z4 c40 c41
    obtain ⟨z5, c50, c51, -, -⟩ := L5.out.1.two
    have CD := CDD _ L5.out.2.1
    clear CDD
    go_wp2_with fail
    refine CD.mono ?_
    clear CD
    rintro e w6 ⟨A6, g6, c6, rfl, hg6, ho6, hb6⟩
    have L6 := Lib.hid (L5.out.call hb6)
    have P6 := Lib.hid (P5.out.below hb6)
    have R6 := Lib.hid (R5.out.below hb6)
    have S6 := Lib.hid ho6
    clear hb6 ho6 hg6 L5 P5 R5 z5 c50 c51
    go_wp2_with fail
    go_loopw [11] (fun i wr => ∃ k : Nat, k ≤ es.length ∧ i = .int .i64 k ∧ LB w G n ls A1 g1 c1 wr ∧ Own1i wr A2 g2 xs ∧ Own1i wr A5 g5 es ∧ Own1i wr A6 g6 ds) (fun i _ => es.length - (intOf i).toNat)
    case atStart => exact ⟨0, Nat.zero_le _, rfl, L6.out, P6.out, R6.out, S6.out⟩
    case round =>
      obtain ⟨k, hk, rfl, hL, hP, hR, hS⟩ := hrel
      have L7 := Lib.hid hL
      have P7 := Lib.hid hP
      have R7 := Lib.hid hR
      have S7 := Lib.hid hS
      clear hL hP hR hS L6 P6 R6 S6
      by_cases hlt : k < es.length
      · obtain ⟨d, e, hd, he, hmem⟩ := HALL.out k hlt
        obtain ⟨rfl, zg5, hc5⟩ := R7.out.at he
        obtain ⟨rfl, zg6, hc6⟩ := S7.out.at hd
        have hdl := (List.getElem?_eq_some_iff.1 hd).1
        have CI : ∀ X : Ext wr, Calls Try.prog 28 #[.slice A2 xs.length c2, .int .i64 (k : Int)] X.w fun e' w' => e' = .returned (.bool (e != d)) ∧ Below X.w.heap.size X.w w' := fun X => by
          have := hasInt_any A2 xs c2 (k : Int) X.w (by omega) (P7.out.below X.below).sli
          rwa [hmem] at this
        have hbb : ((e != d) != (e != d)) = false := by simp
        clear hd he hmem
        have hX := fun (x : Ext wr) (bb o : Nat) (h : bb < wr.heap.size) => x.cell bb o h
        go_wp2_with fail
        refine wp_region_ext (by kernel_rfl) (by kernel_rfl) ?_
        repeat (go_big_quiet_step (first | (go_at_call 28; exact Calls.ext_of (CI _))))
        (refine wpQuiet_nil ?_); (rintro _ ⟨X, rfl⟩); (have hw1 := X.below); (generalize X.w = w1 at *); (clear X)
        clear hX
        have L8 := Lib.hid (L7.out.call hw1)
        have P8 := Lib.hid (P7.out.below hw1)
        have R8 := Lib.hid (R7.out.below hw1)
        have S8 := Lib.hid (S7.out.below hw1)
        go_wp2_with fail
        go_roundw
        case rel => exact ⟨k + 1, hlt, by go_num, L8.out, P8.out, R8.out, S8.out⟩
        case measure => simp [intOf]; omega
      · have hge : es.length ≤ k := by omega
        have CI := ascending_any A2 xs c2 wr (by omega) P7.out.sli HASC.out
        by_cases hz : es.length = 0
        · have hz2 := HNIL.out hz
          obtain rfl : es = [] := List.eq_nil_of_length_eq_zero hz
          obtain rfl : xs = [] := List.eq_nil_of_length_eq_zero hz2
          clear hz hz2
          go_wp2_with fail
          refine CI.mono ?_
          rintro e w8 ⟨rfl, hb8⟩
          have L8 := Lib.hid (L7.out.call hb8)
          go_wp2_with fail
          go_ret
          exact ⟨rfl, L8.out.2.2⟩
        · have hz' : es ≠ [] := fun e => hz (by rw [e]; rfl)
          go_wp2_with fail
          refine CI.mono ?_
          rintro e w8 ⟨rfl, hb8⟩
          have L8 := Lib.hid (L7.out.call hb8)
          go_wp2_with fail
          go_ret
          exact ⟨rfl, L8.out.2.2⟩
  · go_enter Try.func8, Try.ntmps8
    go_wp2
    go_ret
    exact ⟨rfl, by (repeat (first | exact Below.refl _ _ | (refine Below.alloc ?_ (by first | exact Nat.le_refl _ | omega | (simp; done) | (simp; omega)) _) | (refine Below.setCell ?_ (by first | exact Nat.le_refl _ | omega | (simp; done) | (simp; omega)) _) | exact Below.drew ‹_›))⟩
end Go.Proofs.Ytkdcialdjnedeaa
