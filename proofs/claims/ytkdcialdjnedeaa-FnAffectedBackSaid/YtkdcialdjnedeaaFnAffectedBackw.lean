/-
  The walk of FnAffectedBack over this seat.
-/
import Derived.Test.YtkdcialdjnedeaaAe
namespace Go.Proofs.Ytkdcialdjnedeaa
open Go.RowKit

set_option maxRecDepth 100000 in
set_option maxHeartbeats 1600000 in
theorem affectedBack_walk (A : Option Addr) (len c : Nat) (Am : Option Addr) (len' c' : Nat) (f f' : Nat → Int) (w : World) (hlc : len ≤ c) (hc : c ≤ maxLen) (hB : Byt w w.heap.size A len f) (_hlc' : len' ≤ c') (_hc' : c' ≤ maxLen) (_hB' : Byt w w.heap.size Am len' f') :
   Calls Try.prog 11 #[.slice A len c, .slice Am len' c'] w fun e w' => e = .returned (.bool true) ∧ Below w.heap.size w w' := by
  have HB := Lib.hid hB
  clear hB _hB'
  by_cases hl : len ≤ 1048576 ∧ len' ≤ 1048576
  · obtain ⟨hl, hl'⟩ := hl
    go_enter Try.func11, Try.ntmps11
    go_wp2_with fail
    refine (drawAff_any A len c f w hlc hc HB.out).mono ?_
    rintro e w1 ⟨n, ls, A1, g1, c1, x, y, z, rfl, ⟨hn0, hn1, hls, hg1, ho1, hb1⟩, hx0, hx1, hy0, hy1, hz0, hz1⟩
    have L1 := Lib.hid (show LB w w1.heap.size n ls A1 g1 c1 (w1.alloc (.cells #[.int .i64 n, .slice A1 ls.length c1] 30)) from ⟨Box.new w1 _ _, ho1.alloc _, hb1.alloc hb1.size _⟩)
    clear ho1 hb1 HB
    generalize hG : w1.heap.size = G at *
    go_wp2_with fail
    refine (aff_impl n A1 ls c1 x y z _ (by omega) L1.out.2.1.isA L1.out.2.1.sl).mono ?_
    rintro e w2 ⟨A2, g2, c2, rfl, hg2, ho2, hb2⟩
    have L2 := Lib.hid (L1.out.call hb2)
    have P2 := Lib.hid ho2
    clear hb2 L1 hG ho2
    obtain ⟨z2, c20, c21, -, -⟩ := L2.out.1.two
    go_wp2_with fail
    refine (aff_spec n A1 ls c1 x y z w2 (by omega) L2.out.2.1.isA (by omega) L2.out.2.1.sl).mono ?_
    rintro e w3 ⟨A3, g3, c3, rfl, hg3, ho3, hb3⟩
    have L3 := Lib.hid (L2.out.call hb3)
    have P3 := Lib.hid (P2.out.below hb3)
    have Q3 := Lib.hid ho3
    clear hb3 L2 z2 c20 c21 P2 ho3
    obtain ⟨z3, c30, c31, -, -⟩ := L3.out.1.two
    have hrs : (affL n ls x y z).length ≤ 8 := affL_len8 n ls x y z
    have HF : Hid (∀ q : Nat, 0 ≤ x → x < n → (q : Int) < n → decide ((q : Int) ∈ affL n ls x y z) = decide (x ∈ affL n ls (q : Int) y z)) := Lib.hid (fun q h0 h1 hq => by
      obtain ⟨m, rfl⟩ : ∃ m : Nat, n = (m : Int) := ⟨n.toNat, by omega⟩
      rw [Bool.eq_iff_iff, decide_eq_true_eq, decide_eq_true_eq]
      exact affL_back ⟨h0, h1⟩ ⟨by omega, hq⟩)
    have HYS : Hid (∀ q : Nat, (affL n ls (q : Int) y z).length ≤ 8) := Lib.hid (fun q => affL_len8 n ls q y z)
    generalize affL n ls x y z = xs at *
    go_wp2_with fail
    refine (sameInts_same A2 A3 xs c2 c3 w3 (by omega) P3.out.sli Q3.out.sli).mono ?_
    rintro e w4 ⟨rfl, hb4⟩
    have L4 := Lib.hid (L3.out.call hb4)
    have P4 := Lib.hid (P3.out.below hb4)
    have Q4 := Lib.hid (Q3.out.below hb4)
    clear hb4 L3 P3 Q3 z3 c30 c31 hg2 hg3
    obtain ⟨z4, c40, c41, -, -⟩ := L4.out.1.two
    go_wp2_with fail
    refine (valid_spec_any n A1 ls c1 w4 (by omega) (by omega) L4.out.2.1.sl).mono ?_
    rintro e w5 ⟨rfl, hb5⟩
    have L5 := Lib.hid (L4.out.call hb5)
    have P5 := Lib.hid (P4.out.below hb5)
    have Q5 := Lib.hid (Q4.out.below hb5)
    clear hb5 L4 P4 Q4 z4 c40 c41
    obtain ⟨z5, c50, c51, -, -⟩ := L5.out.1.two
    cases hv : gvB n ls with
    | false =>
      clear HF
      go_wp2_with fail
      refine (sameInts_same A2 A3 xs c2 c3 w5 (by omega) P5.out.sli Q5.out.sli).mono ?_
      rintro e wz ⟨rfl, hbz⟩
      have Lz := Lib.hid (L5.out.call hbz)
      go_wp2_with fail
      go_ret
      exact ⟨rfl, Lz.out.2.2⟩
    | true =>
      by_cases h3 : x < 0
      · clear HF
        go_wp2_with fail
        refine (sameInts_same A2 A3 xs c2 c3 w5 (by omega) P5.out.sli Q5.out.sli).mono ?_
        rintro e wz ⟨rfl, hbz⟩
        have Lz := Lib.hid (L5.out.call hbz)
        go_wp2_with fail
        go_ret
        exact ⟨rfl, Lz.out.2.2⟩
      have h3' : decide (x < 0) = false := by simpa using h3
      by_cases h4 : n ≤ x
      · clear HF
        go_wp2_with fail
        refine (sameInts_same A2 A3 xs c2 c3 w5 (by omega) P5.out.sli Q5.out.sli).mono ?_
        rintro e wz ⟨rfl, hbz⟩
        have Lz := Lib.hid (L5.out.call hbz)
        go_wp2_with fail
        go_ret
        exact ⟨rfl, Lz.out.2.2⟩
      have h4' : decide (n ≤ x) = false := by simpa using h4
      obtain ⟨m, rfl⟩ : ∃ q : Nat, n = (q : Int) := ⟨n.toNat, by omega⟩
      have hq : Int.tmod (len' : Int) (m : Int) = ((len' % m : Nat) : Int) := by rw [Int.tmod_eq_emod_of_nonneg (by omega)]; omega
      have hql : len' % m < m := Nat.mod_lt _ (by omega)
      have hne : ¬ (m : Int) = 0 := by omega
      generalize len' % m = q at *
      have hmem := HF.out q (by omega) (by omega) (by omega)
      have hys := HYS.out q
      have CA := aff_impl (m : Int) A1 ls c1 (q : Int) y z
      have CH1 := fun W (h : Own1i W A2 g2 xs) => hasInt_any A2 xs c2 (q : Int) W (by omega) h.sli
      rw [hmem] at CH1
      generalize affL (m : Int) ls (q : Int) y z = ys at *
      have CH2 := fun W A5 g5 c5 (h : Own1i W A5 g5 ys) => hasInt_any A5 ys c5 x W (by omega) h.sli
      generalize decide (x ∈ ys) = b at *
      have P5d := Lib.hid P5.out.drew
      have L5d := Lib.hid L5.out.drew
      clear hmem HF HYS Q5 hv
      go_wp2_with fail
      go_region_law (first
        | (go_simp; go_at_call 28; refine (CH2 _ _ _ _ R7.out).mono ?_; rintro e w8 ⟨rfl, hb8⟩; have L8 := Lib.hid (L7.out.call hb8))
        | (go_simp; go_at_call 22; refine (CA _ (by omega) L6.out.2.1.isA L6.out.2.1.sl).mono ?_; rintro e w7 ⟨A5, g5, c5, rfl, hg5, ho5, hb5⟩; have L7 := Lib.hid (L6.out.call hb5); have R7 := Lib.hid ho5; clear hb5 ho5 hg5)
        | (go_simp; go_at_call 28; refine (CH1 _ P5d.out).mono ?_; rintro e w6 ⟨rfl, hb6⟩; have L6 := Lib.hid (L5d.out.call hb6); obtain ⟨z6, c60, c61, -, -⟩ := L6.out.1.two))
      all_goals
        go_wp2_with fail
        go_ret
        exact ⟨ret_bool (by simp), L8.out.2.2⟩
  · by_cases hl1 : len ≤ 1048576
    · have hl2 : 1048576 < len' := by omega
      clear hl
      go_enter Try.func11, Try.ntmps11
      go_wp2
      go_ret
      exact ⟨rfl, by (repeat (first | exact Below.refl _ _ | (refine Below.alloc ?_ (by first | exact Nat.le_refl _ | omega | (simp; done) | (simp; omega)) _) | (refine Below.setCell ?_ (by first | exact Nat.le_refl _ | omega | (simp; done) | (simp; omega)) _) | exact Below.drew ‹_›))⟩
    · clear hl
      go_enter Try.func11, Try.ntmps11
      go_wp2
      go_ret
      exact ⟨rfl, by (repeat (first | exact Below.refl _ _ | (refine Below.alloc ?_ (by first | exact Nat.le_refl _ | omega | (simp; done) | (simp; omega)) _) | (refine Below.setCell ?_ (by first | exact Nat.le_refl _ | omega | (simp; done) | (simp; omega)) _) | exact Below.drew ‹_›))⟩
end Go.Proofs.Ytkdcialdjnedeaa
