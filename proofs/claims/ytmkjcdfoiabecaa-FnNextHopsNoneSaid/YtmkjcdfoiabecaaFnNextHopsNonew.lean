/-
  The walk of FnNextHopsNone over this seat.
-/
import Derived.Test.YtmkjcdfoiabecaaHb
import Derived.Test.YtmkjcdfoiabecaaUs
import Derived.Test.YtmkjcdfoiabecaaA8
namespace Go.Proofs.Ytmkjcdfoiabecaa
open Go.RowKit

set_option maxRecDepth 100000 in
set_option maxHeartbeats 1600000 in
theorem hopsNone_walk (A : Option Addr) (len c : Nat) (f : Nat → Int) (w : World) (hlc : len ≤ c) (hc : c ≤ maxLen) (hB : Byt w w.heap.size A len f) :
   Calls Try.prog 8 #[.slice A len c] w fun e w' => e = .returned (.bool true) ∧ Below w.heap.size w w' := by
  have HB := Lib.hid hB
  clear hB
  by_cases hl : len ≤ 1048576
  · go_enter Try.func8, Try.ntmps8
    go_wp2_with fail
    refine (drawHops_any A len c f w hlc hc HB.out).mono ?_
    rintro e w1 ⟨n, ls, A1, g1, c1, x, y, rfl, ⟨hn0, hn1, hls, hg1, ho1, hb1⟩, hx0, hx1, hy0, hy1⟩
    have L1 := Lib.hid (show LB w w1.heap.size n ls A1 g1 c1 (w1.alloc (.cells #[.int .i64 n, .slice A1 ls.length c1] 30)) from ⟨Box.new w1 _ _, ho1.alloc _, hb1.alloc hb1.size _⟩)
    clear ho1 hb1 HB
    generalize hG : w1.heap.size = G at *
    go_wp2_with fail
    refine (hops_impl n A1 ls c1 x y _ (by omega) L1.out.2.1.sl).mono ?_
    rintro e w2 ⟨A2, g2, c2, rfl, hg2, ho2, hb2⟩
    have L2 := Lib.hid (L1.out.call hb2)
    have P2 := Lib.hid ho2
    clear hb2 L1 hG ho2
    obtain ⟨z2, c20, c21, -, -⟩ := L2.out.1.two
    go_wp2_with fail
    refine (hops_spec n A1 ls c1 x y w2 (by omega) (by omega) L2.out.2.1.sl).mono ?_
    rintro e w3 ⟨A3, g3, c3, rfl, hg3, ho3, hb3⟩
    have L3 := Lib.hid (L2.out.call hb3)
    have P3 := Lib.hid (P2.out.below hb3)
    have Q3 := Lib.hid ho3
    clear hb3 L2 z2 c20 c21 P2 ho3
    obtain ⟨z3, c30, c31, -, -⟩ := L3.out.1.two
    have hrs : (hopsL n ls x y).length ≤ 8 := hops_len n ls x y
    have HF : Hid (vwB n ls [x, y] = true → (hopsL n ls x y = [] ↔ x = y ∨ bf n ls x y < 0)) := Lib.hid (fun h => by
      obtain ⟨hg, hx, hy⟩ := vwB_two h
      rw [bf_symm (gvB_fit hg).1 hx hy]
      exact hops_nil h)
    generalize hopsL n ls x y = xs at *
    go_wp2_with fail
    refine (sameInts_same A2 A3 xs c2 c3 w3 (by omega) P3.out.sli Q3.out.sli).mono ?_
    rintro e w4 ⟨rfl, hb4⟩
    have L4 := Lib.hid (L3.out.call hb4)
    have P4 := Lib.hid (P3.out.below hb4)
    have Q4 := Lib.hid (Q3.out.below hb4)
    clear hb4 L3 P3 Q3 z3 c30 c31 hg2 hg3
    obtain ⟨z4, c40, c41, -, -⟩ := L4.out.1.two
    go_wp2_with fail
    refine (valid_spec_any n A1 ls c1 w4 (by omega) (by omega) L4.out.2.1.sl).mono ?_
    rintro e w5 ⟨rfl, hb5⟩
    have L5 := Lib.hid (L4.out.call hb5)
    have P5 := Lib.hid (P4.out.below hb5)
    have Q5 := Lib.hid (Q4.out.below hb5)
    clear hb5 L4 P4 Q4 z4 c40 c41
    obtain ⟨z5, c50, c51, -, -⟩ := L5.out.1.two
    cases hv : gvB n ls with
    | false =>
      go_wp2_with fail
      refine (sameInts_same A2 A3 xs c2 c3 w5 (by omega) P5.out.sli Q5.out.sli).mono ?_
      rintro e w9 ⟨rfl, hb9⟩
      have L9 := Lib.hid (L5.out.call hb9)
      go_wp2_with fail
      go_ret
      exact ⟨rfl, L9.out.2.2⟩
    | true =>
      by_cases h1 : x < 0
      · go_wp2_with fail
        refine (sameInts_same A2 A3 xs c2 c3 w5 (by omega) P5.out.sli Q5.out.sli).mono ?_
        rintro e w9 ⟨rfl, hb9⟩
        have L9 := Lib.hid (L5.out.call hb9)
        go_wp2_with fail
        go_ret
        exact ⟨rfl, L9.out.2.2⟩
      have h1' : decide (x < 0) = false := by simpa using h1
      by_cases h2 : n ≤ x
      · go_wp2_with fail
        refine (sameInts_same A2 A3 xs c2 c3 w5 (by omega) P5.out.sli Q5.out.sli).mono ?_
        rintro e w9 ⟨rfl, hb9⟩
        have L9 := Lib.hid (L5.out.call hb9)
        go_wp2_with fail
        go_ret
        exact ⟨rfl, L9.out.2.2⟩
      have h2' : decide (n ≤ x) = false := by simpa using h2
      by_cases h3 : y < 0
      · go_wp2_with fail
        refine (sameInts_same A2 A3 xs c2 c3 w5 (by omega) P5.out.sli Q5.out.sli).mono ?_
        rintro e w9 ⟨rfl, hb9⟩
        have L9 := Lib.hid (L5.out.call hb9)
        go_wp2_with fail
        go_ret
        exact ⟨rfl, L9.out.2.2⟩
      have h3' : decide (y < 0) = false := by simpa using h3
      by_cases h4 : n ≤ y
      · go_wp2_with fail
        refine (sameInts_same A2 A3 xs c2 c3 w5 (by omega) P5.out.sli Q5.out.sli).mono ?_
        rintro e w9 ⟨rfl, hb9⟩
        have L9 := Lib.hid (L5.out.call hb9)
        go_wp2_with fail
        go_ret
        exact ⟨rfl, L9.out.2.2⟩
      have h4' : decide (n ≤ y) = false := by simpa using h4
      have hvw : vwB n ls [x, y] = true := vwB_of hv ⟨by omega, by omega⟩ ⟨by omega, by omega⟩
      obtain ⟨m, rfl⟩ : ∃ q : Nat, n = (q : Int) := ⟨n.toNat, by omega⟩
      obtain ⟨xn, rfl⟩ : ∃ q : Nat, x = (q : Int) := ⟨x.toNat, by omega⟩
      obtain ⟨yn, rfl⟩ : ∃ q : Nat, y = (q : Int) := ⟨y.toNat, by omega⟩
      have hxm : xn < m := by omega
      have hym : yn < m := by omega
      have hnil := HF.out hvw
      have HG := Lib.hid hv
      clear hv hvw HF Q5
      by_cases hxy : xn = yn
      · subst hxy
        have he : xs = [] := hnil.2 (.inl rfl)
        have he' : ((xs.length : Int) == 0) = true := by simp [he]
        clear hnil he
        go_wp2_with fail
        go_ret
        exact ⟨ret_bool (by simp), L5.out.2.2⟩
      · have hxy' : ((xn : Int) == (yn : Int)) = false := by simp; omega
        have CD := dist_any m A1 ls c1 (xn : Int) yn w5 (by omega) HG.out ⟨by omega, by omega⟩ hym L5.out.2.1.sl
        have hz : xs.length = 0 ↔ bf (m : Int) ls (xn : Int) (yn : Int) < 0 := by
          rw [List.length_eq_zero_iff, hnil]
          constructor
          · rintro (h | h)
            · omega
            · exact h
          · exact .inr
        generalize bf (m : Int) ls (xn : Int) (yn : Int) = d at *
        have HZ := Lib.hid hz
        clear hnil hz hxy
        go_wp2_with fail
        refine CD.mono ?_
        rintro e w6 ⟨rfl, hb6⟩
        have L6 := Lib.hid (L5.out.call hb6)
        go_wp2_with fail
        go_ret
        exact ⟨ret_bool (by have := HZ.out; simp only [beq_iff_eq]; rw [Bool.eq_iff_iff]; simp only [beq_iff_eq, decide_eq_true_eq]; omega), L6.out.2.2⟩
  · go_enter Try.func8, Try.ntmps8
    go_wp2
    go_ret
    exact ⟨rfl, by (repeat (first | exact Below.refl _ _ | (refine Below.alloc ?_ (by first | exact Nat.le_refl _ | omega | (simp; done) | (simp; omega)) _) | (refine Below.setCell ?_ (by first | exact Nat.le_refl _ | omega | (simp; done) | (simp; omega)) _) | exact Below.drew ‹_›))⟩
end Go.Proofs.Ytmkjcdfoiabecaa
