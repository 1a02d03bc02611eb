/-
  The walk of FnAfter over this seat.
-/
import Derived.Test.YtkdcialdjnedeaaAe
namespace Go.Proofs.Ytkdcialdjnedeaa
open Go.RowKit

set_option maxRecDepth 100000 in
set_option maxHeartbeats 1600000 in
theorem after_walk (A : Option Addr) (len c : Nat) (f : Nat → Int) (w : World) (hlc : len ≤ c) (hc : c ≤ maxLen) (hB : Byt w w.heap.size A len f) :
   Calls Try.prog 5 #[.slice A len c] w fun e w' => e = .returned (.bool true) ∧ Below w.heap.size w w' := by
  have HB := Lib.hid hB
  clear hB
  by_cases hl : len ≤ 1048576
  · go_enter Try.func5, Try.ntmps5
    go_wp2_with fail
    refine (drawAft_any A len c f w hlc hc HB.out).mono ?_
    rintro e w1 ⟨n, ls, A1, g1, c1, x, y, z, rfl, ⟨hn0, hn1, hls, hg1, ho1, hb1⟩, hx0, hx1, hy0, hy1, hz0, hz1⟩
    have L1 := Lib.hid (show LB w w1.heap.size n ls A1 g1 c1 (w1.alloc (.cells #[.int .i64 n, .slice A1 ls.length c1] 30)) from ⟨Box.new w1 _ _, ho1.alloc _, hb1.alloc hb1.size _⟩)
    clear ho1 hb1 HB
    generalize hG : w1.heap.size = G at *
    go_wp2_with fail
    refine (aft_impl n A1 ls c1 x y z _ (by omega) L1.out.2.1.isA L1.out.2.1.sl).mono ?_
    rintro e w2 ⟨A2, g2, c2, rfl, hg2, ho2, hb2⟩
    have L2 := Lib.hid (L1.out.call hb2)
    have P2 := Lib.hid ho2
    clear hb2 L1 hG ho2
    obtain ⟨z2, c20, c21, -, -⟩ := L2.out.1.two
    go_wp2_with fail
    refine (aft_spec n A1 ls c1 x y z w2 (by omega) L2.out.2.1.isA (by omega) L2.out.2.1.sl).mono ?_
    rintro e w3 ⟨A3, g3, c3, rfl, hg3, ho3, hb3⟩
    have L3 := Lib.hid (L2.out.call hb3)
    have P3 := Lib.hid (P2.out.below hb3)
    have Q3 := Lib.hid ho3
    clear hb3 L2 z2 c20 c21 P2 ho3
    obtain ⟨z3, c30, c31, -, -⟩ := L3.out.1.two
    have hrs : (aftL n ls x y z).length ≤ 8 := aftL_len8 n ls x y z
    have HF : Hid (aftL n ls x y z ≠ [] → costOk n ls y z = true ∧ distL n (costLs ls y.toNat z) x = aftL n ls x y z) := Lib.hid (fun h => by
      unfold aftL at h ⊢
      by_cases hc : costOk n ls y z = true
      · exact ⟨hc, by rw [if_pos hc]⟩
      · rw [if_neg hc] at h
        exact absurd rfl h)
    generalize aftL n ls x y z = xs at *
    go_wp2_with fail
    refine (sameInts_same A2 A3 xs c2 c3 w3 (by omega) P3.out.sli Q3.out.sli).mono ?_
    rintro e w4 ⟨rfl, hb4⟩
    have L4 := Lib.hid (L3.out.call hb4)
    have P4 := Lib.hid (P3.out.below hb4)
    have Q4 := Lib.hid (Q3.out.below hb4)
    clear hb4 L3 P3 Q3 z3 c30 c31 hg2 hg3
    obtain ⟨z4, c40, c41, -, -⟩ := L4.out.1.two
    by_cases hz : xs.length = 0
    · have hz' : ((xs.length : Int) == 0) = true := by simp [hz]
      clear HF hz
      go_wp2_with fail
      refine (sameInts_same A2 A3 xs c2 c3 w4 (by omega) P4.out.sli Q4.out.sli).mono ?_
      rintro e w5 ⟨rfl, hb5⟩
      have L5 := Lib.hid (L4.out.call hb5)
      go_wp2_with fail
      go_ret
      exact ⟨rfl, L5.out.2.2⟩
    · have hz' : ((xs.length : Int) == 0) = false := by simpa using hz
      have hxs : 0 < xs.length := by omega
      have HF := Lib.hid (HF.out (by intro e; rw [e] at hz; exact hz rfl))
      clear hz Q4
      obtain ⟨hok, hd⟩ := HF.out
      have CC := cost_implA n A1 ls c1 y z w4 (by omega) L4.out.2.1.isA L4.out.2.1.sl
      rw [if_pos hok] at CC
      have hrl : (costLs ls y.toNat z).length ≤ 16 := by rw [costLs_len]; exact hls
      have HD := Lib.hid hd
      clear hok hd HF
      generalize costLs ls y.toNat z = rs at *
      go_wp2_with fail
      refine CC.mono ?_
      clear CC
      rintro e w5 ⟨A5, g5, c5, rfl, hg5, ho5, hb5⟩
      have L5 := Lib.hid (L4.out.call hb5)
      have L6 := Lib.hid (L5.out.alloc (.cells #[.int .i64 n, .slice A5 rs.length c5] 30))
      have P6 := Lib.hid ((P4.out.below hb5).alloc (.cells #[.int .i64 n, .slice A5 rs.length c5] 30))
      have CD := dist_impl n A5 rs c5 x _ (by omega) (ho5.alloc (.cells #[.int .i64 n, .slice A5 rs.length c5] 30)).sl
      rw [HD.out] at CD
      clear hb5 ho5 hg5 L4 P4 L5 z4 c40 c41
      go_wp2_with fail
      refine CD.mono ?_
      clear CD
      rintro e w7 ⟨A7, g7, c7, rfl, hg7, ho7, hb7⟩
      have L7 := Lib.hid (L6.out.call hb7)
      have P7 := Lib.hid (P6.out.below hb7)
      have R7 := Lib.hid ho7
      clear hb7 ho7 hg7 L6 P6
      go_wp2_with fail
      refine (sameInts_same A7 A2 xs c7 c2 w7 (by omega) R7.out.sli P7.out.sli).mono ?_
      rintro e w8 ⟨rfl, hb8⟩
      have L8 := Lib.hid (L7.out.call hb8)
      go_wp2_with fail
      go_ret
      exact ⟨rfl, L8.out.2.2⟩
  · go_enter Try.func5, Try.ntmps5
    go_wp2
    go_ret
    exact ⟨rfl, by (repeat (first | exact Below.refl _ _ | (refine Below.alloc ?_ (by first | exact Nat.le_refl _ | omega | (simp; done) | (simp; omega)) _) | (refine Below.setCell ?_ (by first | exact Nat.le_refl _ | omega | (simp; done) | (simp; omega)) _) | exact Below.drew ‹_›))⟩
end Go.Proofs.Ytkdcialdjnedeaa
