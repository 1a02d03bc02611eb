/-
  The walk of FnDistancesReach over this seat.
-/
import Derived.Test.YtigamnnboojiiaaDistL
import Derived.Test.YtigamnnboojiiaaDrawV
namespace Go.Proofs.Ytigamnnboojiiaa
open Go.RowKit

set_option maxRecDepth 100000 in
set_option maxHeartbeats 1600000 in
theorem distReach_walk (A : Option Addr) (len c : Nat) (f : Nat → Int) (w : World) (hlc : len ≤ c) (hc : c ≤ maxLen) (hB : Byt w w.heap.size A len f) :
   Calls Try.prog 11 #[.slice A len c] w fun e w' => e = .returned (.bool true) ∧ Below w.heap.size w w' := by
  have HB := Lib.hid hB
  clear hB
  by_cases hl : len ≤ 1048576
  · go_enter Try.func11, Try.ntmps11
    go_wp2_with fail
    refine (drawDist_any A len c f w hlc hc HB.out).mono ?_
    rintro e w1 ⟨n, ls, A1, g1, c1, x, rfl, ⟨hn0, hn1, hls, hg1, ho1, hb1⟩, hx0, hx1⟩
    have L1 := Lib.hid (show LB w w1.heap.size n ls A1 g1 c1 (w1.alloc (.cells #[.int .i64 n, .slice A1 ls.length c1] 30)) from ⟨Box.new w1 _ _, ho1.alloc _, hb1.alloc hb1.size _⟩)
    clear ho1 hb1 HB
    generalize hG : w1.heap.size = G at *
    go_wp2_with fail
    refine (dist_impl n A1 ls c1 x _ (by omega) L1.out.2.1.sl).mono ?_
    rintro e w2 ⟨A2, g2, c2, rfl, hg2, ho2, hb2⟩
    have L2 := Lib.hid (L1.out.call hb2)
    have P2 := Lib.hid ho2
    clear hb2 L1 hG ho2
    obtain ⟨z2, c20, c21, -, -⟩ := L2.out.1.two
    go_wp2_with fail
    refine (dist_spec n A1 ls c1 x w2 (by omega) (by omega) L2.out.2.1.sl).mono ?_
    rintro e w3 ⟨A3, g3, c3, rfl, hg3, ho3, hb3⟩
    have L3 := Lib.hid (L2.out.call hb3)
    have P3 := Lib.hid (P2.out.below hb3)
    have Q3 := Lib.hid ho3
    clear hb3 L2 z2 c20 c21 P2 ho3
    obtain ⟨z3, c30, c31, -, -⟩ := L3.out.1.two
    have hrs : (distL n ls x).length ≤ 8 := distL_len n ls x
    have HF : Hid (distL n ls x ≠ [] → gvB n ls = true ∧ (0 ≤ x ∧ x < n) ∧ ∀ k : Nat, (k : Int) < n → ∃ d, (distL n ls x)[k]? = some d ∧ decide ((k : Int) ∈ reachL n ls x) = decide (0 ≤ d)) := Lib.hid (fun h => by
      obtain ⟨hv, h0, h1⟩ := vwB_inv (distL_some h)
      obtain ⟨m, rfl⟩ : ∃ m : Nat, n = (m : Int) := ⟨n.toNat, by omega⟩
      refine ⟨hv, ⟨h0, h1⟩, fun k hk => ⟨_, distL_at hv ⟨h0, h1⟩ (by omega), ?_⟩⟩
      rw [decide_eq_decide, reach_mem (vwB_one hv ⟨h0, h1⟩) (gvB_fit hv).1 ⟨h0, h1⟩]
      constructor
      · exact fun h => h.2
      · exact fun h => ⟨⟨by omega, hk⟩, h⟩)
    generalize distL n ls x = xs at *
    go_wp2_with fail
    refine (sameInts_same A2 A3 xs c2 c3 w3 (by omega) P3.out.sli Q3.out.sli).mono ?_
    rintro e w4 ⟨rfl, hb4⟩
    have L4 := Lib.hid (L3.out.call hb4)
    have P4 := Lib.hid (P3.out.below hb4)
    have Q4 := Lib.hid (Q3.out.below hb4)
    clear hb4 L3 P3 Q3 z3 c30 c31 hg2 hg3
    obtain ⟨z4, c40, c41, -, -⟩ := L4.out.1.two
    by_cases hz : xs.length = 0
    · have hz' : ((xs.length : Int) == 0) = true := by simp [hz]
      clear HF hz
      go_wp2_with fail
      refine (sameInts_same A2 A3 xs c2 c3 w4 (by omega) P4.out.sli Q4.out.sli).mono ?_
      rintro e w5 ⟨rfl, hb5⟩
      have L5 := Lib.hid (L4.out.call hb5)
      go_wp2_with fail
      go_ret
      exact ⟨rfl, L5.out.2.2⟩
    · have hz' : ((xs.length : Int) == 0) = false := by simpa using hz
      have hxs : 0 < xs.length := by omega
      have HF := Lib.hid (HF.out (by intro e; rw [e] at hz; exact hz rfl))
      clear hz Q4
      obtain ⟨hv, hx, hat⟩ := HF.out
      obtain ⟨m, rfl⟩ : ∃ m : Nat, n = (m : Int) := ⟨n.toNat, by omega⟩
      have HAT := Lib.hid hat
      clear hat hv
      go_wp2_with fail
      refine (reach_impl m A1 ls c1 x _ (by omega) L4.out.2.1.sl).mono ?_
      rintro e w5 ⟨A5, g5, c5, rfl, hg5, ho5, hb5⟩
      have L5 := Lib.hid (L4.out.call hb5)
      have P5 := Lib.hid (P4.out.below hb5)
      have R5 := Lib.hid ho5
      have hr8 := reachL_len m ls x
      clear hb5 ho5 hg5 L4 P4 z4 c40 c41
      generalize reachL (m : Int) ls x = rs at *
      obtain ⟨z5, c50, c51, -, -⟩ := L5.out.1.two
      go_wp2_with fail
      go_loopw [8] (fun i wr => ∃ k : Nat, k ≤ m ∧ i = .int .i64 k ∧ LB w G m ls A1 g1 c1 wr ∧ Own1i wr A2 g2 xs ∧ Own1i wr A5 g5 rs) (fun i _ => m - (intOf i).toNat)
      case atStart => exact ⟨0, Nat.zero_le _, rfl, L5.out, P5.out, R5.out⟩
      case round =>
        obtain ⟨k, hk, rfl, hL, hP, hR⟩ := hrel
        have L6 := Lib.hid hL
        have P6 := Lib.hid hP
        have R6 := Lib.hid hR
        clear hL hP hR L5 P5 R5 z5 c50 c51
        obtain ⟨z6, c60, c61, -, -⟩ := L6.out.1.two
        by_cases hlt : k < m
        · obtain ⟨d, hd, hdec⟩ := HAT.out k (by omega)
          have HD := Lib.hid hd
          have hkl := (List.getElem?_eq_some_iff.1 hd).1
          obtain ⟨rfl, zg6, hc6⟩ := P6.out.at hd
          have CI := hasInt_any A5 rs c5 k _ (by omega) R6.out.drew.sli
          rw [hdec] at CI
          clear hd hdec
          go_wp2_with fail
          go_region_law (go_simp; go_at_call 27; refine CI.mono ?_; rintro e w7 ⟨rfl, hb7⟩; have L7 := Lib.hid (L6.out.drew.call hb7); have P7 := Lib.hid (P6.out.drew.below hb7); have R7 := Lib.hid (R6.out.drew.below hb7); obtain ⟨-, zg7, hc7⟩ := P7.out.at HD.out)
          all_goals
            go_wp2_with fail
            go_roundw
            case rel => exact ⟨k + 1, hlt, by go_num, L7.out, P7.out, R7.out⟩
            case measure => simp [intOf]; omega
        · have hge : m ≤ k := by omega
          go_wp2_with fail
          go_ret
          exact ⟨rfl, L6.out.2.2⟩
  · go_enter Try.func11, Try.ntmps11
    go_wp2
    go_ret
    exact ⟨rfl, by (repeat (first | exact Below.refl _ _ | (refine Below.alloc ?_ (by first | exact Nat.le_refl _ | omega | (simp; done) | (simp; omega)) _) | (refine Below.setCell ?_ (by first | exact Nat.le_refl _ | omega | (simp; done) | (simp; omega)) _) | exact Below.drew ‹_›))⟩
end Go.Proofs.Ytigamnnboojiiaa
