/-
  The walk of FnSafeNodes over this seat.
-/
import Derived.Test.YtenlofomkchlaaaVm
import Derived.Test.YtenlofomkchlaaaA8
namespace Go.Proofs.Ytenlofomkchlaaa
open Go.RowKit Go.Maps

set_option maxRecDepth 100000 in
set_option maxHeartbeats 1600000 in
theorem fnSafeNodes_walk (A : Option Addr) (len c : Nat) (f : Nat → Int) (w : World) (hlc : len ≤ c) (hc : c ≤ maxLen) (hB : Byt w w.heap.size A len f) :
   Calls Try.prog 6 #[.slice A len c] w fun e w' => e = .returned (.bool true) ∧ Below w.heap.size w w' := by
  have HB := Lib.hid hB
  clear hB
  by_cases hl : len ≤ 1048576
  · go_enter Try.func6, Try.ntmps6
    go_wp2_with fail
    refine (drawRepS_any A len c f w hlc hc HB.out).mono ?_
    rintro e w1 ⟨n, ls, A1, g1, c1, x, y, rfl, ⟨hn0, hn1, hls, hg1, ho1, hb1⟩, hx0, hx1, hy0, hy1, hcap⟩
    have L1 := Lib.hid (show LB w w1.heap.size n ls A1 g1 c1 (w1.alloc (.cells #[.int .i64 n, .slice A1 ls.length c1] 30)) from ⟨Box.new w1 _ _, ho1.alloc _, hb1.alloc hb1.size _⟩)
    clear ho1 hb1 HB
    generalize hG : w1.heap.size = G at *
    go_wp2_with fail
    refine (repSafe_impl n A1 ls c1 x y _ (by omega) L1.out.2.1.sl).mono ?_
    rintro e w2 ⟨A2, g2, c2, rfl, hg2, ho2, hb2⟩
    have L2 := Lib.hid (L1.out.call hb2)
    have P2 := Lib.hid ho2
    clear hb2 L1 hG ho2
    obtain ⟨z2, c20, c21, -, -⟩ := L2.out.1.two
    go_wp2_with fail
    refine (repSafe_spec n A1 ls c1 x y w2 (by omega) (by omega) L2.out.2.1.sl).mono ?_
    rintro e w3 ⟨A3, g3, c3, rfl, hg3, ho3, hb3⟩
    have L3 := Lib.hid (L2.out.call hb3)
    have P3 := Lib.hid (P2.out.below hb3)
    have Q3 := Lib.hid ho3
    clear hb3 L2 z2 c20 c21 P2 ho3
    obtain ⟨z3, c30, c31, -, -⟩ := L3.out.1.two
    have hrs : (safeA n ls x y).length ≤ 8 := safeA_len8 n ls x y
    have HF := Lib.hid (fun h => safe_law (n := n) (ls := ls) (s := x) (x := y) hn0 h)
    have hrl := reachL_len8 n ls x
    have CR := fun W (h : Sl W W.heap.size A1 ls) => reach_impl n A1 ls c1 x W (by omega) h
    generalize reachL n ls x = rs at *
    generalize safeA n ls x y = xs at *
    go_wp2_with fail
    refine (sameInts_same A2 A3 xs c2 c3 w3 (by omega) P3.out.sli Q3.out.sli).mono ?_
    rintro e w4 ⟨rfl, hb4⟩
    have L4 := Lib.hid (L3.out.call hb4)
    have P4 := Lib.hid (P3.out.below hb4)
    have Q4 := Lib.hid (Q3.out.below hb4)
    clear hb4 L3 P3 Q3 z3 c30 c31 hg2 hg3
    obtain ⟨z4, c40, c41, -, -⟩ := L4.out.1.two
    by_cases hz : xs.length = 0
    · have hz' : ((xs.length : Int) == 0) = true := by simp [hz]
      clear HF hz
      go_wp2_with fail
      refine (sameInts_same A2 A3 xs c2 c3 w4 (by omega) P4.out.sli Q4.out.sli).mono ?_
      rintro e w5 ⟨rfl, hb5⟩
      have L5 := Lib.hid (L4.out.call hb5)
      go_wp2_with fail
      go_ret
      exact ⟨rfl, L5.out.2.2⟩
    · have hz' : ((xs.length : Int) == 0) = false := by simpa using hz
      have hxs : 0 < xs.length := by omega
      have HF := Lib.hid (HF.out (by intro e; rw [e] at hz; exact hz rfl))
      clear hz Q4
      obtain ⟨hall, hasc, hself⟩ := HF.out
      have HALL := Lib.hid hall
      have HASC := Lib.hid hasc
      have HSELF := Lib.hid (decide_eq_true hself)
      clear hall hasc hself HF
      go_wp2_with fail
      refine (CR _ L4.out.2.1.sl).mono ?_
      clear CR
      rintro e w5 ⟨A5, g5, c5, rfl, -, ho5, hb⟩
      have L5 := Lib.hid (L4.out.call hb)
      have P5 := Lib.hid (P4.out.below hb)
      have R5 := Lib.hid ho5
      clear hb ho5 L4 P4 z4 c40 c41
      go_wp2_with fail
      go_loopw [9] (fun i wr => ∃ k : Nat, (k : Int) ≤ n ∧ i = .int .i64 (k : Int) ∧ Hid (LB w G n ls A1 g1 c1 wr) ∧ Hid (Own1i wr A2 g2 xs) ∧ Hid (Own1i wr A5 g5 rs)) (fun i _ => n.toNat - (intOf i).toNat)
      case atStart => exact ⟨0, hn0, rfl, L5, P5, R5⟩
      case round =>
        obtain ⟨k, hk, rfl, L6, P6, R6⟩ := hrel
        clear L5 P5 R5
        obtain ⟨zg, d0, d1, -, -⟩ := L6.out.1.two
        by_cases hlt : (k : Int) < n
        · have C1 := hasInt_any A2 xs c2 (k : Int) wr (by omega) P6.out.sli
          rw [HALL.out (k : Int) (by omega) hlt] at C1
          have C2 := fun W (h : Sli W W.heap.size A5 rs) => hasInt_any A5 rs c5 (k : Int) W (by omega) h
          have C3 := fun W (h : Sl W W.heap.size A1 ls) => used_impl n A1 ls c1 x (k : Int) y W (by omega) h
          generalize decide ((k : Int) ∈ rs) = p at *
          generalize usedB n ls x (k : Int) y = u at *
          cases p with
          | false =>
            rw [Bool.false_and] at C1
            go_wp2_with fail
            refine (C1).mono ?_
            rintro e w7 ⟨rfl, hb⟩
            have L7 := Lib.hid (L6.out.call hb)
            have P7 := Lib.hid (P6.out.below hb)
            have R7 := Lib.hid (R6.out.below hb)
            clear hb L6 P6 R6 zg d0 d1
            go_wp2_with fail
            refine (C2 _ R7.out.sli).mono ?_
            rintro e w8 ⟨rfl, hb⟩
            have L8 := Lib.hid (L7.out.call hb)
            have P8 := Lib.hid (P7.out.below hb)
            have R8 := Lib.hid (R7.out.below hb)
            clear hb L7 P7 R7 
            go_wp2_with fail
            go_roundw
            case rel => exact ⟨k + 1, by omega, by go_num, L8, P8, R8⟩
            case measure => simp [intOf]; omega
          | true =>
            rw [Bool.true_and] at C1
            have hun : ((!u) != (!u)) = false := by simp
            go_wp2_with fail
            refine (C1).mono ?_
            rintro e w7 ⟨rfl, hb⟩
            have L7 := Lib.hid (L6.out.call hb)
            have P7 := Lib.hid (P6.out.below hb)
            have R7 := Lib.hid (R6.out.below hb)
            clear hb L6 P6 R6 zg d0 d1
            go_wp2_with fail
            refine (C2 _ R7.out.sli).mono ?_
            rintro e w8 ⟨rfl, hb⟩
            have L8 := Lib.hid (L7.out.call hb)
            have P8 := Lib.hid (P7.out.below hb)
            have R8 := Lib.hid (R7.out.below hb)
            clear hb L7 P7 R7 
            obtain ⟨zg, d0, d1, -, -⟩ := L8.out.1.two
            go_wp2_with fail
            refine (C3 _ L8.out.2.1.sl).mono ?_
            rintro e w9 ⟨rfl, hb⟩
            have L9 := Lib.hid (L8.out.call hb)
            have P9 := Lib.hid (P8.out.below hb)
            have R9 := Lib.hid (R8.out.below hb)
            clear hb L8 P8 R8 zg d0 d1
            go_wp2_with fail
            go_roundw
            case rel => exact ⟨k + 1, by omega, by go_num, L9, P9, R9⟩
            case measure => simp [intOf]; omega
        · have C1 := ascending_any A2 xs c2 wr (by omega) P6.out.sli HASC.out
          have C2 := fun W (h : Sli W W.heap.size A2 xs) => hasInt_any A2 xs c2 x W (by omega) h
          rw [HSELF.out] at C2
          go_wp2_with fail
          refine (C1).mono ?_
          rintro e w7 ⟨rfl, hb⟩
          have L7 := Lib.hid (L6.out.call hb)
          have P7 := Lib.hid (P6.out.below hb)
          clear hb L6 P6 zg d0 d1
          go_wp2_with fail
          refine (C2 _ P7.out.sli).mono ?_
          rintro e w8 ⟨rfl, hb⟩
          have L8 := Lib.hid (L7.out.call hb)
          have P8 := Lib.hid (P7.out.below hb)
          clear hb L7 P7 
          go_wp2_with fail
          go_ret
          exact ⟨rfl, L8.out.2.2⟩
  · go_enter Try.func6, Try.ntmps6
    go_wp2
    go_ret
    exact ⟨rfl, by (repeat (first | exact Below.refl _ _ | (refine Below.alloc ?_ (by first | exact Nat.le_refl _ | omega | (simp; done) | (simp; omega)) _) | (refine Below.setCell ?_ (by first | exact Nat.le_refl _ | omega | (simp; done) | (simp; omega)) _) | exact Below.drew ‹_›))⟩
end Go.Proofs.Ytenlofomkchlaaa
