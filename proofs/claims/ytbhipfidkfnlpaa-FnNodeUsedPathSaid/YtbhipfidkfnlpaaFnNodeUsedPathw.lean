/-
  The walk of FnNodeUsedPath over this seat.
-/
import Derived.Test.YtbhipfidkfnlpaaPd
import Derived.Test.YtbhipfidkfnlpaaUs
import Derived.Test.YtbhipfidkfnlpaaA8
namespace Go.Proofs.Ytbhipfidkfnlpaa
open Go.RowKit

set_option maxRecDepth 100000 in
set_option maxHeartbeats 1600000 in
theorem nodePath_walk (A : Option Addr) (len c : Nat) (f : Nat → Int) (w : World) (hlc : len ≤ c) (hc : c ≤ maxLen) (hB : Byt w w.heap.size A len f) :
   Calls Try.prog 9 #[.slice A len c] w fun e w' => e = .returned (.bool true) ∧ Below w.heap.size w w' := by
  have HB := Lib.hid hB
  clear hB
  by_cases hl : len ≤ 1048576
  · go_enter Try.func9, Try.ntmps9
    go_wp2_with fail
    refine (drawPath_any A len c f w hlc hc HB.out).mono ?_
    rintro e w1 ⟨n, ls, A1, g1, c1, x, y, rfl, ⟨hn0, hn1, hls, hg1, ho1, hb1⟩, hx0, hx1, hy0, hy1⟩
    have L1 := Lib.hid (show LB w w1.heap.size n ls A1 g1 c1 (w1.alloc (.cells #[.int .i64 n, .slice A1 ls.length c1] 30)) from ⟨Box.new w1 _ _, ho1.alloc _, hb1.alloc hb1.size _⟩)
    clear ho1 hb1 HB
    generalize hG : w1.heap.size = G at *
    go_wp2_with fail
    refine (path_impl n A1 ls c1 x y _ (by omega) L1.out.2.1.sl).mono ?_
    rintro e w2 ⟨A2, g2, c2, rfl, hg2, ho2, hb2⟩
    have L2 := Lib.hid (L1.out.call hb2)
    have P2 := Lib.hid ho2
    clear hb2 L1 hG ho2
    obtain ⟨z2, c20, c21, -, -⟩ := L2.out.1.two
    go_wp2_with fail
    refine (path_spec n A1 ls c1 x y w2 (by omega) (by omega) L2.out.2.1.sl).mono ?_
    rintro e w3 ⟨A3, g3, c3, rfl, hg3, ho3, hb3⟩
    have L3 := Lib.hid (L2.out.call hb3)
    have P3 := Lib.hid (P2.out.below hb3)
    have Q3 := Lib.hid ho3
    clear hb3 L2 z2 c20 c21 P2 ho3
    obtain ⟨z3, c30, c31, -, -⟩ := L3.out.1.two
    have hrs : (pathI n ls x y).length ≤ 8 := pathI_len n ls x y
    have HF : Hid (pathI n ls x y ≠ [] → ∃ m : Nat, n = (m : Int) ∧ vwB (m : Int) ls [x, y] = true ∧ 0 ≤ bf (m : Int) ls y x ∧ IsP m ls y x (pathI n ls x y)) := Lib.hid pathI_some
    generalize pathI n ls x y = xs at *
    go_wp2_with fail
    refine (sameInts_same A2 A3 xs c2 c3 w3 (by omega) P3.out.sli Q3.out.sli).mono ?_
    rintro e w4 ⟨rfl, hb4⟩
    have L4 := Lib.hid (L3.out.call hb4)
    have P4 := Lib.hid (P3.out.below hb4)
    have Q4 := Lib.hid (Q3.out.below hb4)
    clear hb4 L3 P3 Q3 z3 c30 c31 hg2 hg3
    obtain ⟨z4, c40, c41, -, -⟩ := L4.out.1.two
    by_cases hz : xs.length = 0
    · have hz' : ((xs.length : Int) == 0) = true := by simp [hz]
      clear HF hz
      go_wp2_with fail
      refine (sameInts_same A2 A3 xs c2 c3 w4 (by omega) P4.out.sli Q4.out.sli).mono ?_
      rintro e w5 ⟨rfl, hb5⟩
      have L5 := Lib.hid (L4.out.call hb5)
      go_wp2_with fail
      go_ret
      exact ⟨rfl, L5.out.2.2⟩
    · have hz' : ((xs.length : Int) == 0) = false := by simpa using hz
      have hxs : 0 < xs.length := by omega
      have HF := Lib.hid (HF.out (by intro e; rw [e] at hz; exact hz rfl))
      clear hz Q4
      obtain ⟨m, rfl, hvw, h0, hp⟩ := HF.out
      obtain ⟨hg, hx, hy⟩ := vwB_two hvw
      have HG := Lib.hid hg
      have HIP := Lib.hid hp
      have HVW := Lib.hid hvw
      clear hg hp hvw
      have HU : Hid (∀ (k : Nat) (z : Int), xs[k]? = some z → nodeB (m : Int) ls x y z = true) := Lib.hid (fun k z hz => by
        obtain ⟨u1, u2, u3, u4⟩ := HIP.out.used HG.out hy hz
        unfold nodeB nodeL
        rw [vwB_three.2 ⟨HVW.out, u4⟩]
        simp only [Bool.true_and, Bool.and_eq_true, decide_eq_true_eq]
        omega)
      go_wp2_with fail
      go_loopw [8] (fun i wr => ∃ k : Nat, k ≤ xs.length ∧ i = .int .i64 k ∧ LB w G (m : Int) ls A1 g1 c1 wr ∧ Own1i wr A2 g2 xs) (fun i _ => xs.length - (intOf i).toNat)
      case atStart => exact ⟨0, Nat.zero_le _, rfl, L4.out, P4.out⟩
      case round =>
        obtain ⟨k, hk, rfl, hL, hP⟩ := hrel
        have L6 := Lib.hid hL
        have P6 := Lib.hid hP
        clear hL hP L4 P4 z4 c40 c41
        obtain ⟨z6, c60, c61, -, -⟩ := L6.out.1.two
        by_cases hlt : k < xs.length
        · obtain ⟨z, hz⟩ : ∃ z, xs[k]? = some z := ⟨_, List.getElem?_eq_getElem hlt⟩
          obtain ⟨rfl, zg, hc⟩ := P6.out.at hz
          have hz1 := HU.out k z hz
          have CN : ∀ X : Ext wr, Calls Try.prog 29 #[gval (m : Int) A1 ls.length c1, .int .i64 x, .int .i64 y, .int .i64 z] X.w fun e w' => e = .returned (.bool true) ∧ Below X.w.heap.size X.w w' := fun X => by
            have := node_impl (m : Int) A1 ls c1 x y z X.w (by omega) ((L6.out.2.1.sl.below X.below).more X.below.size)
            rwa [hz1] at this
          clear hz hz1
          have hX := fun (x : Ext wr) (bb o : Nat) (h : bb < wr.heap.size) => x.cell bb o h
          go_wp2_with fail
          refine wp_region_ext (by kernel_rfl) (by kernel_rfl) ?_
          repeat (go_big_quiet_step (first | (go_at_call 29; exact Calls.ext_of (CN _))))
          (refine wpQuiet_nil ?_); (rintro _ ⟨X, rfl⟩); (have hw1 := X.below); (generalize X.w = w1 at *); (clear X)
          clear hX
          have L7 := Lib.hid (L6.out.call hw1)
          have P7 := Lib.hid (P6.out.below hw1)
          go_wp2_with fail
          go_roundw
          case rel => exact ⟨k + 1, hlt, by go_num, L7.out, P7.out⟩
          case measure => simp [intOf]; omega
        · have hge : xs.length ≤ k := by omega
          go_wp2_with fail
          go_ret
          exact ⟨rfl, L6.out.2.2⟩
  · go_enter Try.func9, Try.ntmps9
    go_wp2
    go_ret
    exact ⟨rfl, by (repeat (first | exact Below.refl _ _ | (refine Below.alloc ?_ (by first | exact Nat.le_refl _ | omega | (simp; done) | (simp; omega)) _) | (refine Below.setCell ?_ (by first | exact Nat.le_refl _ | omega | (simp; done) | (simp; omega)) _) | exact Below.drew ‹_›))⟩
end Go.Proofs.Ytbhipfidkfnlpaa
