/-
  The walk of FnReach over this seat.
-/
import Derived.Test.YtigamnnboojiiaaDistL
import Derived.Test.YtigamnnboojiiaaDrawV
namespace Go.Proofs.Ytigamnnboojiiaa
open Go.RowKit

set_option maxRecDepth 100000 in
set_option maxHeartbeats 1600000 in
theorem reach_walk (A : Option Addr) (len c : Nat) (f : Nat → Int) (w : World) (hlc : len ≤ c) (hc : c ≤ maxLen) (hB : Byt w w.heap.size A len f) :
   Calls Try.prog 5 #[.slice A len c] w fun e w' => e = .returned (.bool true) ∧ Below w.heap.size w w' := by
  have HB := Lib.hid hB
  clear hB
  by_cases hl : len ≤ 1048576
  · go_enter Try.func5, Try.ntmps5
    go_wp2_with fail
    refine (drawReach_any A len c f w hlc hc HB.out).mono ?_
    rintro e w1 ⟨n, ls, A1, g1, c1, x, rfl, ⟨hn0, hn1, hls, hg1, ho1, hb1⟩, hx0, hx1⟩
    have L1 := Lib.hid (show LB w w1.heap.size n ls A1 g1 c1 (w1.alloc (.cells #[.int .i64 n, .slice A1 ls.length c1] 30)) from ⟨Box.new w1 _ _, ho1.alloc _, hb1.alloc hb1.size _⟩)
    clear ho1 hb1 HB
    generalize hG : w1.heap.size = G at *
    go_wp2_with fail
    refine (reach_impl n A1 ls c1 x _ (by omega) L1.out.2.1.sl).mono ?_
    rintro e w2 ⟨A2, g2, c2, rfl, hg2, ho2, hb2⟩
    have L2 := Lib.hid (L1.out.call hb2)
    have P2 := Lib.hid ho2
    clear hb2 L1 hG ho2
    obtain ⟨z2, c20, c21, -, -⟩ := L2.out.1.two
    go_wp2_with fail
    refine (reach_spec n A1 ls c1 x w2 (by omega) (by omega) L2.out.2.1.sl).mono ?_
    rintro e w3 ⟨A3, g3, c3, rfl, hg3, ho3, hb3⟩
    have L3 := Lib.hid (L2.out.call hb3)
    have P3 := Lib.hid (P2.out.below hb3)
    have Q3 := Lib.hid ho3
    clear hb3 L2 z2 c20 c21 P2 ho3
    obtain ⟨z3, c30, c31, -, -⟩ := L3.out.1.two
    have hrs : (reachL n ls x).length ≤ 8 := reachL_len n ls x
    have HF : Hid (reachL n ls x ≠ [] → gvB n ls = true ∧ (0 ≤ x ∧ x < n) ∧ x ∈ reachL n ls x ∧ ∀ y ∈ reachL n ls x, ∀ z ∈ nbI n ls y, z ∈ reachL n ls x) := Lib.hid (fun h => by
      obtain ⟨hv, h0, h1⟩ := vwB_inv (reachL_some h)
      obtain ⟨m, rfl⟩ : ∃ m : Nat, n = (m : Int) := ⟨n.toNat, by omega⟩
      exact ⟨hv, ⟨h0, h1⟩, reach_self hv ⟨h0, h1⟩, fun y hy z hz => reach_closed hv ⟨h0, h1⟩ hy hz⟩)
    have HP := Lib.hid (reachL_asc n ls x)
    generalize reachL n ls x = xs at *
    go_wp2_with fail
    refine (sameInts_same A2 A3 xs c2 c3 w3 (by omega) P3.out.sli Q3.out.sli).mono ?_
    rintro e w4 ⟨rfl, hb4⟩
    have L4 := Lib.hid (L3.out.call hb4)
    have P4 := Lib.hid (P3.out.below hb4)
    have Q4 := Lib.hid (Q3.out.below hb4)
    clear hb4 L3 P3 Q3 z3 c30 c31 hg2 hg3
    obtain ⟨z4, c40, c41, -, -⟩ := L4.out.1.two
    by_cases hz : xs.length = 0
    · have hz' : ((xs.length : Int) == 0) = true := by simp [hz]
      clear HF hz
      go_wp2_with fail
      refine (sameInts_same A2 A3 xs c2 c3 w4 (by omega) P4.out.sli Q4.out.sli).mono ?_
      rintro e w5 ⟨rfl, hb5⟩
      have L5 := Lib.hid (L4.out.call hb5)
      go_wp2_with fail
      go_ret
      exact ⟨rfl, L5.out.2.2⟩
    · have hz' : ((xs.length : Int) == 0) = false := by simpa using hz
      have hxs : 0 < xs.length := by omega
      have HF := Lib.hid (HF.out (by intro e; rw [e] at hz; exact hz rfl))
      clear hz Q4
      obtain ⟨hv, hx, hxm, hcl⟩ := HF.out
      have HCL := Lib.hid hcl
      have HXM := Lib.hid hxm
      clear hv hxm hcl
      go_wp2_with fail
      go_loopw [7] (fun i wr => ∃ k : Nat, k ≤ xs.length ∧ i = .int .i64 k ∧ LB w G n ls A1 g1 c1 wr ∧ Own1i wr A2 g2 xs) (fun i _ => xs.length - (intOf i).toNat)
      case atStart => exact ⟨0, Nat.zero_le _, rfl, L4.out, P4.out⟩
      case round =>
        obtain ⟨k, hk, rfl, hL, hP⟩ := hrel
        have L6 := Lib.hid hL
        have P6 := Lib.hid hP
        clear hL hP L4 P4 z4 c40 c41
        obtain ⟨z6, c60, c61, -, -⟩ := L6.out.1.two
        by_cases hlt : k < xs.length
        · obtain ⟨y, hy⟩ : ∃ y, xs[k]? = some y := ⟨_, List.getElem?_eq_getElem hlt⟩
          obtain ⟨rfl, zg, hc⟩ := P6.out.at hy
          have HY := Lib.hid (List.mem_of_getElem? hy)
          clear hy
          go_wp2_with fail
          go_region_law (go_simp; go_at_call 26; refine (nb_impl n A1 ls c1 y _ (by omega) L6.out.drew.2.1.sl).mono ?_; rintro e w7 ⟨A5, g5, c5, rfl, hg5, ho5, hb5⟩; have L7 := Lib.hid (L6.out.drew.call hb5); have P7 := Lib.hid (P6.out.drew.below hb5); have R7 := Lib.hid ho5; clear hb5 ho5 hg5)
          all_goals
            have hn := nbI_len n ls y
            have HZ := Lib.hid (HCL.out y HY.out)
            generalize nbI n ls y = zs at *
            clear c60 c61 z6 zg hc
            go_wp2_with fail
            go_loopw [9] (fun i wr => ∃ j : Nat, j ≤ zs.length ∧ i = .int .i64 j ∧ LB w G n ls A1 g1 c1 wr ∧ Own1i wr (some ⟨g2, 0, none⟩) g2 xs ∧ Own1i wr A5 g5 zs) (fun i _ => zs.length - (intOf i).toNat)
            case atStart => exact ⟨0, Nat.zero_le _, rfl, L7.out, P7.out, R7.out⟩
            case round =>
              obtain ⟨j, hj, rfl, hL, hP, hR⟩ := hrel
              have L8 := Lib.hid hL
              have P8 := Lib.hid hP
              have R8 := Lib.hid hR
              clear hL hP hR L7 P7 R7
              by_cases hlt2 : j < zs.length
              · obtain ⟨z, hz⟩ : ∃ z, zs[j]? = some z := ⟨_, List.getElem?_eq_getElem hlt2⟩
                obtain ⟨rfl, zg, hc⟩ := R8.out.at hz
                have hd : decide (z ∈ xs) = true := by simpa using HZ.out z (List.mem_of_getElem? hz)
                have CI := hasInt_any (some ⟨g2, 0, none⟩) xs c2 z _ (by omega) P8.out.sli
                rw [hd] at CI
                clear hz hd
                go_wp2_with fail
                refine CI.mono ?_
                rintro e w9 ⟨rfl, hb9⟩
                have L9 := Lib.hid (L8.out.call hb9)
                have P9 := Lib.hid (P8.out.below hb9)
                have R9 := Lib.hid (R8.out.below hb9)
                go_wp2_with fail
                go_roundw
                case rel => exact ⟨j + 1, hlt2, by go_num, L9.out, P9.out, R9.out⟩
                case measure => simp [intOf]; omega
              · have hge : zs.length ≤ j := by omega
                go_wp2_with fail
                go_roundw
                case rel => exact ⟨k + 1, hlt, by go_num, L8.out, P8.out⟩
                case measure => simp [intOf]; omega
        · have hge : xs.length ≤ k := by omega
          have hd : decide (x ∈ xs) = true := by simpa using HXM.out
          have CI := hasInt_any A2 xs c2 x _ (by omega) P6.out.sli
          rw [hd] at CI
          clear hd
          go_wp2_with fail
          refine CI.mono ?_
          rintro e w9 ⟨rfl, hb9⟩
          have L9 := Lib.hid (L6.out.call hb9)
          have P9 := Lib.hid (P6.out.below hb9)
          clear CI hb9
          go_wp2_with fail
          refine (ascending_any A2 xs c2 _ (by omega) P9.out.sli HP.out).mono ?_
          rintro e w10 ⟨rfl, hb10⟩
          have L10 := Lib.hid (L9.out.call hb10)
          go_wp2_with fail
          go_ret
          exact ⟨rfl, L10.out.2.2⟩
  · go_enter Try.func5, Try.ntmps5
    go_wp2
    go_ret
    exact ⟨rfl, by (repeat (first | exact Below.refl _ _ | (refine Below.alloc ?_ (by first | exact Nat.le_refl _ | omega | (simp; done) | (simp; omega)) _) | (refine Below.setCell ?_ (by first | exact Nat.le_refl _ | omega | (simp; done) | (simp; omega)) _) | exact Below.drew ‹_›))⟩
end Go.Proofs.Ytigamnnboojiiaa
