/-
  The walk of FnDistancesThree over this seat.
-/
import Derived.Test.YtigamnnboojiiaaDistL
import Derived.Test.YtigamnnboojiiaaDrawV
namespace Go.Proofs.Ytigamnnboojiiaa
open Go.RowKit

set_option maxRecDepth 100000 in
set_option maxHeartbeats 1600000 in
theorem distThree_walk (A : Option Addr) (len c : Nat) (Am : Option Addr) (len' c' : Nat) (f f' : Nat → Int) (w : World) (hlc : len ≤ c) (hc : c ≤ maxLen) (hB : Byt w w.heap.size A len f) (_hlc' : len' ≤ c') (_hc' : c' ≤ maxLen) (_hB' : Byt w w.heap.size Am len' f') :
   Calls Try.prog 10 #[.slice A len c, .slice Am len' c'] w fun e w' => e = .returned (.bool true) ∧ Below w.heap.size w w' := by
  have HB := Lib.hid hB
  clear hB _hB'
  by_cases hl : len ≤ 1048576 ∧ len' ≤ 1048576
  · obtain ⟨hl, hl'⟩ := hl
    go_enter Try.func10, Try.ntmps10
    go_wp2_with fail
    refine (drawDist_any A len c f w hlc hc HB.out).mono ?_
    rintro e w1 ⟨n, ls, A1, g1, c1, x, rfl, ⟨hn0, hn1, hls, hg1, ho1, hb1⟩, hx0, hx1⟩
    have L1 := Lib.hid (show LB w w1.heap.size n ls A1 g1 c1 (w1.alloc (.cells #[.int .i64 n, .slice A1 ls.length c1] 30)) from ⟨Box.new w1 _ _, ho1.alloc _, hb1.alloc hb1.size _⟩)
    clear ho1 hb1 HB
    generalize hG : w1.heap.size = G at *
    go_wp2_with fail
    refine (dist_impl n A1 ls c1 x _ (by omega) L1.out.2.1.sl).mono ?_
    rintro e w2 ⟨A2, g2, c2, rfl, hg2, ho2, hb2⟩
    have L2 := Lib.hid (L1.out.call hb2)
    have P2 := Lib.hid ho2
    clear hb2 L1 hG ho2
    obtain ⟨z2, c20, c21, -, -⟩ := L2.out.1.two
    go_wp2_with fail
    refine (dist_spec n A1 ls c1 x w2 (by omega) (by omega) L2.out.2.1.sl).mono ?_
    rintro e w3 ⟨A3, g3, c3, rfl, hg3, ho3, hb3⟩
    have L3 := Lib.hid (L2.out.call hb3)
    have P3 := Lib.hid (P2.out.below hb3)
    have Q3 := Lib.hid ho3
    clear hb3 L2 z2 c20 c21 P2 ho3
    obtain ⟨z3, c30, c31, -, -⟩ := L3.out.1.two
    have hrs : (distL n ls x).length ≤ 8 := distL_len n ls x
    have HF : Hid (distL n ls x ≠ [] → gvB n ls = true ∧ (0 ≤ x ∧ x < n) ∧ (∀ k : Nat, (k : Int) < n → (distL n ls x)[k]? = some (bf n ls x k)) ∧ (∀ v : Int, -1 ≤ bf n ls x v ∧ bf n ls x v ≤ 140) ∧
        ∀ k j : Nat, (k : Int) < n → (j : Int) < n → (-1 ≤ bf n ls k j ∧ bf n ls k j ≤ 140) ∧ (0 ≤ bf n ls x k → 0 ≤ bf n ls k j → 0 ≤ bf n ls x j ∧ bf n ls x j ≤ bf n ls x k + bf n ls k j)) := Lib.hid (fun h => by
      obtain ⟨hv, h0, h1⟩ := vwB_inv (distL_some h)
      obtain ⟨m, rfl⟩ : ∃ m : Nat, n = (m : Int) := ⟨n.toNat, by omega⟩
      obtain ⟨hf, _, h8, _⟩ := gvB_fit hv
      exact ⟨hv, ⟨h0, h1⟩, fun k hk => distL_at hv ⟨h0, h1⟩ (by omega), fun v => bf_bound hf ⟨h0, h1⟩ h8 v, fun k j hk hj => ⟨bf_bound hf ⟨by omega, hk⟩ h8 j, bf_three hf ⟨h0, h1⟩ ⟨by omega, hk⟩⟩⟩)
    generalize distL n ls x = xs at *
    go_wp2_with fail
    refine (sameInts_same A2 A3 xs c2 c3 w3 (by omega) P3.out.sli Q3.out.sli).mono ?_
    rintro e w4 ⟨rfl, hb4⟩
    have L4 := Lib.hid (L3.out.call hb4)
    have P4 := Lib.hid (P3.out.below hb4)
    have Q4 := Lib.hid (Q3.out.below hb4)
    clear hb4 L3 P3 Q3 z3 c30 c31 hg2 hg3
    obtain ⟨z4, c40, c41, -, -⟩ := L4.out.1.two
    by_cases hz : xs.length = 0
    · have hz' : ((xs.length : Int) == 0) = true := by simp [hz]
      clear HF hz
      go_wp2_with fail
      refine (sameInts_same A2 A3 xs c2 c3 w4 (by omega) P4.out.sli Q4.out.sli).mono ?_
      rintro e w5 ⟨rfl, hb5⟩
      have L5 := Lib.hid (L4.out.call hb5)
      go_wp2_with fail
      go_ret
      exact ⟨rfl, L5.out.2.2⟩
    · have hz' : ((xs.length : Int) == 0) = false := by simpa using hz
      have hxs : 0 < xs.length := by omega
      have HF := Lib.hid (HF.out (by intro e; rw [e] at hz; exact hz rfl))
      clear hz Q4
      obtain ⟨hv, hx, hat, hbd, hth⟩ := HF.out
      have HAT := Lib.hid hat
      have HV := Lib.hid hv
      have HBD := Lib.hid hbd
      have HTH := Lib.hid hth
      clear hv hat hbd hth
      obtain ⟨m, rfl⟩ : ∃ m : Nat, n = (m : Int) := ⟨n.toNat, by omega⟩
      have hq : Int.tmod (len' : Int) (m : Int) = ((len' % m : Nat) : Int) := by rw [Int.tmod_eq_emod_of_nonneg (by omega)]; omega
      have hql : len' % m < m := Nat.mod_lt _ (by omega)
      have hne : ¬ (m : Int) = 0 := by omega
      generalize len' % m = q at *
      go_wp2_with fail
      go_loopw [10] (fun i wr => ∃ k : Nat, k ≤ m ∧ i = .int .i64 k ∧ LB w G m ls A1 g1 c1 wr ∧ Own1i wr A2 g2 xs) (fun i _ => m - (intOf i).toNat)
      case atStart => exact ⟨0, Nat.zero_le _, rfl, L4.out, P4.out⟩
      case round =>
        obtain ⟨k, hk, rfl, hL, hP⟩ := hrel
        have L6 := Lib.hid hL
        have P6 := Lib.hid hP
        clear hL hP L4 P4 z4 c40 c41
        obtain ⟨z6, c60, c61, -, -⟩ := L6.out.1.two
        by_cases hlt : k < m
        · have hyk := HAT.out k (by omega)
          have hyq := HAT.out q (by omega)
          have h1 := HBD.out (k : Int)
          have h2 := HBD.out (q : Int)
          obtain ⟨h3, h4⟩ := HTH.out k q (by omega) (by omega)
          have CI := dist_any m A1 ls c1 (k : Int) q _ (by omega) HV.out ⟨by omega, by omega⟩ hql L6.out.2.1.sl
          generalize bf (m : Int) ls (k : Int) (q : Int) = d at *
          generalize bf (m : Int) ls x (k : Int) = dk at *
          generalize bf (m : Int) ls x (q : Int) = dq at *
          have H4 := Lib.hid h4
          have HYK := Lib.hid hyk
          have HYQ := Lib.hid hyq
          have hkl := (List.getElem?_eq_some_iff.1 hyk).1
          have hql2 := (List.getElem?_eq_some_iff.1 hyq).1
          obtain ⟨rfl, -, -⟩ := P6.out.at hyk
          clear hyk hyq h4
          go_wp2_with fail
          refine CI.mono ?_
          rintro e w7 ⟨rfl, hb7⟩
          have L7 := Lib.hid (L6.out.call hb7)
          have P7 := Lib.hid (P6.out.below hb7)
          clear CI hb7 c60 c61 z6
          obtain ⟨-, zg7, hc7⟩ := P7.out.at HYK.out
          obtain ⟨-, -, hd7⟩ := P7.out.at HYQ.out
          by_cases ha : 0 ≤ dk
          · by_cases hb : 0 ≤ d
            · have hnot := H4.out ha hb
              have hb1 : ¬ dq < 0 := by omega
              have hb2 : ¬ dk + d < dq := by omega
              have hb3 : decide (dq < 0) = false := by simpa using hb1
              go_wp2_with fail
              go_region
              all_goals
                go_wp2_with fail
                go_roundw
                case rel => exact ⟨k + 1, hlt, by go_num, L7.out.drew, P7.out.drew⟩
                case measure => simp [intOf]; omega
            · have hb3 : decide (0 ≤ d) = false := by simpa using hb
              go_wp2_with fail
              go_region
              all_goals
                go_wp2_with fail
                go_roundw
                case rel => exact ⟨k + 1, hlt, by go_num, L7.out.drew, P7.out.drew⟩
                case measure => simp [intOf]; omega
          · have hb3 : decide (0 ≤ dk) = false := by simpa using ha
            go_wp2_with fail
            go_region
            all_goals
              go_wp2_with fail
              go_roundw
              case rel => exact ⟨k + 1, hlt, by go_num, L7.out.drew, P7.out.drew⟩
              case measure => simp [intOf]; omega
        · have hge : m ≤ k := by omega
          go_wp2_with fail
          go_ret
          exact ⟨rfl, L6.out.2.2⟩
  · by_cases hl1 : len ≤ 1048576
    · have hl2 : 1048576 < len' := by omega
      clear hl
      go_enter Try.func10, Try.ntmps10
      go_wp2
      go_ret
      exact ⟨rfl, by (repeat (first | exact Below.refl _ _ | (refine Below.alloc ?_ (by first | exact Nat.le_refl _ | omega | (simp; done) | (simp; omega)) _) | (refine Below.setCell ?_ (by first | exact Nat.le_refl _ | omega | (simp; done) | (simp; omega)) _) | exact Below.drew ‹_›))⟩
    · clear hl
      go_enter Try.func10, Try.ntmps10
      go_wp2
      go_ret
      exact ⟨rfl, by (repeat (first | exact Below.refl _ _ | (refine Below.alloc ?_ (by first | exact Nat.le_refl _ | omega | (simp; done) | (simp; omega)) _) | (refine Below.setCell ?_ (by first | exact Nat.le_refl _ | omega | (simp; done) | (simp; omega)) _) | exact Below.drew ‹_›))⟩
end Go.Proofs.Ytigamnnboojiiaa
