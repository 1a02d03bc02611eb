/-
  The walk of FnNeighbours over this seat.
-/
import Derived.Test.YtbogpcnjniadfaaIntL
import Derived.Test.YtbogpcnjniadfaaLinkBothw
namespace Go.Proofs.Ytbogpcnjniadfaa
open Go.RowKit

theorem nbI_asc (nn : Int) (ls : List Lk) (a : Int) : (nbI nn ls a).Pairwise (· < ·) := by
  rw [← nbI_eq]
  split
  · exact nbS_asc a ls 8
  · simp
theorem gvB_nodes {nn : Int} {ls : List Lk} (h : gvB nn ls = true) : 1 ≤ nn ∧ nn ≤ 8 ∧ ls.length ≤ 14 := by
  unfold gvB inB at h
  simp only [Bool.and_eq_true, decide_eq_true_eq] at h
  omega
theorem nbI_has {nn : Int} {ls : List Lk} (hv : gvB nn ls = true) (a : Int) (x : Nat) (hx : (x : Int) < nn) : decide ((x : Int) ∈ nbI nn ls a) = decide (0 ≤ linkI nn ls a x) := by
  have := gvB_nodes hv
  rw [← nbI_eq, ← linkI_eq, if_pos hv, if_pos hv]
  rw [decide_eq_decide, nbS_mem]
  constructor
  · rintro ⟨j, h1, h2, h3⟩
    have : x = j := by omega
    subst this
    exact h3
  · exact fun h => ⟨x, by omega, rfl, h⟩

theorem LB.drew {w w1 : World} {G : Nat} {n : Int} {ls : List Lk} {A' : Option Addr} {g' c' : Nat} (h : LB w G n ls A' g' c' w1) : LB w G n ls A' g' c' w1.drew :=
  ⟨h.1, h.2.1, h.2.2.drew⟩
theorem Own1i.drew {w : World} {A : Option Addr} {g : Nat} {xs : List Int} (h : Own1i w A g xs) : Own1i w.drew A g xs := h

set_option maxRecDepth 100000 in
set_option maxHeartbeats 800000 in
theorem nb_walk (A : Option Addr) (len c : Nat) (f : Nat → Int) (w : World) (hlc : len ≤ c) (hc : c ≤ maxLen) (hB : Byt w w.heap.size A len f) :
   Calls Try.prog 11 #[.slice A len c] w fun e w' => e = .returned (.bool true) ∧ Below w.heap.size w w' := by
  have HB := Lib.hid hB
  clear hB
  by_cases hl : len ≤ 1048576
  · go_enter Try.func11, Try.ntmps11
    go_wp2_with fail
    refine (drawNb_any A len c f w hlc hc HB.out).mono ?_
    rintro e w1 ⟨n, ls, A1, g1, c1, x, rfl, ⟨hn0, hn1, hls, hg1, ho1, hb1⟩, hx0, hx1⟩
    have L1 := Lib.hid (show LB w w1.heap.size n ls A1 g1 c1 (w1.alloc (.cells #[.int .i64 n, .slice A1 ls.length c1] 29)) from ⟨Box.new w1 _ _, ho1.alloc _, hb1.alloc hb1.size _⟩)
    clear ho1 hb1 HB
    generalize hG : w1.heap.size = G at *
    go_wp2_with fail
    refine (nb_impl n A1 ls c1 x _ (by omega) L1.out.2.1.sl).mono ?_
    rintro e w2 ⟨A2, g2, c2, rfl, hg2, ho2, hb2⟩
    have L2 := Lib.hid (L1.out.call hb2)
    have P2 := Lib.hid ho2
    clear hb2 L1 hG ho2
    obtain ⟨z2, c20, c21, -, -⟩ := L2.out.1.two
    go_wp2_with fail
    have CS := nb_spec n A1 ls c1 x w2 (by omega) (by omega) L2.out.2.1.sl
    rw [nbI_eq] at CS
    refine CS.mono ?_
    rintro e w3 ⟨A3, g3, c3, rfl, hg3, ho3, hb3⟩
    have L3 := Lib.hid (L2.out.call hb3)
    have P3 := Lib.hid (P2.out.below hb3)
    have Q3 := Lib.hid ho3
    clear hb3 L2 z2 c20 c21 CS P2 ho3
    obtain ⟨z3, c30, c31, -, -⟩ := L3.out.1.two
    have hrs : (nbI n ls x).length ≤ 8 := nbI_len n ls x
    have hasc := Lib.hid (nbI_asc n ls x)
    have hhas : gvB n ls = true → ∀ k : Nat, (k : Int) < n → _ := fun h k hk => nbI_has h x k hk
    have HH := Lib.hid hhas
    clear hhas
    generalize nbI n ls x = xs at *
    go_wp2_with fail
    refine (sameInts_same A2 A3 xs c2 c3 w3 (by omega) P3.out.sli Q3.out.sli).mono ?_
    rintro e w4 ⟨rfl, hb4⟩
    have L4 := Lib.hid (L3.out.call hb4)
    have P4 := Lib.hid (P3.out.below hb4)
    have Q4 := Lib.hid (Q3.out.below hb4)
    clear hb4 L3 P3 Q3 z3 c30 c31
    obtain ⟨z4, c40, c41, -, -⟩ := L4.out.1.two
    go_wp2_with fail
    refine (valid_spec_any n A1 ls c1 w4 (by omega) (by omega) L4.out.2.1.sl).mono ?_
    rintro e w5 ⟨rfl, hb5⟩
    have L5 := Lib.hid (L4.out.call hb5)
    have P5 := Lib.hid (P4.out.below hb5)
    have Q5 := Lib.hid (Q4.out.below hb5)
    clear hb5 L4 P4 Q4 z4 c40 c41
    cases hv : gvB n ls with
    | false =>
      clear HH hv
      go_wp2_with fail
      refine (sameInts_same A2 A3 xs c2 c3 w5 (by omega) P5.out.sli Q5.out.sli).mono ?_
      rintro e w6 ⟨rfl, hb6⟩
      have L6 := Lib.hid (L5.out.call hb6)
      go_wp2_with fail
      go_ret
      exact ⟨rfl, L6.out.2.2⟩
    | true =>
      have HK := Lib.hid (HH.out hv)
      clear HH hv
      obtain ⟨m, rfl⟩ : ∃ m : Nat, n = (m : Int) := ⟨n.toNat, by omega⟩
      go_wp2_with fail
      go_loopw [7] (fun i wr => ∃ k : Nat, k ≤ m ∧ i = .int .i64 k ∧ LB w G m ls A1 g1 c1 wr ∧ Own1i wr A2 g2 xs) (fun i _ => m - (intOf i).toNat)
      case atStart => exact ⟨0, Nat.zero_le _, rfl, L5.out, P5.out⟩
      case round =>
        obtain ⟨k, hk, rfl, hL, hP⟩ := hrel
        have L6 := Lib.hid hL
        have P6 := Lib.hid hP
        clear hL hP L5 P5 Q5
        obtain ⟨z6, c60, c61, -, -⟩ := L6.out.1.two
        by_cases hlt : k < m
        · have hhas := HK.out k (by omega)
          go_wp2_with fail
          go_region_law (first
            | (go_simp; go_at_call 40; refine (hasInt_any A2 xs c2 k _ (by omega) P6.out.drew.sli).mono ?_; rintro e w7 ⟨rfl, hb7⟩; have L7 := Lib.hid (L6.out.drew.call hb7); have P7 := Lib.hid (P6.out.drew.below hb7); obtain ⟨z7, c70, c71, -, -⟩ := L7.out.1.two)
            | (go_simp; go_at_call 21; refine (link_impl m A1 ls c1 x k _ (by omega) L7.out.2.1.sl).mono ?_; rintro e w8 ⟨rfl, hb8⟩; have L8 := Lib.hid (L7.out.call hb8); have P8 := Lib.hid (P7.out.below hb8); obtain ⟨z8, c80, c81, -, -⟩ := L8.out.1.two))
          all_goals
            go_wp2_with fail
            go_roundw
            case rel => exact ⟨k + 1, hlt, by go_num, L8.out, P8.out⟩
            case measure => simp [intOf]; omega
        · have hge : m ≤ k := by omega
          go_wp2_with fail
          refine (ascending_any A2 xs c2 _ (by omega) P6.out.sli hasc.out).mono ?_
          rintro e w9 ⟨rfl, hb9⟩
          have L9 := Lib.hid (L6.out.call hb9)
          go_wp2_with fail
          go_ret
          exact ⟨rfl, L9.out.2.2⟩
  · go_enter Try.func11, Try.ntmps11
    go_wp2
    go_ret
    exact ⟨rfl, by (repeat (first | exact Below.refl _ _ | (refine Below.alloc ?_ (by first | exact Nat.le_refl _ | omega | (simp; done) | (simp; omega)) _) | (refine Below.setCell ?_ (by first | exact Nat.le_refl _ | omega | (simp; done) | (simp; omega)) _) | exact Below.drew ‹_›))⟩
end Go.Proofs.Ytbogpcnjniadfaa
