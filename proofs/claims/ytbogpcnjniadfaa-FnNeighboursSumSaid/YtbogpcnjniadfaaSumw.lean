/-
  The walk of FnNeighboursSum over this seat.
-/
import Derived.Test.YtbogpcnjniadfaaFnNbw
namespace Go.Proofs.Ytbogpcnjniadfaa
open Go.RowKit

def degTo (ls : List Lk) (k : Nat) : Nat → Nat
  | 0 => 0
  | x + 1 => degTo ls k x + (nbTo (x : Int) ls k).length
theorem degTo_zero (ls : List Lk) (m : Nat) : degTo ls 0 m = 0 := by
  induction m with
  | zero => rfl
  | succ m ih => simp [degTo, ih, nbTo]
theorem degTo_succ {ls : List Lk} {k : Nat} {l : Lk} (hk : ls[k]? = some l) (ha : 0 ≤ l.a) (hb : l.a < l.b) (m : Nat) : degTo ls (k + 1) m = degTo ls k m + (if l.a < m then 1 else 0) + (if l.b < m then 1 else 0) := by
  induction m with
  | zero => simp only [degTo]; rw [if_neg (by omega), if_neg (by omega)]
  | succ m ih =>
    simp only [degTo, ih]
    cases ht : touchB l (m : Int) with
    | true =>
      rw [nbTo_hit hk ht, List.length_append]
      simp only [touchB, Bool.or_eq_true, decide_eq_true_eq] at ht
      simp only [List.length_cons, List.length_nil]
      rcases ht with ht | ht
      · rw [if_neg (by omega), if_neg (by omega), if_pos (by omega), if_neg (by omega)]
        omega
      · rw [if_pos (by omega), if_neg (by omega), if_pos (by omega), if_pos (by omega)]
        omega
    | false =>
      rw [nbTo_miss hk ht]
      simp only [touchB, Bool.or_eq_false_iff, decide_eq_false_iff_not] at ht
      obtain ⟨h1, h2⟩ := ht
      by_cases h3 : l.a < (m : Int)
      · by_cases h4 : l.b < (m : Int)
        · rw [if_pos h3, if_pos h4, if_pos (by omega), if_pos (by omega)]; omega
        · rw [if_pos h3, if_neg h4, if_pos (by omega), if_neg (by omega)]; omega
      · rw [if_neg h3, if_neg (by omega), if_neg (by omega), if_neg (by omega)]; omega
theorem degTo_all {nn : Nat} {ls : List Lk} (h : gvB nn ls = true) : ∀ k, k ≤ ls.length → degTo ls k nn = 2 * k
  | 0, _ => by rw [degTo_zero]
  | k + 1, hk => by
    have hl : ls[k]? = some ls[k] := List.getElem?_eq_getElem (by omega)
    obtain ⟨h1, h2, h3, _⟩ := gvB_at h hl
    rw [degTo_succ hl h1 h2, degTo_all h k (by omega), if_pos (by omega), if_pos (by omega)]
    omega
theorem nbI_deg {nn : Int} {ls : List Lk} (h : gvB nn ls = true) (x : Int) : (nbI nn ls x).length = (nbTo x ls ls.length).length := by
  unfold nbI
  rw [if_pos h, List.length_map]
theorem degTo_le (ls : List Lk) (k m : Nat) : degTo ls k m ≤ m * k := by
  induction m with
  | zero => simp [degTo]
  | succ m ih =>
    have := nbTo_len (m : Int) ls k
    simp only [degTo, Nat.succ_mul]
    omega

set_option maxRecDepth 100000 in
set_option maxHeartbeats 800000 in
theorem sum_walk (A : Option Addr) (len c : Nat) (f : Nat → Int) (w : World) (hlc : len ≤ c) (hc : c ≤ maxLen) (hB : Byt w w.heap.size A len f) :
   Calls Try.prog 12 #[.slice A len c] w fun e w' => e = .returned (.bool true) ∧ Below w.heap.size w w' := by
  have HB := Lib.hid hB
  clear hB
  by_cases hl : len ≤ 1048576
  · go_enter Try.func12, Try.ntmps12
    go_wp2_with fail
    refine (drawVal_any A len c f w hlc hc HB.out).mono ?_
    rintro e w1 ⟨n, ls, A1, g1, c1, rfl, ⟨hn0, hn1, hls, hg1, ho1, hb1⟩⟩
    have L1 := Lib.hid (show LB w w1.heap.size n ls A1 g1 c1 (w1.alloc (.cells #[.int .i64 n, .slice A1 ls.length c1] 29)) from ⟨Box.new w1 _ _, ho1.alloc _, hb1.alloc hb1.size _⟩)
    clear ho1 hb1 HB
    generalize hG : w1.heap.size = G at *
    go_wp2_with fail
    refine (valid_impl n A1 ls c1 _ (by omega) L1.out.2.1.sl).mono ?_
    rintro e w2 ⟨rfl, hb2⟩
    have L2 := Lib.hid (L1.out.call hb2)
    clear hb2 L1 hG
    obtain ⟨z2, c20, c21, -, -⟩ := L2.out.1.two
    go_wp2_with fail
    refine (valid_spec_any n A1 ls c1 w2 (by omega) (by omega) L2.out.2.1.sl).mono ?_
    rintro e w3 ⟨rfl, hb3⟩
    have L3 := Lib.hid (L2.out.call hb3)
    clear hb3 L2 z2 c20 c21
    cases hv : gvB n ls with
    | false =>
      go_wp2_with fail
      go_ret
      exact ⟨rfl, L3.out.2.2⟩
    | true =>
      have HV := Lib.hid hv
      clear hv
      obtain ⟨m, rfl⟩ : ∃ m : Nat, n = (m : Int) := ⟨n.toNat, by omega⟩
      go_wp2_with fail
      go_loopw [6, 7] (fun t i wr => ∃ k : Nat, k ≤ m ∧ t = .int .i64 (degTo ls ls.length k : Nat) ∧ i = .int .i64 k ∧ LB w G m ls A1 g1 c1 wr) (fun _ i _ => m - (intOf i).toNat)
      case atStart => exact ⟨0, Nat.zero_le _, rfl, rfl, L3.out⟩
      case round =>
        obtain ⟨k, hk, rfl, rfl, hL⟩ := hrel
        have L6 := Lib.hid hL
        clear hL L3
        obtain ⟨z6, c60, c61, -, -⟩ := L6.out.1.two
        by_cases hlt : k < m
        · have hd := degTo_le ls ls.length k
          have hd2 : k * ls.length ≤ 10 * 16 := Nat.mul_le_mul (by omega) (by omega)
          go_wp2_with fail
          refine (nb_impl m A1 ls c1 k _ (by omega) L6.out.2.1.sl).mono ?_
          rintro e w7 ⟨A2, g2, c2, rfl, hg2, ho2, hb2⟩
          have L7 := Lib.hid (L6.out.call hb2)
          have hn := nbI_len m ls k
          have hdeg := Lib.hid (nbI_deg HV.out k)
          generalize hxs : (nbI m ls k).length = q at *
          clear hb2 ho2
          go_wp2_with fail
          go_roundw
          case rel => exact ⟨k + 1, hlt, by rw [degTo, ← hdeg.out]; simp, by go_num, L7.out⟩
          case measure => simp [intOf]; omega
        · obtain rfl : k = m := by omega
          have hall := degTo_all HV.out ls.length (Nat.le_refl _)
          rw [hall]
          go_wp2_with fail
          go_ret
          exact ⟨ret_bool (by simp; try omega), L6.out.2.2⟩
  · go_enter Try.func12, Try.ntmps12
    go_wp2
    go_ret
    exact ⟨rfl, by (repeat (first | exact Below.refl _ _ | (refine Below.alloc ?_ (by first | exact Nat.le_refl _ | omega | (simp; done) | (simp; omega)) _) | (refine Below.setCell ?_ (by first | exact Nat.le_refl _ | omega | (simp; done) | (simp; omega)) _) | exact Below.drew ‹_›))⟩
end Go.Proofs.Ytbogpcnjniadfaa
