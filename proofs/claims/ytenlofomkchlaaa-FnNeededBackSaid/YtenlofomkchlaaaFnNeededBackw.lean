/-
  The walk of FnNeededBack over this seat.
-/
import Derived.Test.YtenlofomkchlaaaVm
import Derived.Test.YtenlofomkchlaaaA8
namespace Go.Proofs.Ytenlofomkchlaaa
open Go.RowKit Go.Maps

set_option maxRecDepth 100000 in
set_option maxHeartbeats 1600000 in
theorem fnNeededBack_walk (A : Option Addr) (len c : Nat) (Am : Option Addr) (len' c' : Nat) (f f' : Nat → Int) (w : World) (hlc : len ≤ c) (hc : c ≤ maxLen) (hB : Byt w w.heap.size A len f) (_hlc' : len' ≤ c') (_hc' : c' ≤ maxLen) (_hB' : Byt w w.heap.size Am len' f') :
   Calls Try.prog 9 #[.slice A len c, .slice Am len' c'] w fun e w' => e = .returned (.bool true) ∧ Below w.heap.size w w' := by
  have HB := Lib.hid hB
  clear hB _hB'
  by_cases hl : len ≤ 1048576 ∧ len' ≤ 1048576
  · obtain ⟨hl, hl'⟩ := hl
    go_enter Try.func9, Try.ntmps9
    go_wp2_with fail
    refine (drawRepN_any A len c f w hlc hc HB.out).mono ?_
    rintro e w1 ⟨n, ls, A1, g1, c1, x, y, rfl, ⟨hn0, hn1, hls, hg1, ho1, hb1⟩, hx0, hx1, hy0, hy1, hcap⟩
    have L1 := Lib.hid (show LB w w1.heap.size n ls A1 g1 c1 (w1.alloc (.cells #[.int .i64 n, .slice A1 ls.length c1] 30)) from ⟨Box.new w1 _ _, ho1.alloc _, hb1.alloc hb1.size _⟩)
    clear ho1 hb1 HB
    generalize hG : w1.heap.size = G at *
    go_wp2_with fail
    refine (repNeed_impl n A1 ls c1 x y _ (by omega) L1.out.2.1.sl).mono ?_
    rintro e w2 ⟨A2, g2, c2, rfl, hg2, ho2, hb2⟩
    have L2 := Lib.hid (L1.out.call hb2)
    have P2 := Lib.hid ho2
    clear hb2 L1 hG ho2
    obtain ⟨z2, c20, c21, -, -⟩ := L2.out.1.two
    go_wp2_with fail
    refine (repNeed_spec n A1 ls c1 x y w2 (by omega) (by omega) L2.out.2.1.sl).mono ?_
    rintro e w3 ⟨A3, g3, c3, rfl, hg3, ho3, hb3⟩
    have L3 := Lib.hid (L2.out.call hb3)
    have P3 := Lib.hid (P2.out.below hb3)
    have Q3 := Lib.hid ho3
    clear hb3 L2 z2 c20 c21 P2 ho3
    obtain ⟨z3, c30, c31, -, -⟩ := L3.out.1.two
    have hrs : (needA n ls x y).length ≤ 8 := needA_len8 n ls x y
    have HBK := Lib.hid (fun (t : Int) (hg : gvB n ls = true) (hs : 0 ≤ x ∧ x < n) (ht : 0 ≤ t ∧ t < n) => (show decide (t ∈ needA n ls x y) = decide (x ∈ needA n ls t y) by rw [Bool.eq_iff_iff]; simp only [decide_eq_true_eq]; exact need_back hg hs ht))
    have CN := fun (t : Int) W (h : Sl W W.heap.size A1 ls) => repNeed_impl n A1 ls c1 t y W (by omega) h
    have HL8 := Lib.hid (fun t => needA_len8 n ls t y)
    generalize needA n ls x y = xs at *
    go_wp2_with fail
    refine (sameInts_same A2 A3 xs c2 c3 w3 (by omega) P3.out.sli Q3.out.sli).mono ?_
    rintro e w4 ⟨rfl, hb4⟩
    have L4 := Lib.hid (L3.out.call hb4)
    have P4 := Lib.hid (P3.out.below hb4)
    have Q4 := Lib.hid (Q3.out.below hb4)
    clear hb4 L3 P3 Q3 z3 c30 c31 hg2 hg3
    obtain ⟨z4, c40, c41, -, -⟩ := L4.out.1.two
    have CV := valid_spec_any n A1 ls c1 w4 (by omega) (by omega) L4.out.2.1.sl
    have CE := fun W (h1 : Sli W W.heap.size A2 xs) (h2 : Sli W W.heap.size A3 xs) => sameInts_same A2 A3 xs c2 c3 W (by omega) h1 h2
    go_wp2_with fail
    refine (CV).mono ?_
    rintro e w5 ⟨rfl, hb⟩
    have L5 := Lib.hid (L4.out.call hb)
    have P5 := Lib.hid (P4.out.below hb)
    have Q5 := Lib.hid (Q4.out.below hb)
    clear hb L4 P4 Q4 z4 c40 c41
    obtain ⟨z5, c50, c51, -, -⟩ := L5.out.1.two
    cases hg : gvB n ls with
    | false =>
      clear hg HBK
      go_wp2_with fail
      refine (CE _ P5.out.sli Q5.out.sli).mono ?_
      rintro e w6 ⟨rfl, hb⟩
      have L6 := Lib.hid (L5.out.call hb)
      go_wp2_with fail
      go_ret
      exact ⟨rfl, L6.out.2.2⟩
    | true =>
      have hn8 := (gvB_fit hg).2.2.1
      by_cases h0 : x < 0
      · clear hg HBK
        go_wp2_with fail
        refine (CE _ P5.out.sli Q5.out.sli).mono ?_
        rintro e w6 ⟨rfl, hb⟩
        have L6 := Lib.hid (L5.out.call hb)
        go_wp2_with fail
        go_ret
        exact ⟨rfl, L6.out.2.2⟩
      · by_cases h1 : n ≤ x
        · clear hg HBK
          go_wp2_with fail
          refine (CE _ P5.out.sli Q5.out.sli).mono ?_
          rintro e w6 ⟨rfl, hb⟩
          have L6 := Lib.hid (L5.out.call hb)
          go_wp2_with fail
          go_ret
          exact ⟨rfl, L6.out.2.2⟩
        · obtain ⟨m, hm⟩ : ∃ m : Nat, n = (m : Int) := ⟨n.toNat, by omega⟩
          have hm0 : 0 < m := by omega
          have hq : Int.tmod (len' : Int) n = ((len' % m : Nat) : Int) := by rw [hm, Int.tmod_eq_emod_of_nonneg (by omega)]; omega
          have hqm := Nat.mod_lt len' hm0
          generalize len' % m = q at *
          have hbk := HBK.out (q : Int) hg ⟨by omega, by omega⟩ ⟨by omega, by omega⟩
          have C1 := fun W (h : Sli W W.heap.size A2 xs) => hasInt_any A2 xs c2 (q : Int) W (by omega) h
          have hl8 := HL8.out (q : Int)
          have CQ := CN (q : Int)
          rw [hbk] at C1
          clear HBK hbk CN HL8 hg
          generalize needA n ls (q : Int) y = zs at *
          have hnz : (n == 0) = false := by simp; omega
          have hX := fun (x : Ext w5.drew) (bb o : Nat) (h : bb < w5.heap.size) => (show x.w.cell? ⟨bb, o, none⟩ = w5.cell? ⟨bb, o, none⟩ from x.cell bb o h)
          clear hm
          go_upto_region 9 with fail
          refine wp_region_staged 11 (by kernel_rfl) (by kernel_rfl) ?_
          refine stage_seg _ 5 [0, 1, 3, 4, 5, 7] (by kernel_rfl) (by kernel_rfl) (by kernel_rfl) (by kernel_rfl) ?_
          (simp only [List.map_cons, List.map_nil, List.getElem?_cons_zero, List.getElem?_cons_succ, Option.getD_some]); (repeat (go_big_quiet_step (fail))); (refine wpQuiet_nil ?_)
          have LD := Lib.hid L5.out.drew
          have PD := Lib.hid (show Own1i w5.drew A2 g2 xs from P5.out)
          clear hX z5 c50 c51 L5 P5 Q5
          refine stage_call _ 4 2 (by kernel_rfl) (by rfl) (by kernel_rfl) (by rfl) ?_
          go_wp2_with fail
          refine (C1 w5.drew PD.out.sli).mono ?_
          clear C1
          rintro e w6 ⟨rfl, hb⟩
          refine ⟨hb, ?_⟩
          have L6 := Lib.hid (LD.out.call hb)
          clear hb LD PD
          refine stage_call _ 3 6 (by kernel_rfl) (by rfl) (by kernel_rfl) (by rfl) ?_
          go_wp2_with fail
          refine (CQ w6 L6.out.2.1.sl).mono ?_
          clear CQ
          rintro e w7 ⟨A7, g7, c7, rfl, -, ho7, hb⟩
          refine ⟨hb, ?_⟩
          have L7 := Lib.hid (L6.out.call hb)
          have R7 := Lib.hid ho7
          clear hb ho7 L6
          refine stage_call _ 2 8 (by kernel_rfl) (by rfl) (by kernel_rfl) (by rfl) ?_
          go_wp2_with fail
          refine (hasInt_any A7 zs c7 x w7 (by omega) R7.out.sli).mono ?_
          rintro e w8 ⟨rfl, hb⟩
          refine ⟨hb, ?_⟩
          have L8 := Lib.hid (L7.out.call hb)
          clear hb L7 R7
          generalize decide (x ∈ zs) = p at *
          have hpp : (p == p) = true := by simp
          refine stage_seg _ 0 [9, 10] (by kernel_rfl) (by kernel_rfl) (by kernel_rfl) (by kernel_rfl) ?_
          (simp only [List.map_cons, List.map_nil, List.getElem?_cons_zero, List.getElem?_cons_succ, Option.getD_some]); (repeat (go_big_quiet_step (fail))); (refine wpQuiet_nil ?_)
          refine stage_end (by kernel_rfl) ?_
          go_wp2_with fail
          go_ret
          exact ⟨ret_bool (by first | rfl | exact hpp | exact hpp.symm), L8.out.2.2⟩
  · by_cases hl1 : len ≤ 1048576
    · have hl2 : 1048576 < len' := by omega
      clear hl
      go_enter Try.func9, Try.ntmps9
      go_wp2
      go_ret
      exact ⟨rfl, by (repeat (first | exact Below.refl _ _ | (refine Below.alloc ?_ (by first | exact Nat.le_refl _ | omega | (simp; done) | (simp; omega)) _) | (refine Below.setCell ?_ (by first | exact Nat.le_refl _ | omega | (simp; done) | (simp; omega)) _) | exact Below.drew ‹_›))⟩
    · clear hl
      go_enter Try.func9, Try.ntmps9
      go_wp2
      go_ret
      exact ⟨rfl, by (repeat (first | exact Below.refl _ _ | (refine Below.alloc ?_ (by first | exact Nat.le_refl _ | omega | (simp; done) | (simp; omega)) _) | (refine Below.setCell ?_ (by first | exact Nat.le_refl _ | omega | (simp; done) | (simp; omega)) _) | exact Below.drew ‹_›))⟩
end Go.Proofs.Ytenlofomkchlaaa
