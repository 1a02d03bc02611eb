/-
  The walk of FnLoopNodes over this seat.
-/
import Derived.Test.YtkcnbgimdiggoabG7
import Derived.Test.YtkcnbgimdiggoabA8
namespace Go.Proofs.Ytkcnbgimdiggoab
open Go.RowKit Go.Maps

set_option maxRecDepth 100000 in
set_option maxHeartbeats 1600000 in
theorem fnLoopNodes_walk (A : Option Addr) (len c : Nat) (f : Nat → Int) (w : World) (hlc : len ≤ c) (hc : c ≤ maxLen) (hB : Byt w w.heap.size A len f) :
   Calls Try.prog 4 #[.slice A len c] w fun e w' => e = .returned (.bool true) ∧ Below w.heap.size w w' := by
  have HB := Lib.hid hB
  clear hB
  by_cases hl : len ≤ 1048576
  · go_enter Try.func4, Try.ntmps4
    go_wp2_with fail
    refine (drawML_any A len c f w hlc hc HB.out).mono ?_
    rintro e w1 ⟨n, ls, A1, g1, c1, x, y, ch, Ac, gc, cc, rfl, ⟨hn0, hn1, hls, hg1, ho1, hb1⟩, hx0, hx1, hy0, hy1, hcap, hch, hoc⟩
    have L1 := Lib.hid (show LB w w1.heap.size n ls A1 g1 c1 (w1.alloc (.cells #[.int .i64 n, .slice A1 ls.length c1] 25)) from ⟨Box.new w1 _ _, ho1.alloc _, hb1.alloc hb1.size _⟩)
    have K1 := Lib.hid (hoc.alloc (.cells #[.int .i64 n, .slice A1 ls.length c1] 25))
    clear ho1 hb1 HB hoc
    generalize hG : w1.heap.size = G at *
    go_wp2_with fail
    refine (mixLoop_impl n A1 ls c1 x y Ac ch cc _ (by omega) L1.out.2.1.isV (by omega) L1.out.2.1.sl K1.out.sli).mono ?_
    rintro e w2 ⟨A2, g2, c2, rfl, hg2, ho2, hb2⟩
    have L2 := Lib.hid (L1.out.call hb2)
    have P2 := Lib.hid ho2
    have K2 := Lib.hid (K1.out.below hb2)
    clear hb2 K1 L1 hG ho2
    obtain ⟨z2, c20, c21, -, -⟩ := L2.out.1.two
    go_wp2_with fail
    refine (mixLoop_spec n A1 ls c1 x y Ac ch cc w2 (by omega) (by omega) L2.out.2.1.isV hcap (by omega) L2.out.2.1.sl K2.out.sli).mono ?_
    rintro e w3 ⟨A3, g3, c3, rfl, hg3, ho3, hb3⟩
    have L3 := Lib.hid (L2.out.call hb3)
    have P3 := Lib.hid (P2.out.below hb3)
    have Q3 := Lib.hid ho3
    have K3 := Lib.hid (K2.out.below hb3)
    clear hb3 K2 L2 z2 c20 c21 P2 ho3
    obtain ⟨z3, c30, c31, -, -⟩ := L3.out.1.two
    have hrs : (loopA n ls x y ch).length ≤ 8 := loopA_len8 n ls x y ch
    have HF := Lib.hid (fun h1 h2 h3 => loop_int (n := n) (ls := ls) (x := x) (t := y) ch h1 h2 h3)
    generalize loopA n ls x y ch = xs at *
    go_wp2_with fail
    refine (sameInts_same A2 A3 xs c2 c3 w3 (by omega) P3.out.sli Q3.out.sli).mono ?_
    rintro e w4 ⟨rfl, hb4⟩
    have L4 := Lib.hid (L3.out.call hb4)
    have P4 := Lib.hid (P3.out.below hb4)
    have Q4 := Lib.hid (Q3.out.below hb4)
    have K4 := Lib.hid (K3.out.below hb4)
    clear hb4 K3 L3 P3 Q3 z3 c30 c31 hg2 hg3
    obtain ⟨z4, c40, c41, -, -⟩ := L4.out.1.two
    have CV := valid_spec_any n A1 ls c1 w4 (by omega) (by omega) L4.out.2.1.sl
    have CE := fun W (h1 : Sli W W.heap.size A2 xs) (h2 : Sli W W.heap.size A3 xs) => sameInts_same A2 A3 xs c2 c3 W (by omega) h1 h2
    go_wp2_with fail
    refine (CV).mono ?_
    rintro e w5 ⟨rfl, hb⟩
    have L5 := Lib.hid (L4.out.call hb)
    have P5 := Lib.hid (P4.out.below hb)
    have Q5 := Lib.hid (Q4.out.below hb)
    have K5 := Lib.hid (K4.out.below hb)
    clear hb L4 P4 Q4 K4 z4 c40 c41
    obtain ⟨z5, c50, c51, -, -⟩ := L5.out.1.two
    cases hg : gvB n ls with
    | false =>
      clear hg
      clear HF
      go_wp2_with fail
      refine (CE _ P5.out.sli Q5.out.sli).mono ?_
      rintro e w6 ⟨rfl, hb⟩
      have L6 := Lib.hid (L5.out.call hb)
      go_wp2_with fail
      go_ret
      exact ⟨rfl, L6.out.2.2⟩
    | true =>
      by_cases hq0 : x < 0
      · clear hg
        clear HF
        go_wp2_with fail
        refine (CE _ P5.out.sli Q5.out.sli).mono ?_
        rintro e w6 ⟨rfl, hb⟩
        have L6 := Lib.hid (L5.out.call hb)
        go_wp2_with fail
        go_ret
        exact ⟨rfl, L6.out.2.2⟩
      · 
        by_cases hq1 : (ls.length : Int) ≤ x
        · clear hg
          clear HF
          go_wp2_with fail
          refine (CE _ P5.out.sli Q5.out.sli).mono ?_
          rintro e w6 ⟨rfl, hb⟩
          have L6 := Lib.hid (L5.out.call hb)
          go_wp2_with fail
          go_ret
          exact ⟨rfl, L6.out.2.2⟩
        · 
          by_cases hq2 : y < 0
          · clear hg
            clear HF
            go_wp2_with fail
            refine (CE _ P5.out.sli Q5.out.sli).mono ?_
            rintro e w6 ⟨rfl, hb⟩
            have L6 := Lib.hid (L5.out.call hb)
            go_wp2_with fail
            go_ret
            exact ⟨rfl, L6.out.2.2⟩
          · 
            by_cases hq3 : n ≤ y
            · clear hg
              clear HF
              go_wp2_with fail
              refine (CE _ P5.out.sli Q5.out.sli).mono ?_
              rintro e w6 ⟨rfl, hb⟩
              have L6 := Lib.hid (L5.out.call hb)
              go_wp2_with fail
              go_ret
              exact ⟨rfl, L6.out.2.2⟩
            · 
              have HALL := Lib.hid (HF.out hg ⟨by omega, by omega⟩ ⟨by omega, by omega⟩)
              clear HF hg CE
              go_wp2_with fail
              go_loopw [9] (fun i wr => ∃ k : Nat, (k : Int) ≤ n ∧ i = .int .i64 (k : Int) ∧ Hid (LB w G n ls A1 g1 c1 wr) ∧ Hid (Own1i wr A2 g2 xs) ∧ Hid (Own1i wr Ac gc ch)) (fun i _ => n.toNat - (intOf i).toNat)
              case atStart => exact ⟨0, hn0, rfl, L5, P5, K5⟩
              case round =>
                obtain ⟨k, hk, rfl, L6, P6, K6⟩ := hrel
                clear L5 P5 Q5 K5 z5 c50 c51
                obtain ⟨zg, d0, d1, -, -⟩ := L6.out.1.two
                by_cases hlt : (k : Int) < n
                · have C1 := mixHops_impl n A1 ls c1 x y Ac ch cc (k : Int) wr (by omega) L6.out.2.1.isV (by omega) L6.out.2.1.sl K6.out.sli
                  have HAL := Lib.hid (HALL.out (k : Int) (by omega) hlt)
                  have hz8 := mixA_len8 n ls x y ch (k : Int)
                  generalize mixA n ls x y ch (k : Int) = zs at *
                  clear HALL
                  go_wp2_with fail
                  refine C1.mono ?_
                  clear C1
                  rintro e w7 ⟨A7, g7, c7, rfl, -, ho7, hb⟩
                  have L7 := Lib.hid (L6.out.call hb)
                  have P7 := Lib.hid (P6.out.below hb)
                  have K7 := Lib.hid (K6.out.below hb)
                  have Z7 := Lib.hid ho7
                  clear hb ho7 L6 P6 K6 zg d0 d1
                  go_wp2_with fail
                  go_loopw [11, 12] (fun u i wr => ∃ j : Nat, j ≤ zs.length ∧ i = .int .i64 (j : Int) ∧ u = .bool ((zs.take j).any fun z => decide (z ∈ xs)) ∧ Hid (LB w G n ls A1 g1 c1 wr) ∧ Hid (Own1i wr A2 g2 xs) ∧ Hid (Own1i wr Ac gc ch) ∧ Hid (Own1i wr A7 g7 zs)) (fun _ i _ => zs.length - (intOf i).toNat)
                  case atStart => exact ⟨0, Nat.zero_le _, rfl, rfl, L7, P7, K7, Z7⟩
                  case round =>
                    obtain ⟨j, hj, rfl, rfl, L8, P8, K8, Z8⟩ := hrel
                    clear L7 P7 K7 Z7
                    by_cases hjt : j < zs.length
                    · obtain ⟨v, hv⟩ : ∃ v, zs[j]? = some v := ⟨_, List.getElem?_eq_getElem hjt⟩
                      have HT : Hid (((zs.take (j + 1)).any fun z => decide (z ∈ xs)) = (((zs.take j).any fun z => decide (z ∈ xs)) || decide (v ∈ xs))) := Lib.hid (by rw [List.take_add_one, hv, List.any_append]; simp)
                      have C1 := fun W (h : Sli W W.heap.size A2 xs) => hasInt_any A2 xs c2 v W (by omega) h
                      obtain ⟨rfl, zx, hxc⟩ := Z8.out.at hv
                      generalize decide (v ∈ xs) = q at *
                      generalize ((zs.take j).any fun z => decide (z ∈ xs)) = p at *
                      clear hv HAL
                      cases p with
                      | true =>
                        go_wp2_with fail
                        go_roundw
                        case rel => exact ⟨j + 1, by omega, by go_num, by rw [HT.out]; rfl, L8, P8, K8, Z8⟩
                        case measure => simp [intOf]; omega
                      | false =>
                        go_wp2_with fail
                        refine (C1 _ P8.out.sli).mono ?_
                        rintro e w9 ⟨rfl, hb⟩
                        have L9 := Lib.hid (L8.out.call hb)
                        have P9 := Lib.hid (P8.out.below hb)
                        have K9 := Lib.hid (K8.out.below hb)
                        have Z9 := Lib.hid (Z8.out.below hb)
                        clear hb L8 P8 K8 Z8 
                        go_wp2_with fail
                        go_roundw
                        case rel => exact ⟨j + 1, by omega, by go_num, by rw [HT.out]; rfl, L9, P9, K9, Z9⟩
                        case measure => simp [intOf]; omega
                    · have he : zs.take j = zs := List.take_of_length_le (by omega)
                      have C2 := fun W (h : Sli W W.heap.size A2 xs) => hasInt_any A2 xs c2 (k : Int) W (by omega) h
                      rw [he, HAL.out]
                      clear he HAL
                      generalize decide ((k : Int) ∈ xs) = q at *
                      have hqq : (q != q) = false := by simp
                      go_wp2_with fail
                      refine (C2 _ P8.out.sli).mono ?_
                      rintro e w9 ⟨rfl, hb⟩
                      have L9 := Lib.hid (L8.out.call hb)
                      have P9 := Lib.hid (P8.out.below hb)
                      have K9 := Lib.hid (K8.out.below hb)
                      clear hb L8 P8 K8 
                      go_wp2_with fail
                      go_roundw
                      case rel => exact ⟨k + 1, by omega, by go_num, L9, P9, K9⟩
                      case measure => simp [intOf]; omega
                · go_wp2_with fail
                  go_ret
                  exact ⟨rfl, L6.out.2.2⟩
  · go_enter Try.func4, Try.ntmps4
    go_wp2
    go_ret
    exact ⟨rfl, by (repeat (first | exact Below.refl _ _ | (refine Below.alloc ?_ (by first | exact Nat.le_refl _ | omega | (simp; done) | (simp; omega)) _) | (refine Below.setCell ?_ (by first | exact Nat.le_refl _ | omega | (simp; done) | (simp; omega)) _) | exact Below.drew ‹_›))⟩
end Go.Proofs.Ytkcnbgimdiggoab
