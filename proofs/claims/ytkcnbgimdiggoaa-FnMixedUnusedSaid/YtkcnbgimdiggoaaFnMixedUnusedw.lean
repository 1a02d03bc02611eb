/-
  The walk of FnMixedUnused over this seat.
-/
import Derived.Test.YtkcnbgimdiggoaaG7
import Derived.Test.YtkcnbgimdiggoaaVy
import Derived.Test.YtkcnbgimdiggoaaA8
namespace Go.Proofs.Ytkcnbgimdiggoaa
open Go.RowKit Go.Maps

set_option maxRecDepth 100000 in
set_option maxHeartbeats 1600000 in
theorem fnMixedUnused_walk (A : Option Addr) (len c : Nat) (f : Nat → Int) (w : World) (hlc : len ≤ c) (hc : c ≤ maxLen) (hB : Byt w w.heap.size A len f) :
   Calls Try.prog 8 #[.slice A len c] w fun e w' => e = .returned (.bool true) ∧ Below w.heap.size w w' := by
  have HB := Lib.hid hB
  clear hB
  by_cases hl : len ≤ 1048576
  · go_enter Try.func8, Try.ntmps8
    go_wp2_with fail
    refine (drawMH_any A len c f w hlc hc HB.out).mono ?_
    rintro e w1 ⟨n, ls, A1, g1, c1, x, y, ch, Ac, gc, cc, z, rfl, ⟨hn0, hn1, hls, hg1, ho1, hb1⟩, hx0, hx1, hy0, hy1, hz0, hz1, hcap, hch, hoc⟩
    have L1 := Lib.hid (show LB w w1.heap.size n ls A1 g1 c1 (w1.alloc (.cells #[.int .i64 n, .slice A1 ls.length c1] 25)) from ⟨Box.new w1 _ _, ho1.alloc _, hb1.alloc hb1.size _⟩)
    have K1 := Lib.hid (hoc.alloc (.cells #[.int .i64 n, .slice A1 ls.length c1] 25))
    clear ho1 hb1 HB hoc
    generalize hG : w1.heap.size = G at *
    go_wp2_with fail
    refine (mixHops_impl n A1 ls c1 x y Ac ch cc z _ (by omega) L1.out.2.1.isV (by omega) L1.out.2.1.sl K1.out.sli).mono ?_
    rintro e w2 ⟨A2, g2, c2, rfl, hg2, ho2, hb2⟩
    have L2 := Lib.hid (L1.out.call hb2)
    have P2 := Lib.hid ho2
    have K2 := Lib.hid (K1.out.below hb2)
    clear hb2 K1 L1 hG ho2
    obtain ⟨z2, c20, c21, -, -⟩ := L2.out.1.two
    go_wp2_with fail
    refine (mixHops_spec n A1 ls c1 x y Ac ch cc z w2 (by omega) (by omega) L2.out.2.1.isV hcap (by omega) L2.out.2.1.sl K2.out.sli).mono ?_
    rintro e w3 ⟨A3, g3, c3, rfl, hg3, ho3, hb3⟩
    have L3 := Lib.hid (L2.out.call hb3)
    have P3 := Lib.hid (P2.out.below hb3)
    have Q3 := Lib.hid ho3
    have K3 := Lib.hid (K2.out.below hb3)
    clear hb3 K2 L2 z2 c20 c21 P2 ho3
    obtain ⟨z3, c30, c31, -, -⟩ := L3.out.1.two
    have hrs : (mixA n ls x y ch z).length ≤ 8 := mixA_len8 n ls x y ch z
    have HF := Lib.hid (fun h1 h2 h3 h4 h5 => mixA_unused (n := n) (ls := ls) (x := x) (t := y) (y := z) ch h1 h2 h3 h4 h5)
    generalize mixA n ls x y ch z = xs at *
    go_wp2_with fail
    refine (sameInts_same A2 A3 xs c2 c3 w3 (by omega) P3.out.sli Q3.out.sli).mono ?_
    rintro e w4 ⟨rfl, hb4⟩
    have L4 := Lib.hid (L3.out.call hb4)
    have P4 := Lib.hid (P3.out.below hb4)
    have Q4 := Lib.hid (Q3.out.below hb4)
    have K4 := Lib.hid (K3.out.below hb4)
    clear hb4 K3 L3 P3 Q3 z3 c30 c31 hg2 hg3
    obtain ⟨z4, c40, c41, -, -⟩ := L4.out.1.two
    clear K4
    have CV := valid_spec_any n A1 ls c1 w4 (by omega) (by omega) L4.out.2.1.sl
    have CE := fun W (h1 : Sli W W.heap.size A2 xs) (h2 : Sli W W.heap.size A3 xs) => sameInts_same A2 A3 xs c2 c3 W (by omega) h1 h2
    go_wp2_with fail
    refine (CV).mono ?_
    rintro e w5 ⟨rfl, hb⟩
    have L5 := Lib.hid (L4.out.call hb)
    have P5 := Lib.hid (P4.out.below hb)
    have Q5 := Lib.hid (Q4.out.below hb)
    clear hb L4 P4 Q4 z4 c40 c41
    obtain ⟨z5, c50, c51, -, -⟩ := L5.out.1.two
    cases hg : gvB n ls with
    | false =>
      clear hg
      clear HF
      go_wp2_with fail
      refine (CE _ P5.out.sli Q5.out.sli).mono ?_
      rintro e w6 ⟨rfl, hb⟩
      have L6 := Lib.hid (L5.out.call hb)
      go_wp2_with fail
      go_ret
      exact ⟨rfl, L6.out.2.2⟩
    | true =>
      by_cases hq0 : x < 0
      · clear hg
        clear HF
        go_wp2_with fail
        refine (CE _ P5.out.sli Q5.out.sli).mono ?_
        rintro e w6 ⟨rfl, hb⟩
        have L6 := Lib.hid (L5.out.call hb)
        go_wp2_with fail
        go_ret
        exact ⟨rfl, L6.out.2.2⟩
      · 
        by_cases hq1 : (ls.length : Int) ≤ x
        · clear hg
          clear HF
          go_wp2_with fail
          refine (CE _ P5.out.sli Q5.out.sli).mono ?_
          rintro e w6 ⟨rfl, hb⟩
          have L6 := Lib.hid (L5.out.call hb)
          go_wp2_with fail
          go_ret
          exact ⟨rfl, L6.out.2.2⟩
        · 
          by_cases hq2 : y < 0
          · clear hg
            clear HF
            go_wp2_with fail
            refine (CE _ P5.out.sli Q5.out.sli).mono ?_
            rintro e w6 ⟨rfl, hb⟩
            have L6 := Lib.hid (L5.out.call hb)
            go_wp2_with fail
            go_ret
            exact ⟨rfl, L6.out.2.2⟩
          · 
            by_cases hq3 : n ≤ y
            · clear hg
              clear HF
              go_wp2_with fail
              refine (CE _ P5.out.sli Q5.out.sli).mono ?_
              rintro e w6 ⟨rfl, hb⟩
              have L6 := Lib.hid (L5.out.call hb)
              go_wp2_with fail
              go_ret
              exact ⟨rfl, L6.out.2.2⟩
            · 
              by_cases hq4 : z < 0
              · clear hg
                clear HF
                go_wp2_with fail
                refine (CE _ P5.out.sli Q5.out.sli).mono ?_
                rintro e w6 ⟨rfl, hb⟩
                have L6 := Lib.hid (L5.out.call hb)
                go_wp2_with fail
                go_ret
                exact ⟨rfl, L6.out.2.2⟩
              · 
                by_cases hq5 : n ≤ z
                · clear hg
                  clear HF
                  go_wp2_with fail
                  refine (CE _ P5.out.sli Q5.out.sli).mono ?_
                  rintro e w6 ⟨rfl, hb⟩
                  have L6 := Lib.hid (L5.out.call hb)
                  go_wp2_with fail
                  go_ret
                  exact ⟨rfl, L6.out.2.2⟩
                · 
                  have HU := Lib.hid (HF.out hg ⟨by omega, by omega⟩ ⟨by omega, by omega⟩ ⟨by omega, by omega⟩)
                  have hk : x.toNat < ls.length := by omega
                  have CW : ∀ W : World, (0 < ls.length → ∃ g, A1 = some ⟨g, 0, none⟩) → Sl W W.heap.size A1 ls → Calls Try.prog 22 #[gval n A1 ls.length c1, .int .i64 x] W (GRes n (ls.eraseIdx x.toNat) true W) := fun W hA h => by
                    have := wo_drawn n A1 ls c1 x.toNat W (by omega) hg hk hA h
                    rw [show ((x.toNat : Nat) : Int) = x by omega] at this
                    exact this
                  have hrl : (ls.eraseIdx x.toNat).length ≤ 16 := Nat.le_trans (List.length_eraseIdx_le _ _) hls
                  have CU := fun W (h : Sl W W.heap.size A1 ls) => used_impl n A1 ls c1 z y x W (by omega) h
                  have CN := fun W (h : Sl W W.heap.size A1 ls) => hops_impl n A1 ls c1 z y W (by omega) h
                  have hl8 : (hopsL n ls z y).length ≤ 8 := hops_len _ _ _ _
                  clear HF hg CE hk
                  go_wp2_with fail
                  refine (CW _ L5.out.2.1.isV L5.out.2.1.sl).mono ?_
                  clear CW
                  rintro e w6 ⟨A6, g6, c6, rfl, -, ho6, hb⟩
                  have L6 := Lib.hid (L5.out.call hb)
                  have P6 := Lib.hid (P5.out.below hb)
                  clear hb L5 P5
                  have X7 := Lib.hid (show LB w w6.heap.size n (ls.eraseIdx x.toNat) A6 g6 c6 (w6.alloc (.cells #[.int .i64 n, .slice A6 (ls.eraseIdx x.toNat).length c6] 25)) from ⟨Box.new w6 _ _, ho6.alloc _, L6.out.2.2.alloc L6.out.2.2.size _⟩)
                  have L7 := Lib.hid (L6.out.alloc (.cells #[.int .i64 n, .slice A6 (ls.eraseIdx x.toNat).length c6] 25))
                  have P7 := Lib.hid (P6.out.alloc (.cells #[.int .i64 n, .slice A6 (ls.eraseIdx x.toNat).length c6] 25))
                  clear ho6 L6 P6
                  generalize ls.eraseIdx x.toNat = rs at *
                  have CR := fun W (h : Sl W W.heap.size A6 rs) => hops_impl n A6 rs c6 z y W (by omega) h
                  clear Q5 z5 c50 c51
                  generalize usedB n ls z y x = u at *
                  generalize hopsL n rs z y = zs at *
                  generalize hopsL n ls z y = ys at *
                  go_wp2_with fail
                  generalize w6.alloc (.cells #[.int .i64 n, .slice A6 rs.length c6] 25) = W6 at *
                  generalize w6.heap.size = bx at *
                  obtain ⟨zg, d0, d1, -, -⟩ := L7.out.1.two
                  obtain ⟨zr, r0, r1, -, -⟩ := X7.out.1.two
                  cases u with
                  | true =>
                    clear HU CN CR
                    have hX := fun (x : Ext W6.drew) (bb o : Nat) (h : bb < W6.heap.size) => (show x.w.cell? ⟨bb, o, none⟩ = W6.cell? ⟨bb, o, none⟩ from x.cell bb o h)
                    go_upto_region 9 with fail
                    refine wp_region_staged 25 (by kernel_rfl) (by kernel_rfl) ?_
                    refine stage_seg _ 21 [0, 1, 2, 3] (by kernel_rfl) (by kernel_rfl) (by kernel_rfl) (by kernel_rfl) ?_
                    (simp only [List.map_cons, List.map_nil, List.getElem?_cons_zero, List.getElem?_cons_succ, Option.getD_some]); (repeat (go_big_quiet_step (fail))); (refine wpQuiet_nil ?_)
                    have LD := Lib.hid L7.out.drew
                    have XD := Lib.hid X7.out.drew
                    have PD := Lib.hid (show Own1i W6.drew A2 g2 xs from P7.out)
                    clear hX zg d0 d1 zr r0 r1 L7 X7 P7
                    refine stage_call _ 20 4 (by kernel_rfl) (by rfl) (by kernel_rfl) (by rfl) ?_
                    go_wp2_with fail
                    refine (CU W6.drew LD.out.2.1.sl).mono ?_
                    clear CU
                    rintro e w8 ⟨rfl, hb⟩
                    refine ⟨hb, ?_⟩
                    have L8 := Lib.hid (LD.out.call hb)
                    have X8 := Lib.hid (XD.out.call hb)
                    have P8 := Lib.hid (PD.out.below hb)
                    clear hb LD XD PD
                    obtain ⟨zg, d0, d1, -, -⟩ := L8.out.1.two
                    obtain ⟨zr, r0, r1, -, -⟩ := X8.out.1.two
                    have hX := fun (x : Ext w8) (bb o : Nat) (h : bb < w8.heap.size) => x.cell bb o h
                    refine stage_seg _ 13 [5, 6, 7, 8, 10, 11, 12] (by kernel_rfl) (by kernel_rfl) (by kernel_rfl) (by kernel_rfl) ?_
                    (simp only [List.map_cons, List.map_nil, List.getElem?_cons_zero, List.getElem?_cons_succ, Option.getD_some]); (repeat (go_big_quiet_step (fail))); (refine wpQuiet_nil ?_)
                    clear hX zg d0 d1 zr r0 r1
                    refine stage_skip _ 12 9 (by kernel_rfl) (by rfl) (by kernel_rfl) (by rfl) ?_
                    refine stage_skip _ 11 13 (by kernel_rfl) (by rfl) (by kernel_rfl) (by rfl) ?_
                    refine stage_skip _ 10 14 (by kernel_rfl) (by rfl) (by kernel_rfl) (by rfl) ?_
                    go_simp
                    refine stage_seg _ 5 [15, 16, 17, 18, 19] (by kernel_rfl) (by kernel_rfl) (by kernel_rfl) (by kernel_rfl) ?_
                    (simp only [List.map_cons, List.map_nil, List.getElem?_cons_zero, List.getElem?_cons_succ, Option.getD_some]); (repeat (go_big_quiet_step (fail))); (refine wpQuiet_nil ?_)
                    refine stage_skip _ 4 20 (by kernel_rfl) (by rfl) (by kernel_rfl) (by rfl) ?_
                    refine stage_skip _ 3 21 (by kernel_rfl) (by rfl) (by kernel_rfl) (by rfl) ?_
                    go_simp
                    refine stage_seg _ 0 [22, 23, 24] (by kernel_rfl) (by kernel_rfl) (by kernel_rfl) (by kernel_rfl) ?_
                    (simp only [List.map_cons, List.map_nil, List.getElem?_cons_zero, List.getElem?_cons_succ, Option.getD_some]); (repeat (go_big_quiet_step (fail))); (refine wpQuiet_nil ?_)
                    refine stage_end (by kernel_rfl) ?_
                    go_wp2_with fail
                    go_ret
                    exact ⟨rfl, L8.out.2.2⟩
                  | false =>
                    obtain ⟨hu1, hu2⟩ := HU.out rfl
                    subst hu1
                    subst hu2
                    clear HU
                    have hX := fun (x : Ext W6.drew) (bb o : Nat) (h : bb < W6.heap.size) => (show x.w.cell? ⟨bb, o, none⟩ = W6.cell? ⟨bb, o, none⟩ from x.cell bb o h)
                    go_upto_region 9 with fail
                    refine wp_region_staged 25 (by kernel_rfl) (by kernel_rfl) ?_
                    refine stage_seg _ 21 [0, 1, 2, 3] (by kernel_rfl) (by kernel_rfl) (by kernel_rfl) (by kernel_rfl) ?_
                    (simp only [List.map_cons, List.map_nil, List.getElem?_cons_zero, List.getElem?_cons_succ, Option.getD_some]); (repeat (go_big_quiet_step (fail))); (refine wpQuiet_nil ?_)
                    have LD := Lib.hid L7.out.drew
                    have XD := Lib.hid X7.out.drew
                    have PD := Lib.hid (show Own1i W6.drew A2 g2 xs from P7.out)
                    clear hX zg d0 d1 zr r0 r1 L7 X7 P7
                    refine stage_call _ 20 4 (by kernel_rfl) (by rfl) (by kernel_rfl) (by rfl) ?_
                    go_wp2_with fail
                    refine (CU W6.drew LD.out.2.1.sl).mono ?_
                    clear CU
                    rintro e w8 ⟨rfl, hb⟩
                    refine ⟨hb, ?_⟩
                    have L8 := Lib.hid (LD.out.call hb)
                    have X8 := Lib.hid (XD.out.call hb)
                    have P8 := Lib.hid (PD.out.below hb)
                    clear hb LD XD PD
                    obtain ⟨zg, d0, d1, -, -⟩ := L8.out.1.two
                    obtain ⟨zr, r0, r1, -, -⟩ := X8.out.1.two
                    have hX := fun (x : Ext w8) (bb o : Nat) (h : bb < w8.heap.size) => x.cell bb o h
                    refine stage_seg _ 13 [5, 6, 7, 8, 10, 11, 12] (by kernel_rfl) (by kernel_rfl) (by kernel_rfl) (by kernel_rfl) ?_
                    (simp only [List.map_cons, List.map_nil, List.getElem?_cons_zero, List.getElem?_cons_succ, Option.getD_some]); (repeat (go_big_quiet_step (fail))); (refine wpQuiet_nil ?_)
                    clear hX zg d0 d1 zr r0 r1
                    refine stage_call _ 12 9 (by kernel_rfl) (by rfl) (by kernel_rfl) (by rfl) ?_
                    go_wp2_with fail
                    refine (CR _ X8.out.2.1.sl).mono ?_
                    clear CR
                    rintro e w9 ⟨A9, g9, c9, rfl, -, ho9, hb⟩
                    refine ⟨hb, ?_⟩
                    have L9 := Lib.hid (L8.out.call hb)
                    have P9 := Lib.hid (P8.out.below hb)
                    have R9 := Lib.hid ho9
                    clear hb L8 X8 P8 ho9
                    refine stage_call _ 11 13 (by kernel_rfl) (by rfl) (by kernel_rfl) (by rfl) ?_
                    go_wp2_with fail
                    refine (CN _ L9.out.2.1.sl).mono ?_
                    rintro e w10 ⟨A10, g10, c10, rfl, -, ho10, hb⟩
                    refine ⟨hb, ?_⟩
                    have L10 := Lib.hid (L9.out.call hb)
                    have P10 := Lib.hid (P9.out.below hb)
                    have R10 := Lib.hid (R9.out.below hb)
                    have S10 := Lib.hid ho10
                    clear hb L9 P9 R9 ho10
                    refine stage_call _ 10 14 (by kernel_rfl) (by rfl) (by kernel_rfl) (by rfl) ?_
                    go_wp2_with fail
                    refine (sameInts_same A9 A10 _ c9 c10 w10 (by omega) R10.out.sli S10.out.sli).mono ?_
                    rintro e w11 ⟨rfl, hb⟩
                    refine ⟨hb, ?_⟩
                    have L11 := Lib.hid (L10.out.call hb)
                    have P11 := Lib.hid (P10.out.below hb)
                    clear hb L10 P10 R10 S10
                    obtain ⟨zg, d0, d1, -, -⟩ := L11.out.1.two
                    have hX := fun (x : Ext w11) (bb o : Nat) (h : bb < w11.heap.size) => x.cell bb o h
                    refine stage_seg _ 5 [15, 16, 17, 18, 19] (by kernel_rfl) (by kernel_rfl) (by kernel_rfl) (by kernel_rfl) ?_
                    (simp only [List.map_cons, List.map_nil, List.getElem?_cons_zero, List.getElem?_cons_succ, Option.getD_some]); (repeat (go_big_quiet_step (fail))); (refine wpQuiet_nil ?_)
                    clear hX zg d0 d1
                    refine stage_call _ 4 20 (by kernel_rfl) (by rfl) (by kernel_rfl) (by rfl) ?_
                    go_wp2_with fail
                    refine (CN _ L11.out.2.1.sl).mono ?_
                    clear CN
                    rintro e w12 ⟨A12, g12, c12, rfl, -, ho12, hb⟩
                    refine ⟨hb, ?_⟩
                    have L12 := Lib.hid (L11.out.call hb)
                    have P12 := Lib.hid (P11.out.below hb)
                    have R12 := Lib.hid ho12
                    clear hb L11 P11 ho12
                    refine stage_call _ 3 21 (by kernel_rfl) (by rfl) (by kernel_rfl) (by rfl) ?_
                    go_wp2_with fail
                    refine (sameInts_same A2 A12 _ c2 c12 w12 (by omega) P12.out.sli R12.out.sli).mono ?_
                    rintro e w13 ⟨rfl, hb⟩
                    refine ⟨hb, ?_⟩
                    have L13 := Lib.hid (L12.out.call hb)
                    clear hb L12 P12 R12
                    refine stage_seg _ 0 [22, 23, 24] (by kernel_rfl) (by kernel_rfl) (by kernel_rfl) (by kernel_rfl) ?_
                    (simp only [List.map_cons, List.map_nil, List.getElem?_cons_zero, List.getElem?_cons_succ, Option.getD_some]); (repeat (go_big_quiet_step (fail))); (refine wpQuiet_nil ?_)
                    refine stage_end (by kernel_rfl) ?_
                    go_wp2_with fail
                    go_ret
                    exact ⟨rfl, L13.out.2.2⟩
  · go_enter Try.func8, Try.ntmps8
    go_wp2
    go_ret
    exact ⟨rfl, by (repeat (first | exact Below.refl _ _ | (refine Below.alloc ?_ (by first | exact Nat.le_refl _ | omega | (simp; done) | (simp; omega)) _) | (refine Below.setCell ?_ (by first | exact Nat.le_refl _ | omega | (simp; done) | (simp; omega)) _) | exact Below.drew ‹_›))⟩
end Go.Proofs.Ytkcnbgimdiggoaa
