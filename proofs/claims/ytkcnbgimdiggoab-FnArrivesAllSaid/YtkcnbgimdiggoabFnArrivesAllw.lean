/-
  The walk of FnArrivesAll over this seat.
-/
import Derived.Test.YtkcnbgimdiggoabG7
import Derived.Test.YtkcnbgimdiggoabVy
import Derived.Test.YtkcnbgimdiggoabA8
namespace Go.Proofs.Ytkcnbgimdiggoab
open Go.RowKit Go.Maps

set_option maxRecDepth 100000 in
set_option maxHeartbeats 1600000 in
theorem fnArrivesAll_walk (A : Option Addr) (len c : Nat) (f : Nat → Int) (w : World) (hlc : len ≤ c) (hc : c ≤ maxLen) (hB : Byt w w.heap.size A len f) :
   Calls Try.prog 5 #[.slice A len c] w fun e w' => e = .returned (.bool true) ∧ Below w.heap.size w w' := by
  have HB := Lib.hid hB
  clear hB
  by_cases hl : len ≤ 1048576
  · go_enter Try.func5, Try.ntmps5
    go_wp2_with fail
    refine (drawUO_any A len c f w hlc hc HB.out).mono ?_
    rintro e w1 ⟨n, ls, A1, g1, c1, x, y, rfl, ⟨hn0, hn1, hls, hg1, ho1, hb1⟩, hx0, hx1, hy0, hy1, hcap⟩
    have L1 := Lib.hid (show LB w w1.heap.size n ls A1 g1 c1 (w1.alloc (.cells #[.int .i64 n, .slice A1 ls.length c1] 25)) from ⟨Box.new w1 _ _, ho1.alloc _, hb1.alloc hb1.size _⟩)
    clear ho1 hb1 HB
    generalize hG : w1.heap.size = G at *
    go_wp2_with fail
    refine (updOrder_impl n A1 ls c1 x y _ (by omega) L1.out.2.1.sl).mono ?_
    rintro e w2 ⟨A2, g2, c2, rfl, hg2, ho2, hb2, hlc2⟩
    have L2 := Lib.hid (L1.out.call hb2)
    have P2 := Lib.hid ho2
    clear hb2 L1 hG ho2
    obtain ⟨z2, c20, c21, -, -⟩ := L2.out.1.two
    go_wp2_with fail
    refine (updOrder_spec n A1 ls c1 x y w2 (by omega) (by omega) L2.out.2.1.sl).mono ?_
    rintro e w3 ⟨A3, g3, c3, rfl, hg3, ho3, hb3⟩
    have L3 := Lib.hid (L2.out.call hb3)
    have P3 := Lib.hid (P2.out.below hb3)
    have Q3 := Lib.hid ho3
    clear hb3 L2 z2 c20 c21 P2 ho3
    obtain ⟨z3, c30, c31, -, -⟩ := L3.out.1.two
    have hrs : (ordA n ls x y).length ≤ 8 := ordA_len8 n ls x y
    have HF := Lib.hid (fun h1 h2 h3 => arrall_int (n := n) (ls := ls) (x := x) (t := y) h1 h2 h3)
    generalize ordA n ls x y = xs at *
    go_wp2_with fail
    refine (sameInts_same A2 A3 xs c2 c3 w3 (by omega) P3.out.sli Q3.out.sli).mono ?_
    rintro e w4 ⟨rfl, hb4⟩
    have L4 := Lib.hid (L3.out.call hb4)
    have P4 := Lib.hid (P3.out.below hb4)
    have Q4 := Lib.hid (Q3.out.below hb4)
    clear hb4 L3 P3 Q3 z3 c30 c31 hg2 hg3
    obtain ⟨z4, c40, c41, -, -⟩ := L4.out.1.two
    have CV := valid_spec_any n A1 ls c1 w4 (by omega) (by omega) L4.out.2.1.sl
    have CE := fun W (h1 : Sli W W.heap.size A2 xs) (h2 : Sli W W.heap.size A3 xs) => sameInts_same A2 A3 xs c2 c3 W (by omega) h1 h2
    go_wp2_with fail
    refine (CV).mono ?_
    rintro e w5 ⟨rfl, hb⟩
    have L5 := Lib.hid (L4.out.call hb)
    have P5 := Lib.hid (P4.out.below hb)
    have Q5 := Lib.hid (Q4.out.below hb)
    clear hb L4 P4 Q4 z4 c40 c41
    obtain ⟨z5, c50, c51, -, -⟩ := L5.out.1.two
    cases hg : gvB n ls with
    | false =>
      clear hg
      clear HF
      go_wp2_with fail
      refine (CE _ P5.out.sli Q5.out.sli).mono ?_
      rintro e w6 ⟨rfl, hb⟩
      have L6 := Lib.hid (L5.out.call hb)
      go_wp2_with fail
      go_ret
      exact ⟨rfl, L6.out.2.2⟩
    | true =>
      by_cases hq0 : x < 0
      · clear hg
        clear HF
        go_wp2_with fail
        refine (CE _ P5.out.sli Q5.out.sli).mono ?_
        rintro e w6 ⟨rfl, hb⟩
        have L6 := Lib.hid (L5.out.call hb)
        go_wp2_with fail
        go_ret
        exact ⟨rfl, L6.out.2.2⟩
      · 
        by_cases hq1 : (ls.length : Int) ≤ x
        · clear hg
          clear HF
          go_wp2_with fail
          refine (CE _ P5.out.sli Q5.out.sli).mono ?_
          rintro e w6 ⟨rfl, hb⟩
          have L6 := Lib.hid (L5.out.call hb)
          go_wp2_with fail
          go_ret
          exact ⟨rfl, L6.out.2.2⟩
        · 
          by_cases hq2 : y < 0
          · clear hg
            clear HF
            go_wp2_with fail
            refine (CE _ P5.out.sli Q5.out.sli).mono ?_
            rintro e w6 ⟨rfl, hb⟩
            have L6 := Lib.hid (L5.out.call hb)
            go_wp2_with fail
            go_ret
            exact ⟨rfl, L6.out.2.2⟩
          · 
            by_cases hq3 : n ≤ y
            · clear hg
              clear HF
              go_wp2_with fail
              refine (CE _ P5.out.sli Q5.out.sli).mono ?_
              rintro e w6 ⟨rfl, hb⟩
              have L6 := Lib.hid (L5.out.call hb)
              go_wp2_with fail
              go_ret
              exact ⟨rfl, L6.out.2.2⟩
            · 
              have hAA := HF.out hg ⟨by omega, by omega⟩ ⟨by omega, by omega⟩
              have hk : x.toNat < ls.length := by omega
              have CW : ∀ W : World, (0 < ls.length → ∃ g, A1 = some ⟨g, 0, none⟩) → Sl W W.heap.size A1 ls → Calls Try.prog 21 #[gval n A1 ls.length c1, .int .i64 x] W (GRes n (ls.eraseIdx x.toNat) true W) := fun W hA h => by
                have := wo_drawn n A1 ls c1 x.toNat W (by omega) hg hk hA h
                rw [show ((x.toNat : Nat) : Int) = x by omega] at this
                exact this
              have hrl : (ls.eraseIdx x.toNat).length ≤ 16 := Nat.le_trans (List.length_eraseIdx_le _ _) hls
              have CA := fun W h1 (h : Sl W W.heap.size A1 ls) h2 => mixArr_impl n A1 ls c1 x y A2 xs c2 W (by omega) h1 (by omega) h h2
              rw [hAA] at CA
              have hl8 := reachL_len8 n (ls.eraseIdx x.toNat) y
              clear HF hg CE hk hAA
              go_wp2_with fail
              refine (CW _ L5.out.2.1.isV L5.out.2.1.sl).mono ?_
              clear CW
              rintro e w6 ⟨A6, g6, c6, rfl, -, ho6, hb⟩
              have L6 := Lib.hid (L5.out.call hb)
              have P6 := Lib.hid (P5.out.below hb)
              clear hb L5 P5 Q5 z5 c50 c51
              have X7 := Lib.hid (show LB w w6.heap.size n (ls.eraseIdx x.toNat) A6 g6 c6 (w6.alloc (.cells #[.int .i64 n, .slice A6 (ls.eraseIdx x.toNat).length c6] 25)) from ⟨Box.new w6 _ _, ho6.alloc _, L6.out.2.2.alloc L6.out.2.2.size _⟩)
              have L7 := Lib.hid (L6.out.alloc (.cells #[.int .i64 n, .slice A6 (ls.eraseIdx x.toNat).length c6] 25))
              have P7 := Lib.hid (P6.out.alloc (.cells #[.int .i64 n, .slice A6 (ls.eraseIdx x.toNat).length c6] 25))
              clear ho6 L6 P6
              generalize ls.eraseIdx x.toNat = rs at *
              have CR := fun W (h : Sl W W.heap.size A6 rs) => reach_impl n A6 rs c6 y W (by omega) h
              generalize reachL n rs y = zs at *
              go_wp2_with fail
              generalize w6.alloc (.cells #[.int .i64 n, .slice A6 rs.length c6] 25) = W6 at *
              generalize w6.heap.size = bx at *
              obtain ⟨zg, d0, d1, -, -⟩ := L7.out.1.two
              obtain ⟨zr, r0, r1, -, -⟩ := X7.out.1.two
              have hX := fun (x : Ext W6.drew) (bb o : Nat) (h : bb < W6.heap.size) => (show x.w.cell? ⟨bb, o, none⟩ = W6.cell? ⟨bb, o, none⟩ from x.cell bb o h)
              go_upto_region 9 with fail
              refine wp_region_staged 10 (by kernel_rfl) (by kernel_rfl) ?_
              refine stage_seg _ 4 [0, 1, 2, 3, 5, 6] (by kernel_rfl) (by kernel_rfl) (by kernel_rfl) (by kernel_rfl) ?_
              (simp only [List.map_cons, List.map_nil, List.getElem?_cons_zero, List.getElem?_cons_succ, Option.getD_some]); (repeat (go_big_quiet_step (fail))); (refine wpQuiet_nil ?_)
              have LD := Lib.hid L7.out.drew
              have XD := Lib.hid X7.out.drew
              have PD := Lib.hid (show Own1i W6.drew A2 g2 xs from P7.out)
              clear hX zg d0 d1 zr r0 r1 L7 X7 P7
              refine stage_call _ 3 4 (by kernel_rfl) (by rfl) (by kernel_rfl) (by rfl) ?_
              go_wp2_with fail
              refine (CA W6.drew LD.out.2.1.isV LD.out.2.1.sl PD.out.sli).mono ?_
              clear CA
              rintro e w8 ⟨A8, g8, c8, rfl, -, ho8, hb⟩
              refine ⟨hb, ?_⟩
              have L8 := Lib.hid (LD.out.call hb)
              have X8 := Lib.hid (XD.out.call hb)
              have R8 := Lib.hid ho8
              clear hb LD XD PD ho8
              refine stage_call _ 2 7 (by kernel_rfl) (by rfl) (by kernel_rfl) (by rfl) ?_
              go_wp2_with fail
              refine (CR _ X8.out.2.1.sl).mono ?_
              clear CR
              rintro e w9 ⟨A9, g9, c9, rfl, -, ho9, hb⟩
              refine ⟨hb, ?_⟩
              have L9 := Lib.hid (L8.out.call hb)
              have R9 := Lib.hid (R8.out.below hb)
              have S9 := Lib.hid ho9
              clear hb L8 X8 R8 ho9
              refine stage_call _ 1 8 (by kernel_rfl) (by rfl) (by kernel_rfl) (by rfl) ?_
              go_wp2_with fail
              refine (sameInts_same A8 A9 zs c8 c9 w9 (by omega) R9.out.sli S9.out.sli).mono ?_
              rintro e w10 ⟨rfl, hb⟩
              refine ⟨hb, ?_⟩
              have L10 := Lib.hid (L9.out.call hb)
              clear hb L9 R9 S9
              refine stage_seg _ 0 [9] (by kernel_rfl) (by kernel_rfl) (by kernel_rfl) (by kernel_rfl) ?_
              (simp only [List.map_cons, List.map_nil, List.getElem?_cons_zero, List.getElem?_cons_succ, Option.getD_some]); (repeat (go_big_quiet_step (fail))); (refine wpQuiet_nil ?_)
              refine stage_end (by kernel_rfl) ?_
              go_wp2_with fail
              go_ret
              exact ⟨rfl, L10.out.2.2⟩
  · go_enter Try.func5, Try.ntmps5
    go_wp2
    go_ret
    exact ⟨rfl, by (repeat (first | exact Below.refl _ _ | (refine Below.alloc ?_ (by first | exact Nat.le_refl _ | omega | (simp; done) | (simp; omega)) _) | (refine Below.setCell ?_ (by first | exact Nat.le_refl _ | omega | (simp; done) | (simp; omega)) _) | exact Below.drew ‹_›))⟩
end Go.Proofs.Ytkcnbgimdiggoab
