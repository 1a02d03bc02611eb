/-
  The walk of FnRepairCost over this seat.
-/
import Derived.Test.YtenlofomkchlaabDoorVp
import Derived.Test.YtenlofomkchlaabDoorA8
namespace Go.Proofs.YtenlofomkchlaabDoor
open Go.RowKit Go.Maps

set_option maxRecDepth 100000 in
set_option maxHeartbeats 1600000 in
theorem fnRepairCost_walk (A : Option Addr) (len c : Nat) (f : Nat → Int) (w : World) (hlc : len ≤ c) (hc : c ≤ maxLen) (hB : Byt w w.heap.size A len f) (hsen : Sen w) :
   Calls Tryd.prog 8 #[.slice A len c] w fun e w' => e = .returned (.bool true) ∧ Below w.heap.size w w' := by
  have HB := Lib.hid hB
  clear hB
  have HSEN := Lib.hid hsen
  clear hsen
  by_cases hl : len ≤ 1048576
  · go_enter Tryd.func8, Tryd.ntmps8
    go_wp2_with fail
    refine (drawRepK_any A len c f w hlc hc HB.out).mono ?_
    rintro e w1 ⟨n, ls, A1, g1, c1, x, y, z, rfl, ⟨hn0, hn1, hls, hg1, ho1, hb1⟩, hx0, hx1, hy0, hy1, hz0, hz1, hcap⟩
    have L1 := Lib.hid (show LB w w1.heap.size n ls A1 g1 c1 (w1.alloc (.cells #[.int .i64 n, .slice A1 ls.length c1] 31)) from ⟨Box.new w1 _ _, ho1.alloc _, hb1.alloc hb1.size _⟩)
    clear ho1 hb1 HB
    generalize hG : w1.heap.size = G at *
    go_wp2_with fail
    refine (repStack_impl n A1 ls c1 x y z _ (by omega) L1.out.2.1.isV L1.out.2.1.sl (HSEN.out.below L1.out.2.2)).mono ?_
    rintro e w2 ⟨A2, g2, c2, rfl, hg2, ho2, hb2, hlc2⟩
    have L2 := Lib.hid (L1.out.call hb2)
    have P2 := Lib.hid ho2
    clear hb2 L1 hG ho2
    obtain ⟨z2, c20, c21, -, -⟩ := L2.out.1.two
    go_wp2_with fail
    refine (repStack_spec n A1 ls c1 x y z w2 (by omega) (by omega) L2.out.2.1.isV hcap L2.out.2.1.sl).mono ?_
    rintro e w3 ⟨A3, g3, c3, rfl, hg3, ho3, hb3, hlc3⟩
    have L3 := Lib.hid (L2.out.call hb3)
    have P3 := Lib.hid (P2.out.below hb3)
    have Q3 := Lib.hid ho3
    clear hb3 L2 z2 c20 c21 P2 ho3 hg2 hg3 hlc3
    have hst8 := repA_len8 n ls x y z
    have HF := Lib.hid (fun (h : repB n ls x y z = true) => cost_law (repB_some h))
    have CSS := fun (nn : Int) (A : Option Addr) (us : List Lk) (cu : Nat) (B : Option Addr) (st : List Lb) (cb : Nat) W h1 h1' (h2 : Sl W W.heap.size A us) h3 => stackCost_impl nn A us cu x B st cb W h1 h1' h2 h3
    generalize repA n ls x y z = st at *
    generalize repB n ls x y z = ok at *
    have CS := fun W (h1 : Slb W W.heap.size A2 st) (h2 : Slb W W.heap.size A3 st) => sameLb_same A2 A3 st c2 c3 W (by omega) h1 h2
    obtain ⟨z3, c30, c31, -, -⟩ := L3.out.1.two
    cases ok with
    | false =>
      clear HF
      go_wp2_with fail
      refine (CS _ P3.out.slb Q3.out.slb).mono ?_
      rintro e w4 ⟨rfl, hb⟩
      have L4 := Lib.hid (L3.out.call hb)
      have P4 := Lib.hid (P3.out.below hb)
      have Q4 := Lib.hid (Q3.out.below hb)
      clear hb L3 P3 Q3 z3 c30 c31
      go_wp2_with fail
      refine (CS _ P4.out.slb Q4.out.slb).mono ?_
      rintro e w5 ⟨rfl, hb⟩
      have LX := Lib.hid (L4.out.call hb)
      go_wp2_with fail
      go_ret
      exact ⟨rfl, LX.out.2.2⟩
    | true =>
      have HF2 := Lib.hid (HF.out rfl)
      clear HF
      go_wp2_with fail
      refine (CS _ P3.out.slb Q3.out.slb).mono ?_
      rintro e w4 ⟨rfl, hb⟩
      have L4 := Lib.hid (L3.out.call hb)
      have P4 := Lib.hid (P3.out.below hb)
      have Q4 := Lib.hid (Q3.out.below hb)
      clear hb L3 P3 Q3 z3 c30 c31
      clear Q4 CS
      obtain ⟨z4, c40, c41, -, -⟩ := L4.out.1.two
      obtain ⟨n, k, q, rfl, rfl, hk, hg, hge, hx, rfl, hq, hle, -, -⟩ := HF2.out
      have CW := fun W hA (h : Sl W W.heap.size A1 ls) => wo_drawn (n : Int) A1 ls c1 k W (by omega) hg hk hA h
      have hrl : (ls.eraseIdx k).length ≤ 16 := Nat.le_trans (List.length_eraseIdx_le _ _) hls
      have HX := Lib.hid hx
      have HGE := Lib.hid hge
      have HLE := Lib.hid hle
      clear hx hge hg hle HF2
      go_wp2_with fail
      refine (CW _ L4.out.2.1.isV L4.out.2.1.sl).mono ?_
      clear CW
      rintro e w5 ⟨A5, g5, c5, rfl, -, ho5, hb⟩
      have L5 := Lib.hid (L4.out.call hb)
      have P5 := Lib.hid (P4.out.below hb)
      clear hb L4 P4 z4 c40 c41
      have X6 := Lib.hid (show LB w w5.heap.size (n : Int) (ls.eraseIdx k) A5 g5 c5 (w5.alloc (.cells #[.int .i64 (n : Int), .slice A5 (ls.eraseIdx k).length c5] 31)) from ⟨Box.new w5 _ _, ho5.alloc _, L5.out.2.2.alloc L5.out.2.2.size _⟩)
      have L6 := Lib.hid (L5.out.alloc (.cells #[.int .i64 (n : Int), .slice A5 (ls.eraseIdx k).length c5] 31))
      have P6 := Lib.hid (P5.out.alloc (.cells #[.int .i64 (n : Int), .slice A5 (ls.eraseIdx k).length c5] 31))
      clear ho5 L5 P5
      generalize ls.eraseIdx k = rs at *
      go_wp2_with fail
      generalize w5.alloc (.cells #[.int .i64 (n : Int), .slice A5 rs.length c5] 31) = W6 at *
      generalize w5.heap.size = bx at *
      have C1 := CSS (n : Int) A1 ls c1 A2 st c2 W6.drew (by omega) (by omega) L6.out.drew.2.1.sl (show Ownb W6.drew A2 g2 st from P6.out).slb
      have C2 := fun W (h : Sl W W.heap.size A5 rs) => dist_any n A5 rs c5 x q W (by omega) HGE.out HX.out hq h
      generalize costS (n : Int) ls x st = cs at *
      generalize bf (n : Int) rs x (q : Int) = d at *
      have hcd : d ≤ cs := HLE.out
      obtain ⟨zg, d0, d1, -, -⟩ := L6.out.1.two
      obtain ⟨zr, r0, r1, -, -⟩ := X6.out.1.two
      clear CSS
      have hX := fun (x : Ext W6.drew) (bb o : Nat) (h : bb < W6.heap.size) => (show x.w.cell? ⟨bb, o, none⟩ = W6.cell? ⟨bb, o, none⟩ from x.cell bb o h)
      go_upto_region 9 with fail
      refine wp_region_staged 10 (by kernel_rfl) (by kernel_rfl) ?_
      refine stage_seg _ 4 [0, 1, 2, 4, 5, 6] (by kernel_rfl) (by kernel_rfl) (by kernel_rfl) (by kernel_rfl) ?_
      (simp only [List.map_cons, List.map_nil, List.getElem?_cons_zero, List.getElem?_cons_succ, Option.getD_some]); (repeat (go_big_quiet_step (fail))); (refine wpQuiet_nil ?_)
      clear hX zg d0 d1 zr r0 r1
      refine stage_call _ 3 3 (by kernel_rfl) (by rfl) (by kernel_rfl) (by rfl) ?_
      go_wp2_with fail
      refine C1.mono ?_
      clear C1
      rintro e w8 ⟨rfl, hb⟩
      refine ⟨hb, ?_⟩
      have L8 := Lib.hid (L6.out.drew.call hb)
      have X8 := Lib.hid (X6.out.drew.call hb)
      clear hb L6 P6 X6
      refine stage_call _ 2 7 (by kernel_rfl) (by rfl) (by kernel_rfl) (by rfl) ?_
      go_wp2_with fail
      refine (C2 _ X8.out.2.1.sl).mono ?_
      clear C2
      rintro e w9 ⟨rfl, hb⟩
      refine ⟨hb, ?_⟩
      have L9 := Lib.hid (L8.out.call hb)
      clear hb L8 X8
      refine stage_seg _ 0 [8, 9] (by kernel_rfl) (by kernel_rfl) (by kernel_rfl) (by kernel_rfl) ?_
      (simp only [List.map_cons, List.map_nil, List.getElem?_cons_zero, List.getElem?_cons_succ, Option.getD_some]); (repeat (go_big_quiet_step (fail))); (refine wpQuiet_nil ?_)
      refine stage_end (by kernel_rfl) ?_
      go_wp2_with fail
      go_ret
      exact ⟨ret_bool (by first | rfl | simp | (simp; omega)), L9.out.2.2⟩
  · go_enter Tryd.func8, Tryd.ntmps8
    go_wp2
    go_ret
    exact ⟨rfl, by (repeat (first | exact Below.refl _ _ | (refine Below.alloc ?_ (by first | exact Nat.le_refl _ | omega | (simp; done) | (simp; omega)) _) | (refine Below.setCell ?_ (by first | exact Nat.le_refl _ | omega | (simp; done) | (simp; omega)) _) | exact Below.drew ‹_›))⟩
end Go.Proofs.YtenlofomkchlaabDoor
