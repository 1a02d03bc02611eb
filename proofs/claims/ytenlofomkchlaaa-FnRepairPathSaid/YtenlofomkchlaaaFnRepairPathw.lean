/-
  The walk of FnRepairPath over this seat.
-/
import Derived.Test.YtenlofomkchlaaaVp
import Derived.Test.YtenlofomkchlaaaA8
namespace Go.Proofs.Ytenlofomkchlaaa
open Go.RowKit Go.Maps

set_option maxRecDepth 100000 in
set_option maxHeartbeats 1600000 in
theorem fnRepairPath_walk (A : Option Addr) (len c : Nat) (f : Nat → Int) (w : World) (hlc : len ≤ c) (hc : c ≤ maxLen) (hB : Byt w w.heap.size A len f) :
   Calls Try.prog 10 #[.slice A len c] w fun e w' => e = .returned (.bool true) ∧ Below w.heap.size w w' := by
  have HB := Lib.hid hB
  clear hB
  by_cases hl : len ≤ 1048576
  · go_enter Try.func10, Try.ntmps10
    go_wp2_with fail
    refine (drawRepP_any A len c f w hlc hc HB.out).mono ?_
    rintro e w1 ⟨n, ls, A1, g1, c1, x, y, z, rfl, ⟨hn0, hn1, hls, hg1, ho1, hb1⟩, hx0, hx1, hy0, hy1, hz0, hz1, hcap⟩
    have L1 := Lib.hid (show LB w w1.heap.size n ls A1 g1 c1 (w1.alloc (.cells #[.int .i64 n, .slice A1 ls.length c1] 30)) from ⟨Box.new w1 _ _, ho1.alloc _, hb1.alloc hb1.size _⟩)
    clear ho1 hb1 HB
    generalize hG : w1.heap.size = G at *
    go_wp2_with fail
    refine (repPath_impl n A1 ls c1 x y z _ (by omega) L1.out.2.1.isV L1.out.2.1.sl).mono ?_
    rintro e w2 ⟨A2, g2, c2, rfl, hg2, ho2, hb2⟩
    have L2 := Lib.hid (L1.out.call hb2)
    have P2 := Lib.hid ho2
    clear hb2 L1 hG ho2
    obtain ⟨z2, c20, c21, -, -⟩ := L2.out.1.two
    go_wp2_with fail
    refine (repPath_spec n A1 ls c1 x y z w2 (by omega) (by omega) L2.out.2.1.isV hcap L2.out.2.1.sl).mono ?_
    rintro e w3 ⟨A3, g3, c3, rfl, hg3, ho3, hb3⟩
    have L3 := Lib.hid (L2.out.call hb3)
    have P3 := Lib.hid (P2.out.below hb3)
    have Q3 := Lib.hid ho3
    clear hb3 L2 z2 c20 c21 P2 ho3
    obtain ⟨z3, c30, c31, -, -⟩ := L3.out.1.two
    have hrs : (rpP n ls x y z).length ≤ 8 := rpP_len n ls x y z
    have HF := Lib.hid (fun h => path_law (nn := n) (ls := ls) (s := x) (x := y) (t := z) h)
    generalize rpP n ls x y z = xs at *
    go_wp2_with fail
    refine (sameInts_same A2 A3 xs c2 c3 w3 (by omega) P3.out.sli Q3.out.sli).mono ?_
    rintro e w4 ⟨rfl, hb4⟩
    have L4 := Lib.hid (L3.out.call hb4)
    have P4 := Lib.hid (P3.out.below hb4)
    have Q4 := Lib.hid (Q3.out.below hb4)
    clear hb4 L3 P3 Q3 z3 c30 c31 hg2 hg3
    obtain ⟨z4, c40, c41, -, -⟩ := L4.out.1.two
    by_cases hz : xs.length = 0
    · have hz' : ((xs.length : Int) == 0) = true := by simp [hz]
      clear HF hz
      go_wp2_with fail
      refine (sameInts_same A2 A3 xs c2 c3 w4 (by omega) P4.out.sli Q4.out.sli).mono ?_
      rintro e w5 ⟨rfl, hb5⟩
      have L5 := Lib.hid (L4.out.call hb5)
      go_wp2_with fail
      go_ret
      exact ⟨rfl, L5.out.2.2⟩
    · have hz' : ((xs.length : Int) == 0) = false := by simpa using hz
      have hxs : 0 < xs.length := by omega
      have HF := Lib.hid (HF.out (by intro e; rw [e] at hz; exact hz rfl))
      clear hz Q4
      obtain ⟨n, k, rfl, rfl, hk, hg, hpath, hlink⟩ := HF.out
      have HLK := Lib.hid hlink
      have HPA := Lib.hid hpath
      have CW := fun W hA (h : Sl W W.heap.size A1 ls) => wo_drawn (n : Int) A1 ls c1 k W (by omega) hg hk hA h
      have hrl : (ls.eraseIdx k).length ≤ 16 := Nat.le_trans (List.length_eraseIdx_le _ _) hls
      clear hlink hpath HF hg
      go_wp2_with fail
      refine (CW _ L4.out.2.1.isV L4.out.2.1.sl).mono ?_
      clear CW
      rintro e w5 ⟨A5, g5, c5, rfl, -, ho5, hb⟩
      have L5 := Lib.hid (L4.out.call hb)
      have P5 := Lib.hid (P4.out.below hb)
      clear hb L4 P4 z4 c40 c41
      have X6 := Lib.hid (show LB w w5.heap.size (n : Int) (ls.eraseIdx k) A5 g5 c5 (w5.alloc (.cells #[.int .i64 (n : Int), .slice A5 (ls.eraseIdx k).length c5] 30)) from ⟨Box.new w5 _ _, ho5.alloc _, L5.out.2.2.alloc L5.out.2.2.size _⟩)
      have L6 := Lib.hid (L5.out.alloc (.cells #[.int .i64 (n : Int), .slice A5 (ls.eraseIdx k).length c5] 30))
      have P6 := Lib.hid (P5.out.alloc (.cells #[.int .i64 (n : Int), .slice A5 (ls.eraseIdx k).length c5] 30))
      clear ho5 L5 P5
      generalize ls.eraseIdx k = rs at *
      go_wp2_with fail
      generalize w5.alloc (.cells #[.int .i64 (n : Int), .slice A5 rs.length c5] 30) = W6 at *
      generalize w5.heap.size = bx at *
      have CP := fun W (h : Sl W W.heap.size A5 rs) => path_impl (n : Int) A5 rs c5 x z W (by omega) h
      rw [← HPA.out] at CP
      clear HPA
      go_loopw [11] (fun i wr => ∃ q : Nat, 1 ≤ q ∧ q ≤ xs.length ∧ i = .int .i64 (q : Int) ∧ Hid (LB w G (n : Int) ls A1 g1 c1 wr) ∧ Hid (Own1i wr A2 g2 xs) ∧ Hid (LB w bx (n : Int) rs A5 g5 c5 wr)) (fun i _ => xs.length - (intOf i).toNat)
      case atStart => exact ⟨1, Nat.le_refl _, hxs, rfl, L6, P6, X6⟩
      case round =>
        obtain ⟨q, hq1, hq, rfl, L7, P7, X7⟩ := hrel
        clear L6 P6 X6
        by_cases hlt : q < xs.length
        · obtain ⟨b, hb⟩ : ∃ b, xs[q]? = some b := ⟨_, List.getElem?_eq_getElem hlt⟩
          obtain ⟨a, ha⟩ : ∃ a, xs[q - 1]? = some a := ⟨_, List.getElem?_eq_getElem (by omega)⟩
          have hne := HLK.out (q - 1) a b ha (by rw [Nat.sub_add_cancel hq1]; exact hb)
          obtain ⟨rfl, zx, hxc⟩ := P7.out.at hb
          obtain ⟨-, -, hxa⟩ := P7.out.at ha
          obtain ⟨zg, d0, d1, -, -⟩ := L7.out.1.two
          have CL := link_impl (n : Int) A1 ls c1 a b wr.drew (by omega) L7.out.drew.2.1.sl
          generalize linkI (n : Int) ls a b = lk at *
          have hkm : IntKind.i64.wrap ((q : Int) - 1) = ((q - 1 : Nat) : Int) := by rw [IntWalk.i64_in _ (by omega)]; omega
          have hqm : q - 1 < xs.length := by omega
          clear ha hb
          have hX := fun (x : Ext wr.drew) (bb o : Nat) (h : bb < wr.heap.size) => (show x.w.cell? ⟨bb, o, none⟩ = wr.cell? ⟨bb, o, none⟩ from x.cell bb o h)
          go_upto_region 12 with fail
          refine wp_region_staged 13 (by kernel_rfl) (by kernel_rfl) ?_
          refine stage_seg _ 2 [0, 1, 2, 3, 4, 5, 6, 7, 8, 9, 11] (by kernel_rfl) (by kernel_rfl) (by kernel_rfl) (by kernel_rfl) ?_
          (simp only [List.map_cons, List.map_nil, List.getElem?_cons_zero, List.getElem?_cons_succ, Option.getD_some]); (repeat (go_big_quiet_step (fail))); (refine wpQuiet_nil ?_)
          clear hX zx hxc hxa zg d0 d1
          refine stage_call _ 1 10 (by kernel_rfl) (by rfl) (by kernel_rfl) (by rfl) ?_
          go_wp2_with fail
          refine CL.mono ?_
          clear CL
          rintro e w8 ⟨rfl, hb⟩
          refine ⟨hb, ?_⟩
          have L8 := Lib.hid (L7.out.drew.call hb)
          have P8 := Lib.hid ((show Own1i wr.drew (some ⟨g2, 0, none⟩) g2 xs from P7.out).below hb)
          have X8 := Lib.hid (X7.out.drew.call hb)
          clear hb L7 P7 X7
          refine stage_seg _ 0 [12] (by kernel_rfl) (by kernel_rfl) (by kernel_rfl) (by kernel_rfl) ?_
          (simp only [List.map_cons, List.map_nil, List.getElem?_cons_zero, List.getElem?_cons_succ, Option.getD_some]); (repeat (go_big_quiet_step (fail))); (refine wpQuiet_nil ?_)
          refine stage_end (by kernel_rfl) ?_
          go_wp2_with fail
          go_roundw
          case rel => exact ⟨q + 1, by omega, hlt, by go_num, L8, P8, X8⟩
          case measure => simp [intOf]; omega
        · have hge : ¬ (q : Int) < (xs.length : Int) := by omega
          obtain ⟨zr, r0, r1, -, -⟩ := X7.out.1.two
          go_wp2_with fail
          refine (CP _ X7.out.2.1.sl).mono ?_
          clear CP
          rintro e w8 ⟨A8, g8, c8, rfl, -, ho8, hb⟩
          have L8 := Lib.hid (L7.out.call hb)
          have P8 := Lib.hid (P7.out.below hb)
          have R8 := Lib.hid ho8
          clear hb ho8 L7 P7 X7 zr r0 r1
          go_wp2_with fail
          refine (sameInts_same A8 A2 xs c8 c2 w8 (by omega) R8.out.sli P8.out.sli).mono ?_
          rintro e w9 ⟨rfl, hb⟩
          have L9 := Lib.hid (L8.out.call hb)
          go_wp2_with fail
          go_ret
          exact ⟨rfl, L9.out.2.2⟩
  · go_enter Try.func10, Try.ntmps10
    go_wp2
    go_ret
    exact ⟨rfl, by (repeat (first | exact Below.refl _ _ | (refine Below.alloc ?_ (by first | exact Nat.le_refl _ | omega | (simp; done) | (simp; omega)) _) | (refine Below.setCell ?_ (by first | exact Nat.le_refl _ | omega | (simp; done) | (simp; omega)) _) | exact Below.drew ‹_›))⟩
end Go.Proofs.Ytenlofomkchlaaa
