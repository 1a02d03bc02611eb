/-
  The walk of FnCriticalUsed over this seat.
-/
import Derived.Test.YtjponnfnofpdgaaCq
import Derived.Test.YtjponnfnofpdgaaDrawW
import Derived.Test.YtjponnfnofpdgaaWs
import Derived.Test.YtjponnfnofpdgaaB7
import Derived.Test.YtjponnfnofpdgaaTak
import Derived.Test.YtjponnfnofpdgaaRh
namespace Go.Proofs.Ytjponnfnofpdgaa
open Go.RowKit

set_option maxRecDepth 100000 in
set_option maxHeartbeats 1600000 in
theorem criticalUsed_walk (A : Option Addr) (len c : Nat) (f : Nat → Int) (w : World) (hlc : len ≤ c) (hc : c ≤ maxLen) (hB : Byt w w.heap.size A len f) :
   Calls Try.prog 5 #[.slice A len c] w fun e w' => e = .returned (.bool true) ∧ Below w.heap.size w w' := by
  have HB := Lib.hid hB
  clear hB
  by_cases hl : len ≤ 1048576
  · go_enter Try.func5, Try.ntmps5
    go_wp2_with fail
    refine (drawCrit_any A len c f w hlc hc HB.out).mono ?_
    rintro e w1 ⟨n, ls, A1, g1, c1, rfl, ⟨hn0, hn1, hls, hg1, ho1, hb1⟩, hcap⟩
    have L1 := Lib.hid (show LB w w1.heap.size n ls A1 g1 c1 (w1.alloc (.cells #[.int .i64 n, .slice A1 ls.length c1] 30)) from ⟨Box.new w1 _ _, ho1.alloc _, hb1.alloc hb1.size _⟩)
    have HCAP := Lib.hid hcap
    clear ho1 hb1 HB hcap
    generalize hG : w1.heap.size = G at *
    go_wp2_with fail
    refine (crit_impl n A1 ls c1 _ (by omega) L1.out.2.1.isA2 L1.out.2.1.sl).mono ?_
    rintro e w2 ⟨A2, g2, c2, rfl, hg2, ho2, hb2⟩
    have L2 := Lib.hid (L1.out.call hb2)
    have P2 := Lib.hid ho2
    clear hb2 L1 hG ho2
    obtain ⟨z2, c20, c21, -, -⟩ := L2.out.1.two
    go_wp2_with fail
    refine (crit_spec n A1 ls c1 w2 (by omega) L2.out.2.1.isA2 HCAP.out (by omega) L2.out.2.1.sl).mono ?_
    rintro e w3 ⟨A3, g3, c3, rfl, hg3, ho3, hb3⟩
    have L3 := Lib.hid (L2.out.call hb3)
    have P3 := Lib.hid (P2.out.below hb3)
    have Q3 := Lib.hid ho3
    clear hb3 L2 z2 c20 c21 P2 ho3
    obtain ⟨z3, c30, c31, -, -⟩ := L3.out.1.two
    clear HCAP
    have hrs : (critL n ls).length ≤ 14 := critL_len n ls
    have HF : Hid (∀ x ∈ critL n ls, gvB n ls = true ∧ 0 ≤ n ∧ ∃ (i : Nat) (l : Lk), x = (i : Int) ∧ ls[i]? = some l ∧ gvB n (ls.eraseIdx i) = true ∧ (∀ v ∈ reachL n (ls.eraseIdx i) l.b, usedB n ls l.a v (i : Int) = true)) := Lib.hid (fun x hx => by
      obtain ⟨hv, i, l, rfl, hl, hb⟩ := critL_mem.1 hx
      obtain ⟨m, rfl⟩ : ∃ m : Nat, n = (m : Int) := ⟨n.toNat, by omega⟩
      have hgl := gvB_at hv hl
      have hv' := er_gv hv i
      refine ⟨hv, by omega, i, l, rfl, hl, hv', fun v hvm => ?_⟩
      obtain ⟨hvr, h0⟩ := (reach_mem (vwB_one hv' ⟨by omega, by omega⟩) (gvB_fit hv').1 ⟨by omega, by omega⟩).1 hvm
      rw [used_at (vwB_of hv ⟨by omega, by omega⟩ hvr) hl]
      exact crit_used hv hl hb hvr h0)
    generalize critL n ls = xs at *
    go_wp2_with fail
    refine (sameInts_same A2 A3 xs c2 c3 w3 (by omega) P3.out.sli Q3.out.sli).mono ?_
    rintro e w4 ⟨rfl, hb4⟩
    have L4 := Lib.hid (L3.out.call hb4)
    have P4 := Lib.hid (P3.out.below hb4)
    have Q4 := Lib.hid (Q3.out.below hb4)
    clear hb4 L3 P3 Q3 z3 c30 c31 hg2 hg3
    obtain ⟨z4, c40, c41, -, -⟩ := L4.out.1.two
    have HFF := Lib.hid HF.out
    clear HF Q4
    go_wp2_with fail
    go_loopw [6] (fun i wr => ∃ k : Nat, k ≤ xs.length ∧ i = .int .i64 k ∧ LB w G n ls A1 g1 c1 wr ∧ Own1i wr A2 g2 xs) (fun i _ => xs.length - (intOf i).toNat)
    case atStart => exact ⟨0, Nat.zero_le _, rfl, L4.out, P4.out⟩
    case round =>
      obtain ⟨k, hk, rfl, hL, hP⟩ := hrel
      have L6 := Lib.hid hL
      have P6 := Lib.hid hP
      clear hL hP L4 P4 z4 c40 c41
      obtain ⟨z6, c60, c61, -, -⟩ := L6.out.1.two
      by_cases hlt : k < xs.length
      · obtain ⟨x, hx⟩ : ∃ x, xs[k]? = some x := ⟨_, List.getElem?_eq_getElem hlt⟩
        obtain ⟨hv, hn0', i, l, rfl, hl, hv', hus⟩ := HFF.out x (List.mem_of_getElem? hx)
        obtain ⟨m, rfl⟩ : ∃ q : Nat, n = (q : Int) := ⟨n.toNat, by omega⟩
        have hil := (List.getElem?_eq_some_iff.1 hl).1
        obtain ⟨rfl, zx, hxc⟩ := P6.out.at hx
        obtain ⟨rfl, p0, p1, p2⟩ := L6.out.link hl
        have zg := (L6.out.2.1 (by omega)).2.lt
        have HX := Lib.hid hx
        have HL := Lib.hid hl
        have HV := Lib.hid hv
        have hel : (ls.eraseIdx i).length ≤ 16 := Nat.le_trans (List.length_eraseIdx_le _ _) hls
        have HUS := Lib.hid hus
        clear hx hl hv hv' hus
        obtain ⟨la, lb, lc⟩ := l
        dsimp only at *
        go_upto_region 11 with fail
        have hX6 := fun (x : ExtB wr.heap.size wr.drew) (bb o : Nat) (h : bb < wr.heap.size) => (show x.w.cell? ⟨bb, o, none⟩ = wr.cell? ⟨bb, o, none⟩ from x.cell bb o h)
        refine wp_region_stg 10 wr.heap.size (by kernel_rfl) (by kernel_rfl) ?_
        refine stg_seg _ 2 [0, 1, 2, 3, 4, 5, 6, 7] (by kernel_rfl) (by kernel_rfl) (by kernel_rfl) (by kernel_rfl) ?_
        (simp only [List.map_cons, List.map_nil, List.getElem?_cons_zero, List.getElem?_cons_succ, Option.getD_some]); (repeat (go_big_quiet_step (fail))); (refine wpQuiet_nil ?_)
        clear hX6
        refine stg_one _ 1 8 (by kernel_rfl) (by rfl) (by kernel_rfl) (by rfl) ?_
        go_wp2_with fail
        refine ⟨below_ad _ _, wr.heap.size, Nat.le_refl _, ?_⟩
        refine stg_one _ 0 9 (by kernel_rfl) (by rfl) (by kernel_rfl) (by rfl) ?_
        go_wp2_with fail
        refine ⟨below_dd (below_aa _ _ _), wr.heap.size, Nat.le_refl _, ?_⟩
        refine stg_end (by kernel_rfl) ?_
        have L7 := Lib.hid (L6.out.alloc (.cells #[.int .i64 la, .int .i64 lb, .int .i64 lc] 45)).drew
        have P7 := Lib.hid (P6.out.alloc (.cells #[.int .i64 la, .int .i64 lb, .int .i64 lc] 45)).drew
        have K7 := Lib.hid (show Box (wr.alloc (.cells #[.int .i64 la, .int .i64 lb, .int .i64 lc] 45)).drew wr.heap.size 45 #[.int .i64 la, .int .i64 lb, .int .i64 lc] from Box.new _ _ _)
        clear L6 P6 z6 c60 c61 zx hxc zg p0 p1 p2
        go_upto_region 12 with fail
        generalize (wr.alloc (.cells #[.int .i64 la, .int .i64 lb, .int .i64 lc] 45)).drew = W7 at *
        generalize wr.heap.size = bl at *
        obtain ⟨z7, c70, c71, -, -⟩ := L7.out.1.two
        obtain ⟨-, zx, hxc⟩ := P7.out.at HX.out
        have CW := wo_res (m : Int) g1 ls c1 i W7.drew (by omega) HV.out hil L7.out.drew.2.1.sl
        have CWa := wo_res (m : Int) g1 ls c1 i (W7.alloc (.cells #[.int .i64 0, .slice none 0 0] 30)).drew (by omega) HV.out hil (L7.out.alloc _).drew.2.1.sl
        generalize ls.eraseIdx i = rs at *
        have hX7 := fun (x : ExtB W7.heap.size W7.drew) (bb o : Nat) (h : bb < W7.heap.size) => (show x.w.cell? ⟨bb, o, none⟩ = W7.cell? ⟨bb, o, none⟩ from x.cell bb o h)
        refine wp_region_stg 12 W7.heap.size (by kernel_rfl) (by kernel_rfl) ?_
        refine stg_seg _ 7 [0, 1, 2, 3, 4] (by kernel_rfl) (by kernel_rfl) (by kernel_rfl) (by kernel_rfl) ?_
        (simp only [List.map_cons, List.map_nil, List.getElem?_cons_zero, List.getElem?_cons_succ, Option.getD_some]); (repeat (go_big_quiet_step (fail))); (refine wpQuiet_nil ?_)
        clear hX7 c70 c71 z7 zx hxc
        refine stg_two _ 6 5 9 (by kernel_rfl) (by rfl) (by rfl) (by kernel_rfl) (by rfl) (by rfl) ?_ ?_
        · go_wp2_with fail
          refine CW.mono ?_
          clear CW CWa
          rintro e w8 ⟨A8, g8, c8, rfl, hg8, ho8, hb8⟩
          have L8 := Lib.hid ((L7.out.drew.call hb8).alloc (.cells #[.int .i64 (m : Int), .slice A8 rs.length c8] 30))
          have P8 := Lib.hid ((P7.out.drew.below hb8).alloc (.cells #[.int .i64 (m : Int), .slice A8 rs.length c8] 30))
          have K8 := Lib.hid ((show Box w8 bl 45 #[.int .i64 la, .int .i64 lb, .int .i64 lc] from Box.below (w := W7.drew) K7.out hb8 K7.out.lt).alloc (.cells #[.int .i64 (m : Int), .slice A8 rs.length c8] 30))
          have X8 := Lib.hid (show LB w w8.heap.size (m : Int) rs A8 g8 c8 (w8.alloc (.cells #[.int .i64 (m : Int), .slice A8 rs.length c8] 30)) from ⟨Box.new w8 _ _, ho8.alloc _, L8.out.2.2⟩)
          have hz8 : W7.heap.size ≤ w8.heap.size := hb8.size
          refine ⟨hb8, w8.heap.size, hz8, ?_⟩
          clear hb8 ho8 hg8 L7 P7 K7
          refine stg_seg _ 3 [6, 7, 8] (by kernel_rfl) (by kernel_rfl) (by kernel_rfl) (by kernel_rfl) ?_
          (simp only [List.map_cons, List.map_nil, List.getElem?_cons_zero, List.getElem?_cons_succ, Option.getD_some]); (repeat (go_big_quiet_step (fail))); (refine wpQuiet_nil ?_)
          refine stg_one _ 2 9 (by kernel_rfl) (by rfl) (by kernel_rfl) (by rfl) ?_
          go_wp2_with fail
          refine ⟨(Below.refl _ _).alloc (Nat.le_refl _) _, w8.heap.size, Nat.le_refl _, ?_⟩
          refine stg_one _ 1 10 (by kernel_rfl) (by rfl) (by kernel_rfl) (by rfl) ?_
          go_wp2_with fail
          refine ⟨below_aa _ _ _, w8.heap.size, Nat.le_refl _, ?_⟩
          refine stg_seg _ 0 [11] (by kernel_rfl) (by kernel_rfl) (by kernel_rfl) (by kernel_rfl) ?_
          (simp only [List.map_cons, List.map_nil, List.getElem?_cons_zero, List.getElem?_cons_succ, Option.getD_some]); (repeat (go_big_quiet_step (fail))); (refine wpQuiet_nil ?_)
          refine stg_end (by kernel_rfl) ?_
          generalize w8.alloc (.cells #[.int .i64 (m : Int), .slice A8 rs.length c8] 30) = W9 at *
          generalize w8.heap.size = bx at *
          obtain ⟨zx9, x90, x91, -, -⟩ := X8.out.1.two
          have k91 := K8.out.cell 1
          have zk9 := K8.out.lt
          have CR := reach_impl (m : Int) A8 rs c8 lb W9 (by omega) X8.out.2.1.sl
          have hys := reachL_len (m : Int) rs lb
          generalize reachL (m : Int) rs lb = ys at *
          go_wp2_with fail
          refine CR.mono ?_
          clear CR
          rintro e w10 ⟨A10, g10, c10, rfl, hg10, ho10, hb10⟩
          have L10 := Lib.hid (L8.out.call hb10)
          have P10 := Lib.hid (P8.out.below hb10)
          have K10 := Lib.hid (K8.out.below hb10 K8.out.lt)
          have R10 := Lib.hid ho10
          clear hb10 ho10 hg10 L8 P8 K8 X8 zx9 x90 x91 k91 zk9
          go_wp2_with fail
          go_loopw [11] (fun j wr => ∃ q : Nat, q ≤ ys.length ∧ j = .int .i64 q ∧ LB w G (m : Int) ls (some ⟨g1, 0, none⟩) g1 c1 wr ∧ Own1i wr (some ⟨g2, 0, none⟩) g2 xs ∧ Box wr bl 45 #[.int .i64 la, .int .i64 lb, .int .i64 lc] ∧ Own1i wr A10 g10 ys) (fun j _ => ys.length - (intOf j).toNat)
          case atStart => exact ⟨0, Nat.zero_le _, rfl, L10.out, P10.out, K10.out, R10.out⟩
          case round =>
            obtain ⟨q, hq, rfl, hL, hP, hK, hR⟩ := hrel
            have L11 := Lib.hid hL
            have P11 := Lib.hid hP
            have K11 := Lib.hid hK
            have R11 := Lib.hid hR
            clear hL hP hK hR L10 P10 K10 R10
            by_cases hlt2 : q < ys.length
            · obtain ⟨y, hy⟩ : ∃ y, ys[q]? = some y := ⟨_, List.getElem?_eq_getElem hlt2⟩
              obtain ⟨rfl, zy, hyc⟩ := R11.out.at hy
              obtain ⟨-, zx, hxc⟩ := P11.out.at HX.out
              obtain ⟨z11, c110, c111, -, -⟩ := L11.out.1.two
              have k110 := K11.out.cell 0
              have zk11 := K11.out.lt
              have hu := HUS.out y (List.mem_of_getElem? hy)
              have CU := used_impl (m : Int) (some ⟨g1, 0, none⟩) ls c1 la y (i : Int) wr.drew (by omega) L11.out.drew.2.1.sl
              rw [hu] at CU
              clear hy hu
              go_upto_region 17 with fail
              have hX11 := fun (x : ExtB wr.heap.size wr.drew) (bb o : Nat) (h : bb < wr.heap.size) => (show x.w.cell? ⟨bb, o, none⟩ = wr.cell? ⟨bb, o, none⟩ from x.cell bb o h)
              refine wp_region_stg 13 wr.heap.size (by kernel_rfl) (by kernel_rfl) ?_
              refine stg_seg _ 2 [0, 1, 2, 3, 4, 5, 6, 7, 8, 9, 10] (by kernel_rfl) (by kernel_rfl) (by kernel_rfl) (by kernel_rfl) ?_
              (simp only [List.map_cons, List.map_nil, List.getElem?_cons_zero, List.getElem?_cons_succ, Option.getD_some]); (repeat (go_big_quiet_step (fail))); (refine wpQuiet_nil ?_)
              clear hX11 c110 c111 k110 zk11 z11 zx hxc zy hyc
              refine stg_one _ 1 11 (by kernel_rfl) (by rfl) (by kernel_rfl) (by rfl) ?_
              go_wp2_with fail
              refine CU.mono ?_
              clear CU
              rintro e w12 ⟨rfl, hb12⟩
              have L12 := Lib.hid (L11.out.drew.call hb12)
              have P12 := Lib.hid (P11.out.drew.below hb12)
              have K12 := Lib.hid (show Box w12 bl 45 #[.int .i64 la, .int .i64 lb, .int .i64 lc] from Box.below (w := wr.drew) K11.out hb12 K11.out.lt)
              have R12 := Lib.hid (R11.out.drew.below hb12)
              have hz12 : wr.heap.size ≤ w12.heap.size := hb12.size
              refine ⟨hb12, w12.heap.size, hz12, ?_⟩
              refine stg_seg _ 0 [12] (by kernel_rfl) (by kernel_rfl) (by kernel_rfl) (by kernel_rfl) ?_
              (simp only [List.map_cons, List.map_nil, List.getElem?_cons_zero, List.getElem?_cons_succ, Option.getD_some]); (repeat (go_big_quiet_step (fail))); (refine wpQuiet_nil ?_)
              refine stg_end (by kernel_rfl) ?_
              go_wp2_with fail
              go_roundw
              case rel => exact ⟨q + 1, hlt2, by go_num, L12.out, P12.out, K12.out, R12.out⟩
              case measure => simp [intOf]; omega
            · have hge : ys.length ≤ q := by omega
              go_wp2_with fail
              go_roundw
              case rel => exact ⟨k + 1, hlt, by go_num, L11.out, P11.out⟩
              case measure => simp [intOf]; omega
        · go_wp2_with fail
          refine ⟨below_ad _ _, W7.heap.size, Nat.le_refl _, ?_⟩
          refine stg_one _ 5 5 (by kernel_rfl) (by rfl) (by kernel_rfl) (by rfl) ?_
          go_wp2_with fail
          refine CWa.mono ?_
          clear CW CWa
          rintro e w8 ⟨A8, g8, c8, rfl, hg8, ho8, hb8⟩
          have L8 := Lib.hid (L7.out.call (wo_below _ hb8 (.int .i64 (m : Int)) (.slice A8 rs.length c8)))
          have P8 := Lib.hid (P7.out.below (wo_below _ hb8 (.int .i64 (m : Int)) (.slice A8 rs.length c8)))
          have K8 := Lib.hid (K7.out.below (wo_below _ hb8 (.int .i64 (m : Int)) (.slice A8 rs.length c8)) K7.out.lt)
          have X8 := Lib.hid (wo_store (m := (m : Int)) (c5 := c8) L7.out.2.2 _ _ hb8 hg8 ho8)
          obtain ⟨zb, zb0, zb1, zf0, zf1⟩ := (wo_box _ hb8).two
          refine ⟨hb8.mono (by show W7.heap.size ≤ (W7.alloc _).heap.size; simp), W7.heap.size, Nat.le_refl _, ?_⟩
          clear hb8 ho8 hg8 L7 P7 K7
          refine stg_seg _ 2 [6, 7, 8] (by kernel_rfl) (by kernel_rfl) (by kernel_rfl) (by kernel_rfl) ?_
          (simp only [List.map_cons, List.map_nil, List.getElem?_cons_zero, List.getElem?_cons_succ, Option.getD_some]); (repeat (go_big_quiet_step (fail))); (refine wpQuiet_nil ?_)
          refine stg_one _ 1 10 (by kernel_rfl) (by rfl) (by kernel_rfl) (by rfl) ?_
          go_wp2_with fail
          refine ⟨((Below.refl _ _).setCell (p := ⟨W7.heap.size, 0, none⟩) (Nat.le_refl _) _).setCell (p := ⟨W7.heap.size, 1, none⟩) (Nat.le_refl _) _, W7.heap.size, Nat.le_refl _, ?_⟩
          refine stg_seg _ 0 [11] (by kernel_rfl) (by kernel_rfl) (by kernel_rfl) (by kernel_rfl) ?_
          (simp only [List.map_cons, List.map_nil, List.getElem?_cons_zero, List.getElem?_cons_succ, Option.getD_some]); (repeat (go_big_quiet_step (fail))); (refine wpQuiet_nil ?_)
          refine stg_end (by kernel_rfl) ?_
          clear zb zb0 zb1 zf0 zf1
          generalize ((w8.setCell ⟨W7.heap.size, 0, none⟩ (.int .i64 (m : Int))).setCell ⟨W7.heap.size, 1, none⟩ (.slice A8 rs.length c8)) = W9 at *
          generalize W7.heap.size = bx at *
          obtain ⟨zx9, x90, x91, -, -⟩ := X8.out.1.two
          have k91 := K8.out.cell 1
          have zk9 := K8.out.lt
          have CR := reach_impl (m : Int) A8 rs c8 lb W9 (by omega) X8.out.2.1.sl
          have hys := reachL_len (m : Int) rs lb
          generalize reachL (m : Int) rs lb = ys at *
          go_wp2_with fail
          refine CR.mono ?_
          clear CR
          rintro e w10 ⟨A10, g10, c10, rfl, hg10, ho10, hb10⟩
          have L10 := Lib.hid (L8.out.call hb10)
          have P10 := Lib.hid (P8.out.below hb10)
          have K10 := Lib.hid (K8.out.below hb10 K8.out.lt)
          have R10 := Lib.hid ho10
          clear hb10 ho10 hg10 L8 P8 K8 X8 zx9 x90 x91 k91 zk9
          go_wp2_with fail
          go_loopw [11] (fun j wr => ∃ q : Nat, q ≤ ys.length ∧ j = .int .i64 q ∧ LB w G (m : Int) ls (some ⟨g1, 0, none⟩) g1 c1 wr ∧ Own1i wr (some ⟨g2, 0, none⟩) g2 xs ∧ Box wr bl 45 #[.int .i64 la, .int .i64 lb, .int .i64 lc] ∧ Own1i wr A10 g10 ys) (fun j _ => ys.length - (intOf j).toNat)
          case atStart => exact ⟨0, Nat.zero_le _, rfl, L10.out, P10.out, K10.out, R10.out⟩
          case round =>
            obtain ⟨q, hq, rfl, hL, hP, hK, hR⟩ := hrel
            have L11 := Lib.hid hL
            have P11 := Lib.hid hP
            have K11 := Lib.hid hK
            have R11 := Lib.hid hR
            clear hL hP hK hR L10 P10 K10 R10
            by_cases hlt2 : q < ys.length
            · obtain ⟨y, hy⟩ : ∃ y, ys[q]? = some y := ⟨_, List.getElem?_eq_getElem hlt2⟩
              obtain ⟨rfl, zy, hyc⟩ := R11.out.at hy
              obtain ⟨-, zx, hxc⟩ := P11.out.at HX.out
              obtain ⟨z11, c110, c111, -, -⟩ := L11.out.1.two
              have k110 := K11.out.cell 0
              have zk11 := K11.out.lt
              have hu := HUS.out y (List.mem_of_getElem? hy)
              have CU := used_impl (m : Int) (some ⟨g1, 0, none⟩) ls c1 la y (i : Int) wr.drew (by omega) L11.out.drew.2.1.sl
              rw [hu] at CU
              clear hy hu
              go_upto_region 17 with fail
              have hX11 := fun (x : ExtB wr.heap.size wr.drew) (bb o : Nat) (h : bb < wr.heap.size) => (show x.w.cell? ⟨bb, o, none⟩ = wr.cell? ⟨bb, o, none⟩ from x.cell bb o h)
              refine wp_region_stg 13 wr.heap.size (by kernel_rfl) (by kernel_rfl) ?_
              refine stg_seg _ 2 [0, 1, 2, 3, 4, 5, 6, 7, 8, 9, 10] (by kernel_rfl) (by kernel_rfl) (by kernel_rfl) (by kernel_rfl) ?_
              (simp only [List.map_cons, List.map_nil, List.getElem?_cons_zero, List.getElem?_cons_succ, Option.getD_some]); (repeat (go_big_quiet_step (fail))); (refine wpQuiet_nil ?_)
              clear hX11 c110 c111 k110 zk11 z11 zx hxc zy hyc
              refine stg_one _ 1 11 (by kernel_rfl) (by rfl) (by kernel_rfl) (by rfl) ?_
              go_wp2_with fail
              refine CU.mono ?_
              clear CU
              rintro e w12 ⟨rfl, hb12⟩
              have L12 := Lib.hid (L11.out.drew.call hb12)
              have P12 := Lib.hid (P11.out.drew.below hb12)
              have K12 := Lib.hid (show Box w12 bl 45 #[.int .i64 la, .int .i64 lb, .int .i64 lc] from Box.below (w := wr.drew) K11.out hb12 K11.out.lt)
              have R12 := Lib.hid (R11.out.drew.below hb12)
              have hz12 : wr.heap.size ≤ w12.heap.size := hb12.size
              refine ⟨hb12, w12.heap.size, hz12, ?_⟩
              refine stg_seg _ 0 [12] (by kernel_rfl) (by kernel_rfl) (by kernel_rfl) (by kernel_rfl) ?_
              (simp only [List.map_cons, List.map_nil, List.getElem?_cons_zero, List.getElem?_cons_succ, Option.getD_some]); (repeat (go_big_quiet_step (fail))); (refine wpQuiet_nil ?_)
              refine stg_end (by kernel_rfl) ?_
              go_wp2_with fail
              go_roundw
              case rel => exact ⟨q + 1, hlt2, by go_num, L12.out, P12.out, K12.out, R12.out⟩
              case measure => simp [intOf]; omega
            · have hge : ys.length ≤ q := by omega
              go_wp2_with fail
              go_roundw
              case rel => exact ⟨k + 1, hlt, by go_num, L11.out, P11.out⟩
              case measure => simp [intOf]; omega
      · have hge : xs.length ≤ k := by omega
        go_wp2_with fail
        go_ret
        exact ⟨rfl, L6.out.2.2⟩
  · go_enter Try.func5, Try.ntmps5
    go_wp2
    go_ret
    exact ⟨rfl, by (repeat (first | exact Below.refl _ _ | (refine Below.alloc ?_ (by first | exact Nat.le_refl _ | omega | (simp; done) | (simp; omega)) _) | (refine Below.setCell ?_ (by first | exact Nat.le_refl _ | omega | (simp; done) | (simp; omega)) _) | exact Below.drew ‹_›))⟩
end Go.Proofs.Ytjponnfnofpdgaa
