/-
  The walk of FnCost over this seat.
-/
import Derived.Test.YtjponnfnofpdgaaWc
import Derived.Test.YtjponnfnofpdgaaDrawW
import Derived.Test.YtjponnfnofpdgaaWs
import Derived.Test.YtjponnfnofpdgaaRh
import Derived.Test.YtjponnfnofpdgaaA7
namespace Go.Proofs.Ytjponnfnofpdgaa
open Go.RowKit

set_option maxRecDepth 100000 in
set_option maxHeartbeats 1600000 in
theorem cost_walk (A : Option Addr) (len c : Nat) (f : Nat → Int) (w : World) (hlc : len ≤ c) (hc : c ≤ maxLen) (hB : Byt w w.heap.size A len f) :
   Calls Try.prog 10 #[.slice A len c] w fun e w' => e = .returned (.bool true) ∧ Below w.heap.size w w' := by
  have HB := Lib.hid hB
  clear hB
  by_cases hl : len ≤ 1048576
  · go_enter Try.func10, Try.ntmps10
    go_wp2_with fail
    refine (drawCostG_any A len c f w hlc hc HB.out).mono ?_
    rintro e w1 ⟨n, ls, A1, g1, c1, x, y, rfl, ⟨hn0, hn1, hls, hg1, ho1, hb1⟩, hx0, hx1, hy0, hy1⟩
    have L1 := Lib.hid (show LB w w1.heap.size n ls A1 g1 c1 (w1.alloc (.cells #[.int .i64 n, .slice A1 ls.length c1] 30)) from ⟨Box.new w1 _ _, ho1.alloc _, hb1.alloc hb1.size _⟩)
    clear ho1 hb1 HB
    obtain ⟨m, rs, ok, hrs, hok, ci, cs⟩ := cost_bothA n ls x y (by omega) (by omega)
    have CI := Lib.hid ci
    have CS := Lib.hid cs
    have OK := Lib.hid hok
    clear ci cs hok
    generalize hG : w1.heap.size = G at *
    go_wp2_with fail
    refine (CI.out A1 g1 c1 _ L1.out.2.1).mono ?_
    rintro e w2 ⟨A2, g2, c2, rfl, hg2, ho2, hb2⟩
    have L2 := Lib.hid (L1.out.call hb2)
    have L2' := Lib.hid (L2.out.alloc (.cells #[.int .i64 m, .slice A2 rs.length c2] 30))
    have P2 := Lib.hid (show LB w w2.heap.size m rs A2 g2 c2 (w2.alloc (.cells #[.int .i64 m, .slice A2 rs.length c2] 30)) from ⟨Box.new w2 _ _, ho2.alloc _, L2'.out.2.2⟩)
    obtain ⟨z2, c20, c21, -, -⟩ := L2.out.1.two
    clear hb2 ho2 L1 hG L2
    generalize hO : w2.heap.size = O at *
    go_wp2_with fail
    refine (CS.out A1 g1 c1 _ L2'.out.2.1).mono ?_
    rintro e w3 ⟨A3, g3, c3, rfl, hg3, ho3, hb3⟩
    have L3 := Lib.hid (L2'.out.call hb3)
    have P3 := Lib.hid (P2.out.call hb3)
    obtain ⟨z3, c30, c31, -, -⟩ := L3.out.1.two
    obtain ⟨y3, d30, d31, -, -⟩ := P3.out.1.two
    have L3' := Lib.hid (L3.out.alloc (.cells #[.int .i64 m, .slice A3 rs.length c3] 30))
    have P3' := Lib.hid (P3.out.alloc (.cells #[.int .i64 m, .slice A3 rs.length c3] 30))
    have Q3 := Lib.hid (show LB w w3.heap.size m rs A3 g3 c3 (w3.alloc (.cells #[.int .i64 m, .slice A3 rs.length c3] 30)) from ⟨Box.new w3 _ _, ho3.alloc _, L3'.out.2.2⟩)
    clear hb3 ho3 L2' P2 hO CI CS z2 c20 c21 L3 P3
    generalize hQ : w3.heap.size = Wt at *
    go_wp2_with fail
    refine (sameGraph_same m A2 A3 rs c2 c3 _ (by omega) P3'.out.2.1.sl Q3.out.2.1.sl).mono ?_
    rintro e w4 ⟨rfl, hb4⟩
    have L4 := Lib.hid (L3'.out.call hb4)
    have P4 := Lib.hid (P3'.out.call hb4)
    have Q4 := Lib.hid (Q3.out.call hb4)
    clear hb4 L3' P3' Q3 hQ z3 c30 c31 y3 d30 d31
    obtain ⟨z4, c40, c41, -, -⟩ := L4.out.1.two
    obtain ⟨y4, d40, d41, -, -⟩ := P4.out.1.two
    obtain ⟨x4, e40, e41, -, -⟩ := Q4.out.1.two
    cases ok with
    | false =>
      go_wp2_with fail
      refine (sameGraph_same m A2 A3 rs c2 c3 _ (by omega) P4.out.2.1.sl Q4.out.2.1.sl).mono ?_
      rintro e w5 ⟨rfl, hb5⟩
      have L5 := Lib.hid (L4.out.call hb5)
      go_wp2_with fail
      go_ret
      exact ⟨rfl, L5.out.2.2⟩
    | true =>
      obtain ⟨hc0, rfl, hrsf⟩ := OK.out rfl
      obtain ⟨hv, hxr, hyr⟩ := costOk_inv hc0
      obtain ⟨k, rfl⟩ : ∃ q : Nat, x = (q : Int) := ⟨x.toNat, by omega⟩
      rw [Int.toNat_natCast] at hrsf
      have hkl : k < ls.length := by omega
      obtain ⟨l, hl⟩ : ∃ l, ls[k]? = some l := ⟨_, List.getElem?_eq_getElem hkl⟩
      have hgl := gvB_at hv hl
      have hvr : gvB m rs = true := by rw [hrsf]; exact costLs_gv hv hl hyr
      have hrk : rs[k]? = some ⟨l.a, l.b, y⟩ := by rw [hrsf, costLs_get hl, if_pos rfl]
      have hback : costLs rs k l.c = ls := by rw [hrsf]; exact costLs_back hl y
      have hrl : rs.length = ls.length := by rw [hrsf, costLs_len]
      have hcb : costOk m rs (k : Int) l.c = true := costOk_of hvr ⟨by omega, by omega⟩ ⟨by omega, by omega⟩
      obtain ⟨rfl, p0, p1, p2⟩ := L4.out.link hl
      obtain ⟨rfl, q0, q1, q2⟩ := P4.out.link hrk
      have zg := (L4.out.2.1 (by omega)).2.lt
      have CW := cost_impl m g2 rs c2 (k : Int) l.c w4.drew (by omega) P4.out.drew.2.1.sl
      have CWa := cost_impl m g2 rs c2 (k : Int) l.c (w4.alloc (.cells #[.int .i64 0, .slice none 0 0] 30)).drew (by omega) (P4.out.alloc _).drew.2.1.sl
      rw [if_pos hcb, Int.toNat_natCast, hback] at CW CWa
      have HVR := Lib.hid hvr
      have HRK := Lib.hid hrk
      have hkr : k < rs.length := by omega
      obtain ⟨la, lb, lc⟩ := l
      dsimp only at *
      clear OK hc0 hv hrsf hl hgl hvr hrk hback hrl hcb q0 q1 q2 p0 p1 e40 e41 x4 Q4
      go_upto_region 8 with fail
      have hX4 := fun (x : ExtB w4.heap.size w4.drew) (bb o : Nat) (h : bb < w4.heap.size) => (show x.w.cell? ⟨bb, o, none⟩ = w4.cell? ⟨bb, o, none⟩ from x.cell bb o h)
      refine wp_region_stg 15 w4.heap.size (by kernel_rfl) (by kernel_rfl) ?_
      refine stg_seg _ 7 [0, 1, 2, 3, 4, 5, 6, 7] (by kernel_rfl) (by kernel_rfl) (by kernel_rfl) (by kernel_rfl) ?_
      (simp only [List.map_cons, List.map_nil, List.getElem?_cons_zero, List.getElem?_cons_succ, Option.getD_some]); (repeat (go_big_quiet_step (fail))); (refine wpQuiet_nil ?_)
      clear hX4 c40 c41 z4 d40 d41 y4 p2 zg
      refine stg_two _ 6 8 12 (by kernel_rfl) (by rfl) (by rfl) (by kernel_rfl) (by rfl) (by rfl) ?_ ?_
      · go_wp2_with fail
        refine CW.mono ?_
        clear CW CWa
        rintro e w8 ⟨A8, g8, c8, rfl, hg8, ho8, hb8⟩
        have L8 := Lib.hid ((L4.out.drew.call hb8).alloc (.cells #[.int .i64 m, .slice A8 ls.length c8] 30))
        have P8 := Lib.hid ((P4.out.drew.call hb8).alloc (.cells #[.int .i64 m, .slice A8 ls.length c8] 30))
        have X8 := Lib.hid (show LB w w8.heap.size m ls A8 g8 c8 (w8.alloc (.cells #[.int .i64 m, .slice A8 ls.length c8] 30)) from ⟨Box.new w8 _ _, ho8.alloc _, L8.out.2.2⟩)
        have hz8 : w4.heap.size ≤ w8.heap.size := hb8.size
        refine ⟨hb8, w8.heap.size, hz8, ?_⟩
        clear hb8 ho8 hg8 L4 P4
        refine stg_seg _ 3 [9, 10, 11] (by kernel_rfl) (by kernel_rfl) (by kernel_rfl) (by kernel_rfl) ?_
        (simp only [List.map_cons, List.map_nil, List.getElem?_cons_zero, List.getElem?_cons_succ, Option.getD_some]); (repeat (go_big_quiet_step (fail))); (refine wpQuiet_nil ?_)
        refine stg_one _ 2 12 (by kernel_rfl) (by rfl) (by kernel_rfl) (by rfl) ?_
        go_wp2_with fail
        refine ⟨(Below.refl _ _).alloc (Nat.le_refl _) _, w8.heap.size, Nat.le_refl _, ?_⟩
        refine stg_one _ 1 13 (by kernel_rfl) (by rfl) (by kernel_rfl) (by rfl) ?_
        go_wp2_with fail
        refine ⟨below_aa _ _ _, w8.heap.size, Nat.le_refl _, ?_⟩
        refine stg_seg _ 0 [14] (by kernel_rfl) (by kernel_rfl) (by kernel_rfl) (by kernel_rfl) ?_
        (simp only [List.map_cons, List.map_nil, List.getElem?_cons_zero, List.getElem?_cons_succ, Option.getD_some]); (repeat (go_big_quiet_step (fail))); (refine wpQuiet_nil ?_)
        refine stg_end (by kernel_rfl) ?_
        generalize w8.alloc (.cells #[.int .i64 m, .slice A8 ls.length c8] 30) = W9 at *
        generalize w8.heap.size = bx at *
        obtain ⟨zx9, x90, x91, -, -⟩ := X8.out.1.two
        obtain ⟨z9, c90, c91, -, -⟩ := L8.out.1.two
        have CS1 := sameGraph_same m A8 (some ⟨g1, 0, none⟩) ls c8 c1 W9 (by omega) X8.out.2.1.sl L8.out.2.1.sl
        go_wp2_with fail
        refine CS1.mono ?_
        clear CS1
        rintro e w10 ⟨rfl, hb10⟩
        have L10 := Lib.hid (L8.out.call hb10)
        have P10 := Lib.hid (P8.out.call hb10)
        clear hb10 L8 P8 X8 zx9 x90 x91 z9 c90 c91
        obtain ⟨y10, d100, d101, -, -⟩ := P10.out.1.two
        obtain ⟨-, p0, p1, p2⟩ := P10.out.link HRK.out
        have zg2 := (P10.out.2.1 (by omega)).2.lt
        have CV := valid_impl m (some ⟨g2, 0, none⟩) rs c2 w10 (by omega) P10.out.2.1.sl
        rw [HVR.out] at CV
        clear p0 p1
        go_wp2_with fail
        refine CV.mono ?_
        rintro e w11 ⟨rfl, hb11⟩
        have L11 := Lib.hid (L10.out.call hb11)
        go_wp2_with fail
        go_ret
        exact ⟨rfl, L11.out.2.2⟩
      · go_wp2_with fail
        refine ⟨below_ad _ _, w4.heap.size, Nat.le_refl _, ?_⟩
        refine stg_one _ 5 8 (by kernel_rfl) (by rfl) (by kernel_rfl) (by rfl) ?_
        go_wp2_with fail
        refine CWa.mono ?_
        clear CW CWa
        rintro e w8 ⟨A8, g8, c8, rfl, hg8, ho8, hb8⟩
        have L8 := Lib.hid (L4.out.call (wo_below _ hb8 (.int .i64 m) (.slice A8 ls.length c8)))
        have P8 := Lib.hid (P4.out.call (wo_below _ hb8 (.int .i64 m) (.slice A8 ls.length c8)))
        have X8 := Lib.hid (wo_store (m := m) (c5 := c8) L4.out.2.2 _ _ hb8 hg8 ho8)
        obtain ⟨zb, zb0, zb1, zf0, zf1⟩ := (wo_box _ hb8).two
        refine ⟨hb8.mono (by show w4.heap.size ≤ (w4.alloc _).heap.size; simp), w4.heap.size, Nat.le_refl _, ?_⟩
        clear hb8 ho8 hg8 L4 P4
        refine stg_seg _ 2 [9, 10, 11] (by kernel_rfl) (by kernel_rfl) (by kernel_rfl) (by kernel_rfl) ?_
        (simp only [List.map_cons, List.map_nil, List.getElem?_cons_zero, List.getElem?_cons_succ, Option.getD_some]); (repeat (go_big_quiet_step (fail))); (refine wpQuiet_nil ?_)
        refine stg_one _ 1 13 (by kernel_rfl) (by rfl) (by kernel_rfl) (by rfl) ?_
        go_wp2_with fail
        refine ⟨((Below.refl _ _).setCell (p := ⟨w4.heap.size, 0, none⟩) (Nat.le_refl _) _).setCell (p := ⟨w4.heap.size, 1, none⟩) (Nat.le_refl _) _, w4.heap.size, Nat.le_refl _, ?_⟩
        refine stg_seg _ 0 [14] (by kernel_rfl) (by kernel_rfl) (by kernel_rfl) (by kernel_rfl) ?_
        (simp only [List.map_cons, List.map_nil, List.getElem?_cons_zero, List.getElem?_cons_succ, Option.getD_some]); (repeat (go_big_quiet_step (fail))); (refine wpQuiet_nil ?_)
        refine stg_end (by kernel_rfl) ?_
        clear zb zb0 zb1 zf0 zf1
        generalize ((w8.setCell ⟨w4.heap.size, 0, none⟩ (.int .i64 m)).setCell ⟨w4.heap.size, 1, none⟩ (.slice A8 ls.length c8)) = W9 at *
        generalize w4.heap.size = bx at *
        obtain ⟨zx9, x90, x91, -, -⟩ := X8.out.1.two
        obtain ⟨z9, c90, c91, -, -⟩ := L8.out.1.two
        have CS1 := sameGraph_same m A8 (some ⟨g1, 0, none⟩) ls c8 c1 W9 (by omega) X8.out.2.1.sl L8.out.2.1.sl
        go_wp2_with fail
        refine CS1.mono ?_
        clear CS1
        rintro e w10 ⟨rfl, hb10⟩
        have L10 := Lib.hid (L8.out.call hb10)
        have P10 := Lib.hid (P8.out.call hb10)
        clear hb10 L8 P8 X8 zx9 x90 x91 z9 c90 c91
        obtain ⟨y10, d100, d101, -, -⟩ := P10.out.1.two
        obtain ⟨-, p0, p1, p2⟩ := P10.out.link HRK.out
        have zg2 := (P10.out.2.1 (by omega)).2.lt
        have CV := valid_impl m (some ⟨g2, 0, none⟩) rs c2 w10 (by omega) P10.out.2.1.sl
        rw [HVR.out] at CV
        clear p0 p1
        go_wp2_with fail
        refine CV.mono ?_
        rintro e w11 ⟨rfl, hb11⟩
        have L11 := Lib.hid (L10.out.call hb11)
        go_wp2_with fail
        go_ret
        exact ⟨rfl, L11.out.2.2⟩
  · go_enter Try.func10, Try.ntmps10
    go_wp2
    go_ret
    exact ⟨rfl, by (repeat (first | exact Below.refl _ _ | (refine Below.alloc ?_ (by first | exact Nat.le_refl _ | omega | (simp; done) | (simp; omega)) _) | (refine Below.setCell ?_ (by first | exact Nat.le_refl _ | omega | (simp; done) | (simp; omega)) _) | exact Below.drew ‹_›))⟩
end Go.Proofs.Ytjponnfnofpdgaa
