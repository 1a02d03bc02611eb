/-
  The walk of FnWithout over this seat.
-/
import Derived.Test.YtjponnfnofpdgaaWc
import Derived.Test.YtjponnfnofpdgaaWp
import Derived.Test.YtjponnfnofpdgaaDrawW
import Derived.Test.YtjponnfnofpdgaaWs
import Derived.Test.YtjponnfnofpdgaaRh
import Derived.Test.YtjponnfnofpdgaaA7
namespace Go.Proofs.Ytjponnfnofpdgaa
open Go.RowKit

set_option maxRecDepth 100000 in
set_option maxHeartbeats 1600000 in
theorem without_walk (A : Option Addr) (len c : Nat) (f : Nat → Int) (w : World) (hlc : len ≤ c) (hc : c ≤ maxLen) (hB : Byt w w.heap.size A len f) :
   Calls Try.prog 8 #[.slice A len c] w fun e w' => e = .returned (.bool true) ∧ Below w.heap.size w w' := by
  have HB := Lib.hid hB
  clear hB
  by_cases hl : len ≤ 1048576
  · go_enter Try.func8, Try.ntmps8
    go_wp2_with fail
    refine (drawWo_any A len c f w hlc hc HB.out).mono ?_
    rintro e w1 ⟨n, ls, A1, g1, c1, x, rfl, ⟨hn0, hn1, hls, hg1, ho1, hb1⟩, hx0, hx1, hcap⟩
    have L1 := Lib.hid (show LB w w1.heap.size n ls A1 g1 c1 (w1.alloc (.cells #[.int .i64 n, .slice A1 ls.length c1] 30)) from ⟨Box.new w1 _ _, ho1.alloc _, hb1.alloc hb1.size _⟩)
    have HCP := Lib.hid hcap
    clear ho1 hb1 HB hcap
    obtain ⟨m, rs, ok, hrs, hok, ci, cs⟩ := wo_bothA n ls x (by omega) (by omega)
    have CI := Lib.hid ci
    have CS := Lib.hid cs
    have OK := Lib.hid hok
    clear ci cs hok
    generalize hG : w1.heap.size = G at *
    go_wp2_with fail
    refine (CI.out A1 g1 c1 _ L1.out.2.1).mono ?_
    rintro e w2 ⟨A2, g2, c2, rfl, hg2, ho2, hb2⟩
    have L2 := Lib.hid (L1.out.call hb2)
    have L2' := Lib.hid (L2.out.alloc (.cells #[.int .i64 m, .slice A2 rs.length c2] 30))
    have P2 := Lib.hid (show LB w w2.heap.size m rs A2 g2 c2 (w2.alloc (.cells #[.int .i64 m, .slice A2 rs.length c2] 30)) from ⟨Box.new w2 _ _, ho2.alloc _, L2'.out.2.2⟩)
    obtain ⟨z2, c20, c21, -, -⟩ := L2.out.1.two
    clear hb2 ho2 L1 hG L2
    generalize hO : w2.heap.size = O at *
    go_wp2_with fail
    refine (CS.out A1 g1 c1 _ L2'.out.2.1 HCP.out).mono ?_
    rintro e w3 ⟨A3, g3, c3, rfl, hg3, ho3, hb3⟩
    have L3 := Lib.hid (L2'.out.call hb3)
    have P3 := Lib.hid (P2.out.call hb3)
    obtain ⟨z3, c30, c31, -, -⟩ := L3.out.1.two
    obtain ⟨y3, d30, d31, -, -⟩ := P3.out.1.two
    have L3' := Lib.hid (L3.out.alloc (.cells #[.int .i64 m, .slice A3 rs.length c3] 30))
    have P3' := Lib.hid (P3.out.alloc (.cells #[.int .i64 m, .slice A3 rs.length c3] 30))
    have Q3 := Lib.hid (show LB w w3.heap.size m rs A3 g3 c3 (w3.alloc (.cells #[.int .i64 m, .slice A3 rs.length c3] 30)) from ⟨Box.new w3 _ _, ho3.alloc _, L3'.out.2.2⟩)
    clear hb3 ho3 L2' P2 hO CI CS z2 c20 c21 L3 P3 HCP
    generalize hQ : w3.heap.size = Wt at *
    go_wp2_with fail
    refine (sameGraph_same m A2 A3 rs c2 c3 _ (by omega) P3'.out.2.1.sl Q3.out.2.1.sl).mono ?_
    rintro e w4 ⟨rfl, hb4⟩
    have L4 := Lib.hid (L3'.out.call hb4)
    have P4 := Lib.hid (P3'.out.call hb4)
    have Q4 := Lib.hid (Q3.out.call hb4)
    clear hb4 L3' P3' Q3 hQ z3 c30 c31 y3 d30 d31
    obtain ⟨z4, c40, c41, -, -⟩ := L4.out.1.two
    obtain ⟨y4, d40, d41, -, -⟩ := P4.out.1.two
    obtain ⟨x4, e40, e41, -, -⟩ := Q4.out.1.two
    cases ok with
    | false =>
      go_wp2_with fail
      refine (sameGraph_same m A2 A3 rs c2 c3 _ (by omega) P4.out.2.1.sl Q4.out.2.1.sl).mono ?_
      rintro e w5 ⟨rfl, hb5⟩
      have L5 := Lib.hid (L4.out.call hb5)
      go_wp2_with fail
      go_ret
      exact ⟨rfl, L5.out.2.2⟩
    | true =>
      obtain ⟨hok0, rfl, hrsf⟩ := OK.out rfl
      obtain ⟨hv, hxr⟩ := withoutOk_inv hok0
      obtain ⟨k, hkx⟩ : ∃ q : Nat, q = x.toNat := ⟨_, rfl⟩
      rw [← hkx] at hrsf
      have hkl : k < ls.length := by omega
      have HKX : Hid (x = (k : Int)) := Lib.hid (by omega)
      have hvr : gvB m rs = true := by rw [hrsf]; exact er_gv hv k
      have hrl : rs.length = ls.length - 1 := by rw [hrsf, List.length_eraseIdx_of_lt hkl]
      have HONE : Hid (∀ (i : Nat) (l : Lk), ls[i]? = some l → (i = k → linkI m rs l.a l.b < 0) ∧ (i ≠ k → ∃ j : Nat, linkI m rs l.a l.b = (j : Int) ∧ rs[j]? = some l)) := Lib.hid (fun i l hl => by
        rw [hrsf]
        exact ⟨fun e => by subst e; exact er_gone hv hl, fun e => er_left hv hkl hl e⟩)
      have HVR := Lib.hid hvr
      have HRL := Lib.hid hrl
      clear OK hok0 hv hrsf hvr hrl e40 e41 x4 Q4 hkx
      obtain ⟨rfl, -⟩ := L4.out.2.1 (by omega)
      go_wp2_with fail
      go_loopw [9] (fun i wr => ∃ q : Nat, q ≤ ls.length ∧ i = .int .i64 q ∧ LB w G m ls (some ⟨g1, 0, none⟩) g1 c1 wr ∧ LB w O m rs A2 g2 c2 wr) (fun i _ => ls.length - (intOf i).toNat)
      case atStart => exact ⟨0, Nat.zero_le _, rfl, L4.out, P4.out⟩
      case round =>
        obtain ⟨i, hi, rfl, hL, hP⟩ := hrel
        have L6 := Lib.hid hL
        have P6 := Lib.hid hP
        clear hL hP L4 P4 z4 c40 c41 y4 d40 d41
        obtain ⟨z6, c60, c61, -, -⟩ := L6.out.1.two
        obtain ⟨y6, d60, d61, -, -⟩ := P6.out.1.two
        by_cases hlt : i < ls.length
        · obtain ⟨l, hl⟩ : ∃ l, ls[i]? = some l := ⟨_, List.getElem?_eq_getElem hlt⟩
          obtain ⟨hn1', hn2⟩ := HONE.out i l hl
          obtain ⟨-, p0, p1, p2⟩ := L6.out.link hl
          have zg := (L6.out.2.1 (by omega)).2.lt
          have HL := Lib.hid hl
          obtain ⟨la, lb, lc⟩ := l
          dsimp only at *
          have CK := link_impl m A2 rs c2 la lb wr.drew (by omega) P6.out.drew.2.1.sl
          generalize linkI m rs la lb = v at *
          have N1 := Lib.hid hn1'
          have N2 := Lib.hid hn2
          clear hl hn1' hn2
          go_upto_region 11 with fail
          have hX6 := fun (x : Ext wr.drew) (bb o : Nat) (h : bb < wr.heap.size) => (show x.w.cell? ⟨bb, o, none⟩ = wr.cell? ⟨bb, o, none⟩ from x.cell bb o h)
          refine wp_region_staged 15 (by kernel_rfl) (by kernel_rfl) ?_
          refine stage_seg _ 2 [0, 1, 2, 3, 4, 5, 6, 7, 8, 9, 10, 11, 12] (by kernel_rfl) (by kernel_rfl) (by kernel_rfl) (by kernel_rfl) ?_
          (simp only [List.map_cons, List.map_nil, List.getElem?_cons_zero, List.getElem?_cons_succ, Option.getD_some]); (repeat (go_big_quiet_step (fail))); (refine wpQuiet_nil ?_)
          clear hX6 c60 c61 d60 d61 z6 y6 p0 p1 p2 zg
          refine stage_call _ 1 13 (by kernel_rfl) (by rfl) (by kernel_rfl) (by rfl) ?_
          go_wp2_with fail
          refine CK.mono ?_
          clear CK
          rintro e w7 ⟨rfl, hb7⟩
          refine ⟨hb7, ?_⟩
          have L7 := Lib.hid (L6.out.drew.call hb7)
          have P7 := Lib.hid (P6.out.drew.call hb7)
          clear hb7 L6 P6
          refine stage_seg _ 0 [14] (by kernel_rfl) (by kernel_rfl) (by kernel_rfl) (by kernel_rfl) ?_
          (simp only [List.map_cons, List.map_nil, List.getElem?_cons_zero, List.getElem?_cons_succ, Option.getD_some]); (repeat (go_big_quiet_step (fail))); (refine wpQuiet_nil ?_)
          refine stage_end (by kernel_rfl) ?_
          go_upto_region 12 with fail
          obtain ⟨z7, c70, c71, -, -⟩ := L7.out.1.two
          obtain ⟨y7, d70, d71, -, -⟩ := P7.out.1.two
          have hX7 := fun (x : Ext w7.drew) (bb o : Nat) (h : bb < w7.heap.size) => (show x.w.cell? ⟨bb, o, none⟩ = w7.cell? ⟨bb, o, none⟩ from x.cell bb o h)
          by_cases hik : i = k
          · have hv0 := N1.out hik
            have h1 : decide (v < 0) = true := by simpa using hv0
            have h2 : ((i : Int) == x) = true := by have := HKX.out; simp; omega
            have h3 : decide (0 ≤ v) = false := by simp; omega
            clear hv0 N1 N2 hik
            refine wp_region_staged 23 (by kernel_rfl) (by kernel_rfl) ?_
            refine stage_seg _ 0 [0, 1, 2, 3, 4, 5, 6, 7, 8, 9, 10, 11, 12, 13, 14, 15, 16, 17, 18, 19, 20, 21, 22] (by kernel_rfl) (by kernel_rfl) (by kernel_rfl) (by kernel_rfl) ?_
            (simp only [List.map_cons, List.map_nil, List.getElem?_cons_zero, List.getElem?_cons_succ, Option.getD_some]); (repeat (go_big_quiet_step (fail))); (refine wpQuiet_nil ?_)
            refine stage_end (by kernel_rfl) ?_
            go_wp2_with fail
            go_roundw
            case rel => exact ⟨i + 1, hlt, by go_num, L7.out.drew, P7.out.drew⟩
            case measure => simp [intOf]; omega
          · obtain ⟨j, rfl, hj⟩ := N2.out hik
            have hjl := (List.getElem?_eq_some_iff.1 hj).1
            obtain ⟨rfl, q0, q1, q2⟩ := P7.out.link hj
            obtain ⟨-, p0, p1, p2⟩ := L7.out.link HL.out
            have zg := (L7.out.2.1 (by omega)).2.lt
            have yg := (P7.out.2.1 (by omega)).2.lt
            have h2 : ((i : Int) == x) = false := by have := HKX.out; simp; omega
            have h1 : ¬ ((j : Int) < 0) := by omega
            have h3 : 0 ≤ (j : Int) := by omega
            dsimp only at *
            clear hik N1 N2 hj
            refine wp_region_staged 23 (by kernel_rfl) (by kernel_rfl) ?_
            refine stage_seg _ 0 [0, 1, 2, 3, 4, 5, 6, 7, 8, 9, 10, 11, 12, 13, 14, 15, 16, 17, 18, 19, 20, 21, 22] (by kernel_rfl) (by kernel_rfl) (by kernel_rfl) (by kernel_rfl) ?_
            (simp only [List.map_cons, List.map_nil, List.getElem?_cons_zero, List.getElem?_cons_succ, Option.getD_some]); (repeat (go_big_quiet_step (fail))); (refine wpQuiet_nil ?_)
            refine stage_end (by kernel_rfl) ?_
            go_wp2_with fail
            go_roundw
            case rel => exact ⟨i + 1, hlt, by go_num, L7.out.drew, P7.out.drew⟩
            case measure => simp [intOf]; omega
        · have hge : ls.length ≤ i := by omega
          have CV := valid_impl m A2 rs c2 wr (by omega) P6.out.2.1.sl
          rw [HVR.out] at CV
          go_wp2_with fail
          refine CV.mono ?_
          rintro e w7 ⟨rfl, hb7⟩
          have L7 := Lib.hid (L6.out.call hb7)
          have P7 := Lib.hid (P6.out.call hb7)
          obtain ⟨z7, c70, c71, -, -⟩ := L7.out.1.two
          obtain ⟨y7, d70, d71, -, -⟩ := P7.out.1.two
          have hlen : ((rs.length : Int) == (ls.length : Int) - 1) = true := by
            have := HRL.out
            simp
            omega
          go_wp2_with fail
          go_ret
          exact ⟨ret_bool (by simp), L7.out.2.2⟩
  · go_enter Try.func8, Try.ntmps8
    go_wp2
    go_ret
    exact ⟨rfl, by (repeat (first | exact Below.refl _ _ | (refine Below.alloc ?_ (by first | exact Nat.le_refl _ | omega | (simp; done) | (simp; omega)) _) | (refine Below.setCell ?_ (by first | exact Nat.le_refl _ | omega | (simp; done) | (simp; omega)) _) | exact Below.drew ‹_›))⟩
end Go.Proofs.Ytjponnfnofpdgaa
