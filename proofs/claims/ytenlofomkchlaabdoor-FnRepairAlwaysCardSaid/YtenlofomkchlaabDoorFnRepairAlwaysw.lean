/-
  The walk of FnRepairAlways over this seat.
-/
import Derived.Test.YtenlofomkchlaabDoorVp
import Derived.Test.YtenlofomkchlaabDoorA8
namespace Go.Proofs.YtenlofomkchlaabDoor
open Go.RowKit Go.Maps

set_option maxRecDepth 100000 in
set_option maxHeartbeats 1600000 in
theorem fnRepairAlways_walk (A : Option Addr) (len c : Nat) (f : Nat → Int) (w : World) (hlc : len ≤ c) (hc : c ≤ maxLen) (hB : Byt w w.heap.size A len f) (hsen : Sen w) :
   Calls Tryd.prog 4 #[.slice A len c] w fun e w' => e = .returned (.bool true) ∧ Below w.heap.size w w' := by
  have HB := Lib.hid hB
  clear hB
  have HSEN := Lib.hid hsen
  clear hsen
  by_cases hl : len ≤ 1048576
  · go_enter Tryd.func4, Tryd.ntmps4
    go_wp2_with fail
    refine (drawRepK_any A len c f w hlc hc HB.out).mono ?_
    rintro e w1 ⟨n, ls, A1, g1, c1, x, y, z, rfl, ⟨hn0, hn1, hls, hg1, ho1, hb1⟩, hx0, hx1, hy0, hy1, hz0, hz1, hcap⟩
    have L1 := Lib.hid (show LB w w1.heap.size n ls A1 g1 c1 (w1.alloc (.cells #[.int .i64 n, .slice A1 ls.length c1] 31)) from ⟨Box.new w1 _ _, ho1.alloc _, hb1.alloc hb1.size _⟩)
    clear ho1 hb1 HB
    generalize hG : w1.heap.size = G at *
    go_wp2_with fail
    refine (repStack_impl n A1 ls c1 x y z _ (by omega) L1.out.2.1.isV L1.out.2.1.sl (HSEN.out.below L1.out.2.2)).mono ?_
    rintro e w2 ⟨A2, g2, c2, rfl, hg2, ho2, hb2, hlc2⟩
    have L2 := Lib.hid (L1.out.call hb2)
    have P2 := Lib.hid ho2
    clear hb2 L1 hG ho2
    obtain ⟨z2, c20, c21, -, -⟩ := L2.out.1.two
    go_wp2_with fail
    refine (repStack_spec n A1 ls c1 x y z w2 (by omega) (by omega) L2.out.2.1.isV hcap L2.out.2.1.sl).mono ?_
    rintro e w3 ⟨A3, g3, c3, rfl, hg3, ho3, hb3, hlc3⟩
    have L3 := Lib.hid (L2.out.call hb3)
    have P3 := Lib.hid (P2.out.below hb3)
    have Q3 := Lib.hid ho3
    clear hb3 L2 z2 c20 c21 P2 ho3 hg2 hg3 hlc3
    have hst8 := repA_len8 n ls x y z
    have HF := Lib.hid (fun (m k : Nat) (e1 : n = (m : Int)) (e2 : y = (k : Int)) (hg : gvB n ls = true) (hx : 0 ≤ x ∧ x < n) (hz : 0 ≤ z ∧ z < n) (hk : k < ls.length) => (show repB n ls x y z = decide (0 ≤ bf (m : Int) (ls.eraseIdx k) x z) by subst e1; subst e2; exact always_law hg hx hz hk))
    generalize repA n ls x y z = st at *
    generalize repB n ls x y z = ok at *
    have CS := fun W (h1 : Slb W W.heap.size A2 st) (h2 : Slb W W.heap.size A3 st) => sameLb_same A2 A3 st c2 c3 W (by omega) h1 h2
    obtain ⟨z3, c30, c31, -, -⟩ := L3.out.1.two
    have hoo : (ok != ok) = false := by simp
    have hoe : (ok == ok) = true := by simp
    have CV := fun W (h : Sl W W.heap.size A1 ls) => valid_spec_any n A1 ls c1 W (by omega) (by omega) h
    go_wp2_with fail
    refine (CS _ P3.out.slb Q3.out.slb).mono ?_
    rintro e w4 ⟨rfl, hb⟩
    have L4 := Lib.hid (L3.out.call hb)
    have P4 := Lib.hid (P3.out.below hb)
    have Q4 := Lib.hid (Q3.out.below hb)
    clear hb L3 P3 Q3 z3 c30 c31
    obtain ⟨z4, c40, c41, -, -⟩ := L4.out.1.two
    go_wp2_with fail
    refine (CV _ L4.out.2.1.sl).mono ?_
    clear CV
    rintro e w5 ⟨rfl, hb⟩
    have L5 := Lib.hid (L4.out.call hb)
    have P5 := Lib.hid (P4.out.below hb)
    have Q5 := Lib.hid (Q4.out.below hb)
    clear hb L4 P4 Q4 z4 c40 c41
    obtain ⟨z5, c50, c51, -, -⟩ := L5.out.1.two
    cases hg : gvB n ls with
    | false =>
      clear hg
      clear HF
      go_wp2_with fail
      refine (CS _ P5.out.slb Q5.out.slb).mono ?_
      rintro e w6 ⟨rfl, hb⟩
      have LX := Lib.hid (L5.out.call hb)
      go_wp2_with fail
      go_ret
      exact ⟨rfl, LX.out.2.2⟩
    | true =>
      by_cases hq0 : y < 0
      · clear hg
        clear HF
        go_wp2_with fail
        refine (CS _ P5.out.slb Q5.out.slb).mono ?_
        rintro e w6 ⟨rfl, hb⟩
        have LX := Lib.hid (L5.out.call hb)
        go_wp2_with fail
        go_ret
        exact ⟨rfl, LX.out.2.2⟩
      · 
        by_cases hq1 : (ls.length : Int) ≤ y
        · clear hg
          clear HF
          go_wp2_with fail
          refine (CS _ P5.out.slb Q5.out.slb).mono ?_
          rintro e w6 ⟨rfl, hb⟩
          have LX := Lib.hid (L5.out.call hb)
          go_wp2_with fail
          go_ret
          exact ⟨rfl, LX.out.2.2⟩
        · 
          by_cases hq2 : x < 0
          · clear hg
            clear HF
            go_wp2_with fail
            refine (CS _ P5.out.slb Q5.out.slb).mono ?_
            rintro e w6 ⟨rfl, hb⟩
            have LX := Lib.hid (L5.out.call hb)
            go_wp2_with fail
            go_ret
            exact ⟨rfl, LX.out.2.2⟩
          · 
            by_cases hq3 : n ≤ x
            · clear hg
              clear HF
              go_wp2_with fail
              refine (CS _ P5.out.slb Q5.out.slb).mono ?_
              rintro e w6 ⟨rfl, hb⟩
              have LX := Lib.hid (L5.out.call hb)
              go_wp2_with fail
              go_ret
              exact ⟨rfl, LX.out.2.2⟩
            · 
              by_cases hq4 : z < 0
              · clear hg
                clear HF
                go_wp2_with fail
                refine (CS _ P5.out.slb Q5.out.slb).mono ?_
                rintro e w6 ⟨rfl, hb⟩
                have LX := Lib.hid (L5.out.call hb)
                go_wp2_with fail
                go_ret
                exact ⟨rfl, LX.out.2.2⟩
              · 
                by_cases hq5 : n ≤ z
                · clear hg
                  clear HF
                  go_wp2_with fail
                  refine (CS _ P5.out.slb Q5.out.slb).mono ?_
                  rintro e w6 ⟨rfl, hb⟩
                  have LX := Lib.hid (L5.out.call hb)
                  go_wp2_with fail
                  go_ret
                  exact ⟨rfl, LX.out.2.2⟩
                · 
                  obtain ⟨m, rfl⟩ : ∃ m : Nat, n = (m : Int) := ⟨n.toNat, by omega⟩
                  obtain ⟨k, rfl⟩ : ∃ k : Nat, y = (k : Int) := ⟨y.toNat, by omega⟩
                  obtain ⟨q, rfl⟩ : ∃ q : Nat, z = (q : Int) := ⟨z.toNat, by omega⟩
                  have hx : 0 ≤ x ∧ x < (m : Int) := ⟨by omega, by omega⟩
                  have hk : k < ls.length := by omega
                  have hqm : q < m := by omega
                  have ho := HF.out m k rfl rfl hg hx ⟨by omega, by omega⟩ hk
                  have hge := er_gv hg k
                  have CW := wo_drawn (m : Int) A1 ls c1 k w5 (by omega) hg hk L5.out.2.1.isV L5.out.2.1.sl
                  have hrl : (ls.eraseIdx k).length ≤ 16 := Nat.le_trans (List.length_eraseIdx_le _ _) hls
                  have CD := fun A5 c5 W (h : Sl W W.heap.size A5 (ls.eraseIdx k)) => dist_any m A5 (ls.eraseIdx k) c5 x q W (by omega) hge hx hqm h
                  have HO := Lib.hid ho
                  clear ho HF hge hg hx
                  generalize bf (m : Int) (ls.eraseIdx k) x (q : Int) = d at *
                  generalize ls.eraseIdx k = rs at *
                  go_wp2_with fail
                  refine CW.mono ?_
                  clear CW
                  rintro e w6 ⟨A6, g6, c6, rfl, -, ho6, hb⟩
                  have L6 := Lib.hid (L5.out.call hb)
                  clear hb L5 P5 Q5 z5 c50 c51
                  have X7 := Lib.hid (show LB w w6.heap.size (m : Int) rs A6 g6 c6 (w6.alloc (.cells #[.int .i64 (m : Int), .slice A6 rs.length c6] 31)) from ⟨Box.new w6 _ _, ho6.alloc _, L6.out.2.2.alloc L6.out.2.2.size _⟩)
                  clear ho6
                  go_wp2_with fail
                  refine (CD _ _ _ X7.out.2.1.sl).mono ?_
                  clear CD
                  rintro e w8 ⟨rfl, hb⟩
                  have X8 := Lib.hid (X7.out.call hb)
                  clear hb X7 L6
                  by_cases hd : 0 ≤ d
                  · have hok : ok = true := by rw [HO.out, decide_eq_true hd]
                    subst hok
                    clear HO hoo hoe
                    go_wp2_with fail
                    go_ret
                    exact ⟨ret_bool (by first | rfl | (simp; done) | (simp; omega)), X8.out.2.2⟩
                  · have hok : ok = false := by rw [HO.out, decide_eq_false hd]
                    subst hok
                    clear HO hoo hoe
                    go_wp2_with fail
                    go_ret
                    exact ⟨ret_bool (by first | rfl | (simp; done) | (simp; omega)), X8.out.2.2⟩
  · go_enter Tryd.func4, Tryd.ntmps4
    go_wp2
    go_ret
    exact ⟨rfl, by (repeat (first | exact Below.refl _ _ | (refine Below.alloc ?_ (by first | exact Nat.le_refl _ | omega | (simp; done) | (simp; omega)) _) | (refine Below.setCell ?_ (by first | exact Nat.le_refl _ | omega | (simp; done) | (simp; omega)) _) | exact Below.drew ‹_›))⟩
end Go.Proofs.YtenlofomkchlaabDoor
