/-
  The walk of FnMixedOld over this seat.
-/
import Derived.Test.YtkcnbgimdiggoaaG7
import Derived.Test.YtkcnbgimdiggoaaC3
import Derived.Test.YtkcnbgimdiggoaaA8
namespace Go.Proofs.Ytkcnbgimdiggoaa
open Go.RowKit Go.Maps

theorem PS.drewO {w1 : World} {v : Value} {out : List Int} {W : World} (h : PS w1 v out W) : PS w1 v out W.drew := ⟨h.row, h.bel.drew⟩

set_option maxRecDepth 100000 in
set_option maxHeartbeats 1600000 in
theorem fnMixedOld_walk (A : Option Addr) (len c : Nat) (f : Nat → Int) (w : World) (hlc : len ≤ c) (hc : c ≤ maxLen) (hB : Byt w w.heap.size A len f) :
   Calls Try.prog 6 #[.slice A len c] w fun e w' => e = .returned (.bool true) ∧ Below w.heap.size w w' := by
  have HB := Lib.hid hB
  clear hB
  by_cases hl : len ≤ 1048576
  · go_enter Try.func6, Try.ntmps6
    go_wp2_with fail
    refine (drawMH_any A len c f w hlc hc HB.out).mono ?_
    rintro e w1 ⟨n, ls, A1, g1, c1, x, y, ch, Ac, gc, cc, z, rfl, ⟨hn0, hn1, hls, hg1, ho1, hb1⟩, hx0, hx1, hy0, hy1, hz0, hz1, hcap, hch, hoc⟩
    have L1 := Lib.hid (show LB w w1.heap.size n ls A1 g1 c1 (w1.alloc (.cells #[.int .i64 n, .slice A1 ls.length c1] 25)) from ⟨Box.new w1 _ _, ho1.alloc _, hb1.alloc hb1.size _⟩)
    have K1 := Lib.hid (hoc.alloc (.cells #[.int .i64 n, .slice A1 ls.length c1] 25))
    clear ho1 hb1 HB hoc
    generalize hG : w1.heap.size = G at *
    go_wp2_with fail
    refine (mixHops_impl n A1 ls c1 x y Ac ch cc z _ (by omega) L1.out.2.1.isV (by omega) L1.out.2.1.sl K1.out.sli).mono ?_
    rintro e w2 ⟨A2, g2, c2, rfl, hg2, ho2, hb2⟩
    have L2 := Lib.hid (L1.out.call hb2)
    have P2 := Lib.hid ho2
    have K2 := Lib.hid (K1.out.below hb2)
    clear hb2 K1 L1 hG ho2
    obtain ⟨z2, c20, c21, -, -⟩ := L2.out.1.two
    go_wp2_with fail
    refine (mixHops_spec n A1 ls c1 x y Ac ch cc z w2 (by omega) (by omega) L2.out.2.1.isV hcap (by omega) L2.out.2.1.sl K2.out.sli).mono ?_
    rintro e w3 ⟨A3, g3, c3, rfl, hg3, ho3, hb3⟩
    have L3 := Lib.hid (L2.out.call hb3)
    have P3 := Lib.hid (P2.out.below hb3)
    have Q3 := Lib.hid ho3
    have K3 := Lib.hid (K2.out.below hb3)
    clear hb3 K2 L2 z2 c20 c21 P2 ho3
    obtain ⟨z3, c30, c31, -, -⟩ := L3.out.1.two
    have hrs : (mixA n ls x y ch z).length ≤ 8 := mixA_len8 n ls x y ch z
    have HF := Lib.hid (fun h1 h2 => mixA_old (n := n) (ls := ls) (x := x) (t := y) (y := z) (ch := ch) h1 h2)
    generalize mixA n ls x y ch z = xs at *
    go_wp2_with fail
    refine (sameInts_same A2 A3 xs c2 c3 w3 (by omega) P3.out.sli Q3.out.sli).mono ?_
    rintro e w4 ⟨rfl, hb4⟩
    have L4 := Lib.hid (L3.out.call hb4)
    have P4 := Lib.hid (P3.out.below hb4)
    have Q4 := Lib.hid (Q3.out.below hb4)
    have K4 := Lib.hid (K3.out.below hb4)
    clear hb4 K3 L3 P3 Q3 z3 c30 c31 hg2 hg3
    obtain ⟨z4, c40, c41, -, -⟩ := L4.out.1.two
    have CE := fun W (h1 : Sli W W.heap.size A2 xs) (h2 : Sli W W.heap.size A3 xs) => sameInts_same A2 A3 xs c2 c3 W (by omega) h1 h2
    by_cases hq0 : x < 0
    · 
      clear HF
      go_wp2_with fail
      refine (CE _ P4.out.sli Q4.out.sli).mono ?_
      rintro e w5 ⟨rfl, hb⟩
      have LE := Lib.hid (L4.out.call hb)
      go_wp2_with fail
      go_ret
      exact ⟨rfl, LE.out.2.2⟩
    · by_cases hq1 : (ls.length : Int) ≤ x
      · 
        clear HF
        go_wp2_with fail
        refine (CE _ P4.out.sli Q4.out.sli).mono ?_
        rintro e w5 ⟨rfl, hb⟩
        have LE := Lib.hid (L4.out.call hb)
        go_wp2_with fail
        go_ret
        exact ⟨rfl, LE.out.2.2⟩
      · have CH := hasInt_any Ac ch cc z w4 (by omega) K4.out.sli
        cases hz : decide (z ∈ ch) with
        | true =>
          rw [hz] at CH
          clear HF hz
          go_wp2_with fail
          refine (CH).mono ?_
          rintro e w5 ⟨rfl, hb⟩
          have L5 := Lib.hid (L4.out.call hb)
          have P5 := Lib.hid (P4.out.below hb)
          have Q5 := Lib.hid (Q4.out.below hb)
          clear hb L4 P4 Q4 z4 c40 c41 K4
          go_wp2_with fail
          refine (CE _ P5.out.sli Q5.out.sli).mono ?_
          rintro e w6 ⟨rfl, hb⟩
          have LE := Lib.hid (L5.out.call hb)
          go_wp2_with fail
          go_ret
          exact ⟨rfl, LE.out.2.2⟩
        | false =>
          rw [hz] at CH
          have HAA := Lib.hid (HF.out ⟨by omega, by omega⟩ (of_decide_eq_false hz))
          have CN := fun W (h : Sl W W.heap.size A1 ls) => hops_impl n A1 ls c1 z y W (by omega) h
          have CL := fun (b : Int) W (h : Sl W W.heap.size A1 ls) => link_impl n A1 ls c1 z b W (by omega) h
          have hl8 : (hopsL n ls z y).length ≤ 8 := hops_len _ _ _ _
          clear hz HF CE
          generalize hopsL n ls z y = hs at *
          go_wp2_with fail
          refine (CH).mono ?_
          rintro e w5 ⟨rfl, hb⟩
          have L5 := Lib.hid (L4.out.call hb)
          have P5 := Lib.hid (P4.out.below hb)
          clear hb L4 P4 z4 c40 c41 K4 Q4
          obtain ⟨z5, c50, c51, -, -⟩ := L5.out.1.two
          go_wp2_with fail
          refine (CN _ L5.out.2.1.sl).mono ?_
          clear CN
          rintro e w6 ⟨A6, g6, c6, rfl, -, ho6, hb⟩
          have L6 := Lib.hid (L5.out.call hb)
          have P6 := Lib.hid (P5.out.below hb)
          have Z6 := Lib.hid ho6
          clear hb L5 P5 ho6 z5 c50 c51
          have Q0 : Hid (PS w6 (.slice (some ⟨w6.heap.size, 0, none⟩) 0 0) [] (w6.alloc (.cells #[] 3))) :=
            Lib.hid ⟨⟨by simp, .inr ⟨w6.heap.size, 0, #[], rfl, Nat.le_refl _, Box.new w6 3 #[], Nat.le_refl _, by omega, rfl, by simp⟩⟩, by (repeat (first | exact Below.refl _ _ | (refine Below.alloc ?_ (by first | exact Nat.le_refl _ | omega | (simp; done) | (simp; omega)) _) | (refine Below.setCell ?_ (by first | exact Nat.le_refl _ | omega | (simp; done) | (simp; omega)) _) | exact Below.drew ‹_›))⟩
          obtain ⟨i0, hi, hz0', hz10, hz20⟩ := info_parts infoInt
          go_wp2_with fail
          go_loopw [11, 12] (fun v i wr => ∃ (j : Nat) (out : List Int), j ≤ hs.length ∧ i = .int .i64 (j : Int) ∧ Hid (out = (hs.take j).filter (fun b => !decide (linkI n ls z b = x))) ∧ out.length ≤ j ∧ Hid (PS w6 v out wr)) (fun _ i _ => hs.length - (intOf i).toNat)
          case atStart => exact ⟨0, [], Nat.zero_le _, rfl, Lib.hid rfl, Nat.le_refl _, Q0⟩
          case round =>
            obtain ⟨j, out, hj, rfl, HD1, hol, Q⟩ := hrel
            clear Q0
            have L7 := Lib.hid (L6.out.call Q.out.bel)
            have P7 := Lib.hid (P6.out.below Q.out.bel)
            have Z7 := Lib.hid (Z6.out.below Q.out.bel)
            obtain ⟨A9, g9, c9, rfl, hg9, -, ho9⟩ := own_slicei Q.out.row Q.out.bel.size
            have O9 := Lib.hid ho9
            clear ho9
            by_cases hlt : j < hs.length
            · obtain ⟨b, hb⟩ : ∃ b, hs[j]? = some b := ⟨_, List.getElem?_eq_getElem hlt⟩
              have HX := Lib.hid (filter_next (p := (fun b => !decide (linkI n ls z b = x))) hb)
              have HBB := Lib.hid hb
              obtain ⟨rfl, zx, hxc⟩ := Z7.out.at hb
              obtain ⟨zg, d0, d1, -, -⟩ := L7.out.1.two
              have CY := CL b wr.drew L7.out.drew.2.1.sl
              clear hb CL
              have hX := fun (x : Ext wr.drew) (bb oo : Nat) (h : bb < wr.heap.size) => (show x.w.cell? ⟨bb, oo, none⟩ = wr.cell? ⟨bb, oo, none⟩ from x.cell bb oo h)
              go_upto_region 13 with fail
              refine wp_region_staged 9 (by kernel_rfl) (by kernel_rfl) ?_
              refine stage_seg _ 2 [0, 1, 2, 3, 4, 5, 7] (by kernel_rfl) (by kernel_rfl) (by kernel_rfl) (by kernel_rfl) ?_
              (simp only [List.map_cons, List.map_nil, List.getElem?_cons_zero, List.getElem?_cons_succ, Option.getD_some]); (repeat (go_big_quiet_step (fail))); (refine wpQuiet_nil ?_)
              clear hX zg d0 d1 zx hxc
              refine stage_call _ 1 6 (by kernel_rfl) (by rfl) (by kernel_rfl) (by rfl) ?_
              go_wp2_with fail
              refine CY.mono ?_
              clear CY
              rintro e w8 ⟨rfl, hb8⟩
              refine ⟨hb8, ?_⟩
              have Q8 := Lib.hid (Q.out.drewO.call hb8)
              have Z8 := Lib.hid (Z6.out.below Q8.out.bel)
              clear hb8 Q L7 P7 Z7
              by_cases hkk : linkI n ls z b = x
              · have hne : (linkI n ls z b != x) = false := by simp [hkk]
                have HN := Lib.hid (show (!decide (linkI n ls z b = x)) = false by simp [hkk])
                clear hkk
                generalize linkI n ls z b = lk at *
                refine stage_seg _ 0 [8] (by kernel_rfl) (by kernel_rfl) (by kernel_rfl) (by kernel_rfl) ?_
                (simp only [List.map_cons, List.map_nil, List.getElem?_cons_zero, List.getElem?_cons_succ, Option.getD_some]); (repeat (go_big_quiet_step (fail))); (refine wpQuiet_nil ?_)
                refine stage_end (by kernel_rfl) ?_
                go_wp2_with fail
                go_roundw
                case rel => exact ⟨j + 1, out, by omega, by go_num, Lib.hid (by rw [HX.out, HD1.out]; rw [HN.out]; simp), by omega, Q8⟩
                case measure => simp [intOf]; omega
              · have hne : (linkI n ls z b != x) = true := by simpa using hkk
                have HN := Lib.hid (show (!decide (linkI n ls z b = x)) = true by simp [hkk])
                clear hkk
                refine stage_seg _ 0 [8] (by kernel_rfl) (by kernel_rfl) (by kernel_rfl) (by kernel_rfl) ?_
                (simp only [List.map_cons, List.map_nil, List.getElem?_cons_zero, List.getElem?_cons_succ, Option.getD_some]); (repeat (go_big_quiet_step (fail))); (refine wpQuiet_nil ?_)
                refine stage_end (by kernel_rfl) ?_
                obtain ⟨-, zx, hxc⟩ := Z8.out.at HBB.out
                go_wp2_with (at_builtin; refine wpList_append_own_at _ rfl _ _ 28 rfl w6.heap.size 3 i0 _ 1 8 Try.underlying28 hi hz0' hz10 hz20 rfl (by decide) _ out.length _ rfl (Q8.out.row.alloc _) ⟨w8.heap.size, 0, none⟩ 1 1 [.int .i64 b] rfl rfl (cell_one_new _ _ _) (fun u hu => by simp at hu; subst hu; rfl) (by unfold maxLen; omega) (by omega) (by have := Q8.out.bel.size; simp; omega) ?_; intro v' w9 hown' hgrow hnil hat; have Q9 := Lib.hid ((Q8.out.alloc (.cells #[.int .i64 b] 3)).append (news := [b]) (m := 1) hown' rfl hgrow); clear hown' hgrow hnil hat)
                go_roundw
                case rel => exact ⟨j + 1, out ++ [b], by omega, by go_num, Lib.hid (by rw [HX.out, HD1.out]; rw [HN.out]; simp), by simp; omega, Q9⟩
                case measure => simp [intOf]; omega
            · obtain rfl : j = hs.length := by omega
              have hge : ¬ ((hs.length : Int) < (hs.length : Int)) := by omega
              obtain rfl : out = xs := by rw [HD1.out, List.take_length]; exact HAA.out.symm
              go_wp2_with fail
              refine (sameInts_same A2 A9 out c2 c9 wr (by omega) P7.out.sli O9.out.sli).mono ?_
              rintro e w10 ⟨rfl, hb⟩
              have L10 := Lib.hid (L7.out.call hb)
              clear hb
              go_wp2_with fail
              go_ret
              exact ⟨rfl, L10.out.2.2⟩
  · go_enter Try.func6, Try.ntmps6
    go_wp2
    go_ret
    exact ⟨rfl, by (repeat (first | exact Below.refl _ _ | (refine Below.alloc ?_ (by first | exact Nat.le_refl _ | omega | (simp; done) | (simp; omega)) _) | (refine Below.setCell ?_ (by first | exact Nat.le_refl _ | omega | (simp; done) | (simp; omega)) _) | exact Below.drew ‹_›))⟩
end Go.Proofs.Ytkcnbgimdiggoaa
