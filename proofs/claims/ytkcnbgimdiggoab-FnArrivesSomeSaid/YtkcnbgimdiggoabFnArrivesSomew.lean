/-
  The walk of FnArrivesSome over this seat.
-/
import Derived.Test.YtkcnbgimdiggoabG7
import Derived.Test.YtkcnbgimdiggoabA8
namespace Go.Proofs.Ytkcnbgimdiggoab
open Go.RowKit Go.Maps

set_option maxRecDepth 100000 in
set_option maxHeartbeats 1600000 in
theorem fnArrivesSome_walk (A : Option Addr) (len c : Nat) (f : Nat → Int) (w : World) (hlc : len ≤ c) (hc : c ≤ maxLen) (hB : Byt w w.heap.size A len f) :
   Calls Try.prog 6 #[.slice A len c] w fun e w' => e = .returned (.bool true) ∧ Below w.heap.size w w' := by
  have HB := Lib.hid hB
  clear hB
  by_cases hl : len ≤ 1048576
  · go_enter Try.func6, Try.ntmps6
    go_wp2_with fail
    refine (drawMA_any A len c f w hlc hc HB.out).mono ?_
    rintro e w1 ⟨n, ls, A1, g1, c1, x, y, ch, Ac, gc, cc, rfl, ⟨hn0, hn1, hls, hg1, ho1, hb1⟩, hx0, hx1, hy0, hy1, hcap, hch, hoc⟩
    have L1 := Lib.hid (show LB w w1.heap.size n ls A1 g1 c1 (w1.alloc (.cells #[.int .i64 n, .slice A1 ls.length c1] 25)) from ⟨Box.new w1 _ _, ho1.alloc _, hb1.alloc hb1.size _⟩)
    have K1 := Lib.hid (hoc.alloc (.cells #[.int .i64 n, .slice A1 ls.length c1] 25))
    clear ho1 hb1 HB hoc
    generalize hG : w1.heap.size = G at *
    go_wp2_with fail
    refine (mixArr_impl n A1 ls c1 x y Ac ch cc _ (by omega) L1.out.2.1.isV (by omega) L1.out.2.1.sl K1.out.sli).mono ?_
    rintro e w2 ⟨A2, g2, c2, rfl, hg2, ho2, hb2⟩
    have L2 := Lib.hid (L1.out.call hb2)
    have P2 := Lib.hid ho2
    have K2 := Lib.hid (K1.out.below hb2)
    clear hb2 K1 L1 hG ho2
    obtain ⟨z2, c20, c21, -, -⟩ := L2.out.1.two
    go_wp2_with fail
    refine (mixArr_spec n A1 ls c1 x y Ac ch cc w2 (by omega) (by omega) L2.out.2.1.isV hcap (by omega) L2.out.2.1.sl K2.out.sli).mono ?_
    rintro e w3 ⟨A3, g3, c3, rfl, hg3, ho3, hb3⟩
    have L3 := Lib.hid (L2.out.call hb3)
    have P3 := Lib.hid (P2.out.below hb3)
    have Q3 := Lib.hid ho3
    have K3 := Lib.hid (K2.out.below hb3)
    clear hb3 K2 L2 z2 c20 c21 P2 ho3
    obtain ⟨z3, c30, c31, -, -⟩ := L3.out.1.two
    have hrs : (arrA n ls x y ch).length ≤ 8 := arrA_len8 n ls x y ch
    have HF := Lib.hid (fun h1 h2 h3 => arrsome_int (n := n) (ls := ls) (x := x) (t := y) ch h1 h2 h3)
    have hsl := safeA_len8 n ls y x
    have CF := fun W (h : Sl W W.heap.size A1 ls) => repSafe_impl n A1 ls c1 y x W (by omega) h
    generalize safeA n ls y x = fs at *
    generalize arrA n ls x y ch = xs at *
    go_wp2_with fail
    refine (sameInts_same A2 A3 xs c2 c3 w3 (by omega) P3.out.sli Q3.out.sli).mono ?_
    rintro e w4 ⟨rfl, hb4⟩
    have L4 := Lib.hid (L3.out.call hb4)
    have P4 := Lib.hid (P3.out.below hb4)
    have Q4 := Lib.hid (Q3.out.below hb4)
    have K4 := Lib.hid (K3.out.below hb4)
    clear hb4 K3 L3 P3 Q3 z3 c30 c31 hg2 hg3
    obtain ⟨z4, c40, c41, -, -⟩ := L4.out.1.two
    clear K4
    have CV := valid_spec_any n A1 ls c1 w4 (by omega) (by omega) L4.out.2.1.sl
    have CE := fun W (h1 : Sli W W.heap.size A2 xs) (h2 : Sli W W.heap.size A3 xs) => sameInts_same A2 A3 xs c2 c3 W (by omega) h1 h2
    go_wp2_with fail
    refine (CV).mono ?_
    rintro e w5 ⟨rfl, hb⟩
    have L5 := Lib.hid (L4.out.call hb)
    have P5 := Lib.hid (P4.out.below hb)
    have Q5 := Lib.hid (Q4.out.below hb)
    clear hb L4 P4 Q4 z4 c40 c41
    obtain ⟨z5, c50, c51, -, -⟩ := L5.out.1.two
    cases hg : gvB n ls with
    | false =>
      clear hg
      clear HF
      go_wp2_with fail
      refine (CE _ P5.out.sli Q5.out.sli).mono ?_
      rintro e w6 ⟨rfl, hb⟩
      have L6 := Lib.hid (L5.out.call hb)
      go_wp2_with fail
      go_ret
      exact ⟨rfl, L6.out.2.2⟩
    | true =>
      by_cases hq0 : x < 0
      · clear hg
        clear HF
        go_wp2_with fail
        refine (CE _ P5.out.sli Q5.out.sli).mono ?_
        rintro e w6 ⟨rfl, hb⟩
        have L6 := Lib.hid (L5.out.call hb)
        go_wp2_with fail
        go_ret
        exact ⟨rfl, L6.out.2.2⟩
      · 
        by_cases hq1 : (ls.length : Int) ≤ x
        · clear hg
          clear HF
          go_wp2_with fail
          refine (CE _ P5.out.sli Q5.out.sli).mono ?_
          rintro e w6 ⟨rfl, hb⟩
          have L6 := Lib.hid (L5.out.call hb)
          go_wp2_with fail
          go_ret
          exact ⟨rfl, L6.out.2.2⟩
        · 
          by_cases hq2 : y < 0
          · clear hg
            clear HF
            go_wp2_with fail
            refine (CE _ P5.out.sli Q5.out.sli).mono ?_
            rintro e w6 ⟨rfl, hb⟩
            have L6 := Lib.hid (L5.out.call hb)
            go_wp2_with fail
            go_ret
            exact ⟨rfl, L6.out.2.2⟩
          · 
            by_cases hq3 : n ≤ y
            · clear hg
              clear HF
              go_wp2_with fail
              refine (CE _ P5.out.sli Q5.out.sli).mono ?_
              rintro e w6 ⟨rfl, hb⟩
              have L6 := Lib.hid (L5.out.call hb)
              go_wp2_with fail
              go_ret
              exact ⟨rfl, L6.out.2.2⟩
            · 
              obtain ⟨hall, hself⟩ := HF.out hg ⟨by omega, by omega⟩ ⟨by omega, by omega⟩
              have HALL := Lib.hid hall
              have HSELF := Lib.hid hself
              clear hall hself HF hg CE
              go_wp2_with fail
              refine (CF _ L5.out.2.1.sl).mono ?_
              clear CF
              rintro e w6 ⟨A6, g6, c6, rfl, -, ho6, hb⟩
              have L6 := Lib.hid (L5.out.call hb)
              have P6 := Lib.hid (P5.out.below hb)
              have F6 := Lib.hid ho6
              clear hb ho6 L5 P5 Q5 z5 c50 c51
              go_wp2_with fail
              go_loopw [10] (fun i wr => ∃ k : Nat, k ≤ fs.length ∧ i = .int .i64 (k : Int) ∧ Hid (LB w G n ls A1 g1 c1 wr) ∧ Hid (Own1i wr A2 g2 xs) ∧ Hid (Own1i wr A6 g6 fs)) (fun i _ => fs.length - (intOf i).toNat)
              case atStart => exact ⟨0, Nat.zero_le _, rfl, L6, P6, F6⟩
              case round =>
                obtain ⟨k, hk, rfl, L7, P7, F7⟩ := hrel
                clear L6 P6 F6
                by_cases hlt : k < fs.length
                · obtain ⟨v, hv⟩ : ∃ v, fs[k]? = some v := ⟨_, List.getElem?_eq_getElem hlt⟩
                  have C1 := fun W (h : Sli W W.heap.size A2 xs) => hasInt_any A2 xs c2 v W (by omega) h
                  rw [HALL.out v (List.mem_of_getElem? hv)] at C1
                  obtain ⟨rfl, zx, hxc⟩ := F7.out.at hv
                  clear HALL HSELF
                  go_wp2_with fail
                  refine (C1 _ P7.out.sli).mono ?_
                  rintro e w8 ⟨rfl, hb⟩
                  have L8 := Lib.hid (L7.out.call hb)
                  have P8 := Lib.hid (P7.out.below hb)
                  have F8 := Lib.hid (F7.out.below hb)
                  clear hb L7 P7 F7 
                  go_wp2_with fail
                  go_roundw
                  case rel => exact ⟨k + 1, by omega, by go_num, L8, P8, F8⟩
                  case measure => simp [intOf]; omega
                · have C2 := hasInt_any A2 xs c2 y wr (by omega) P7.out.sli
                  rw [HSELF.out] at C2
                  go_wp2_with fail
                  refine (C2).mono ?_
                  rintro e w8 ⟨rfl, hb⟩
                  have L8 := Lib.hid (L7.out.call hb)
                  clear hb L7 
                  go_wp2_with fail
                  go_ret
                  exact ⟨rfl, L8.out.2.2⟩
  · go_enter Try.func6, Try.ntmps6
    go_wp2
    go_ret
    exact ⟨rfl, by (repeat (first | exact Below.refl _ _ | (refine Below.alloc ?_ (by first | exact Nat.le_refl _ | omega | (simp; done) | (simp; omega)) _) | (refine Below.setCell ?_ (by first | exact Nat.le_refl _ | omega | (simp; done) | (simp; omega)) _) | exact Below.drew ‹_›))⟩
end Go.Proofs.Ytkcnbgimdiggoab
