/-
  The walk of FnArrivesNoLoop over this seat.
-/
import Derived.Test.YtkcnbgimdiggoabG7
import Derived.Test.YtkcnbgimdiggoabA8
namespace Go.Proofs.Ytkcnbgimdiggoab
open Go.RowKit Go.Maps

set_option maxRecDepth 100000 in
set_option maxHeartbeats 1600000 in
theorem fnArrivesNoLoop_walk (A : Option Addr) (len c : Nat) (f : Nat → Int) (w : World) (hlc : len ≤ c) (hc : c ≤ maxLen) (hB : Byt w w.heap.size A len f) :
   Calls Try.prog 7 #[.slice A len c] w fun e w' => e = .returned (.bool true) ∧ Below w.heap.size w w' := by
  have HB := Lib.hid hB
  clear hB
  by_cases hl : len ≤ 1048576
  · go_enter Try.func7, Try.ntmps7
    go_wp2_with fail
    refine (drawMA_any A len c f w hlc hc HB.out).mono ?_
    rintro e w1 ⟨n, ls, A1, g1, c1, x, y, ch, Ac, gc, cc, rfl, ⟨hn0, hn1, hls, hg1, ho1, hb1⟩, hx0, hx1, hy0, hy1, hcap, hch, hoc⟩
    have L1 := Lib.hid (show LB w w1.heap.size n ls A1 g1 c1 (w1.alloc (.cells #[.int .i64 n, .slice A1 ls.length c1] 25)) from ⟨Box.new w1 _ _, ho1.alloc _, hb1.alloc hb1.size _⟩)
    have K1 := Lib.hid (hoc.alloc (.cells #[.int .i64 n, .slice A1 ls.length c1] 25))
    clear ho1 hb1 HB hoc
    generalize hG : w1.heap.size = G at *
    go_wp2_with fail
    refine (mixArr_impl n A1 ls c1 x y Ac ch cc _ (by omega) L1.out.2.1.isV (by omega) L1.out.2.1.sl K1.out.sli).mono ?_
    rintro e w2 ⟨A2, g2, c2, rfl, hg2, ho2, hb2⟩
    have L2 := Lib.hid (L1.out.call hb2)
    have P2 := Lib.hid ho2
    have K2 := Lib.hid (K1.out.below hb2)
    clear hb2 K1 L1 hG ho2
    obtain ⟨z2, c20, c21, -, -⟩ := L2.out.1.two
    go_wp2_with fail
    refine (mixArr_spec n A1 ls c1 x y Ac ch cc w2 (by omega) (by omega) L2.out.2.1.isV hcap (by omega) L2.out.2.1.sl K2.out.sli).mono ?_
    rintro e w3 ⟨A3, g3, c3, rfl, hg3, ho3, hb3⟩
    have L3 := Lib.hid (L2.out.call hb3)
    have P3 := Lib.hid (P2.out.below hb3)
    have Q3 := Lib.hid ho3
    have K3 := Lib.hid (K2.out.below hb3)
    clear hb3 K2 L2 z2 c20 c21 P2 ho3
    obtain ⟨z3, c30, c31, -, -⟩ := L3.out.1.two
    have hrs : (arrA n ls x y ch).length ≤ 8 := arrA_len8 n ls x y ch
    have hno := Lib.hid (arrno_law n ls x y ch)
    have HASC := Lib.hid (arrA_asc n ls x y ch)
    have hll := loopA_len8 n ls x y ch
    have CL := fun W h1 (h : Sl W W.heap.size A1 ls) h2 => mixLoop_impl n A1 ls c1 x y Ac ch cc W (by omega) h1 (by omega) h h2
    generalize loopA n ls x y ch = bs at *
    generalize arrA n ls x y ch = xs at *
    go_wp2_with fail
    refine (sameInts_same A2 A3 xs c2 c3 w3 (by omega) P3.out.sli Q3.out.sli).mono ?_
    rintro e w4 ⟨rfl, hb4⟩
    have L4 := Lib.hid (L3.out.call hb4)
    have P4 := Lib.hid (P3.out.below hb4)
    have Q4 := Lib.hid (Q3.out.below hb4)
    have K4 := Lib.hid (K3.out.below hb4)
    clear hb4 K3 L3 P3 Q3 z3 c30 c31 hg2 hg3
    obtain ⟨z4, c40, c41, -, -⟩ := L4.out.1.two
    go_wp2_with fail
    refine (CL _ L4.out.2.1.isV L4.out.2.1.sl K4.out.sli).mono ?_
    clear CL
    rintro e w5 ⟨A5, g5, c5, rfl, -, ho5, hb⟩
    have L5 := Lib.hid (L4.out.call hb)
    have P5 := Lib.hid (P4.out.below hb)
    have R5 := Lib.hid ho5
    clear hb ho5 L4 P4 Q4 K4 z4 c40 c41
    go_wp2_with fail
    go_loopw [10] (fun i wr => ∃ k : Nat, k ≤ xs.length ∧ i = .int .i64 (k : Int) ∧ Hid (LB w G n ls A1 g1 c1 wr) ∧ Hid (Own1i wr A2 g2 xs) ∧ Hid (Own1i wr A5 g5 bs)) (fun i _ => xs.length - (intOf i).toNat)
    case atStart => exact ⟨0, Nat.zero_le _, rfl, L5, P5, R5⟩
    case round =>
      obtain ⟨k, hk, rfl, L6, P6, R6⟩ := hrel
      clear L5 P5 R5
      by_cases hlt : k < xs.length
      · obtain ⟨v, hv⟩ : ∃ v, xs[k]? = some v := ⟨_, List.getElem?_eq_getElem hlt⟩
        have C1 := fun W (h : Sli W W.heap.size A5 bs) => hasInt_any A5 bs c5 v W (by omega) h
        rw [hno.out v (List.mem_of_getElem? hv)] at C1
        obtain ⟨rfl, zx, hxc⟩ := P6.out.at hv
        clear hno
        go_wp2_with fail
        refine (C1 _ R6.out.sli).mono ?_
        rintro e w7 ⟨rfl, hb⟩
        have L7 := Lib.hid (L6.out.call hb)
        have P7 := Lib.hid (P6.out.below hb)
        have R7 := Lib.hid (R6.out.below hb)
        clear hb L6 P6 R6 
        go_wp2_with fail
        go_roundw
        case rel => exact ⟨k + 1, by omega, by go_num, L7, P7, R7⟩
        case measure => simp [intOf]; omega
      · have C1 := ascending_any A2 xs c2 wr (by omega) P6.out.sli HASC.out
        go_wp2_with fail
        refine (C1).mono ?_
        rintro e w7 ⟨rfl, hb⟩
        have L7 := Lib.hid (L6.out.call hb)
        clear hb L6 
        go_wp2_with fail
        go_ret
        exact ⟨rfl, L7.out.2.2⟩
  · go_enter Try.func7, Try.ntmps7
    go_wp2
    go_ret
    exact ⟨rfl, by (repeat (first | exact Below.refl _ _ | (refine Below.alloc ?_ (by first | exact Nat.le_refl _ | omega | (simp; done) | (simp; omega)) _) | (refine Below.setCell ?_ (by first | exact Nat.le_refl _ | omega | (simp; done) | (simp; omega)) _) | exact Below.drew ‹_›))⟩
end Go.Proofs.Ytkcnbgimdiggoab
