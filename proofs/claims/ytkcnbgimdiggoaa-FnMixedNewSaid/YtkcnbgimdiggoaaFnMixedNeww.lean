/-
  The walk of FnMixedNew over this seat.
-/
import Derived.Test.YtkcnbgimdiggoaaG7
import Derived.Test.YtkcnbgimdiggoaaVy
import Derived.Test.YtkcnbgimdiggoaaA8
namespace Go.Proofs.Ytkcnbgimdiggoaa
open Go.RowKit Go.Maps

theorem wo_badN (n : Int) (A : Option Addr) (ls : List Lk) (c : Nat) (x : Int) (w : World) (hm : ls.length ≤ 2000000) (hp : 0 < ls.length) (hA : 0 < ls.length → ∃ g, A = some ⟨g, 0, none⟩) (hg : gvB n ls = false) (h : Sl w w.heap.size A ls) :
   Calls Try.prog 22 #[gval n A ls.length c, .int .i64 x] w (GRes 0 [] false w) := by
  obtain ⟨g, rfl⟩ := hA hp
  have := without_impl n g ls c x w hm h
  rwa [if_neg (by unfold withoutOk; rw [hg]; simp)] at this

set_option maxRecDepth 100000 in
set_option maxHeartbeats 1600000 in
theorem fnMixedNew_walk (A : Option Addr) (len c : Nat) (f : Nat → Int) (w : World) (hlc : len ≤ c) (hc : c ≤ maxLen) (hB : Byt w w.heap.size A len f) :
   Calls Try.prog 5 #[.slice A len c] w fun e w' => e = .returned (.bool true) ∧ Below w.heap.size w w' := by
  have HB := Lib.hid hB
  clear hB
  by_cases hl : len ≤ 1048576
  · go_enter Try.func5, Try.ntmps5
    go_wp2_with fail
    refine (drawMH_any A len c f w hlc hc HB.out).mono ?_
    rintro e w1 ⟨n, ls, A1, g1, c1, x, y, ch, Ac, gc, cc, z, rfl, ⟨hn0, hn1, hls, hg1, ho1, hb1⟩, hx0, hx1, hy0, hy1, hz0, hz1, hcap, hch, hoc⟩
    have L1 := Lib.hid (show LB w w1.heap.size n ls A1 g1 c1 (w1.alloc (.cells #[.int .i64 n, .slice A1 ls.length c1] 25)) from ⟨Box.new w1 _ _, ho1.alloc _, hb1.alloc hb1.size _⟩)
    have K1 := Lib.hid (hoc.alloc (.cells #[.int .i64 n, .slice A1 ls.length c1] 25))
    clear ho1 hb1 HB hoc
    generalize hG : w1.heap.size = G at *
    go_wp2_with fail
    refine (mixHops_impl n A1 ls c1 x y Ac ch cc z _ (by omega) L1.out.2.1.isV (by omega) L1.out.2.1.sl K1.out.sli).mono ?_
    rintro e w2 ⟨A2, g2, c2, rfl, hg2, ho2, hb2⟩
    have L2 := Lib.hid (L1.out.call hb2)
    have P2 := Lib.hid ho2
    have K2 := Lib.hid (K1.out.below hb2)
    clear hb2 K1 L1 hG ho2
    obtain ⟨z2, c20, c21, -, -⟩ := L2.out.1.two
    go_wp2_with fail
    refine (mixHops_spec n A1 ls c1 x y Ac ch cc z w2 (by omega) (by omega) L2.out.2.1.isV hcap (by omega) L2.out.2.1.sl K2.out.sli).mono ?_
    rintro e w3 ⟨A3, g3, c3, rfl, hg3, ho3, hb3⟩
    have L3 := Lib.hid (L2.out.call hb3)
    have P3 := Lib.hid (P2.out.below hb3)
    have Q3 := Lib.hid ho3
    have K3 := Lib.hid (K2.out.below hb3)
    clear hb3 K2 L2 z2 c20 c21 P2 ho3
    obtain ⟨z3, c30, c31, -, -⟩ := L3.out.1.two
    have hrs : (mixA n ls x y ch z).length ≤ 8 := mixA_len8 n ls x y ch z
    have HF := Lib.hid (fun h1 h2 h3 => mixA_new (n := n) (ls := ls) (x := x) (t := y) (y := z) (ch := ch) h1 h2 h3)
    generalize mixA n ls x y ch z = xs at *
    go_wp2_with fail
    refine (sameInts_same A2 A3 xs c2 c3 w3 (by omega) P3.out.sli Q3.out.sli).mono ?_
    rintro e w4 ⟨rfl, hb4⟩
    have L4 := Lib.hid (L3.out.call hb4)
    have P4 := Lib.hid (P3.out.below hb4)
    have Q4 := Lib.hid (Q3.out.below hb4)
    have K4 := Lib.hid (K3.out.below hb4)
    clear hb4 K3 L3 P3 Q3 z3 c30 c31 hg2 hg3
    obtain ⟨z4, c40, c41, -, -⟩ := L4.out.1.two
    have CE := fun W (h1 : Sli W W.heap.size A2 xs) (h2 : Sli W W.heap.size A3 xs) => sameInts_same A2 A3 xs c2 c3 W (by omega) h1 h2
    by_cases hq0 : x < 0
    · 
      clear HF
      go_wp2_with fail
      refine (CE _ P4.out.sli Q4.out.sli).mono ?_
      rintro e w5 ⟨rfl, hb⟩
      have LE := Lib.hid (L4.out.call hb)
      go_wp2_with fail
      go_ret
      exact ⟨rfl, LE.out.2.2⟩
    · by_cases hq1 : (ls.length : Int) ≤ x
      · 
        clear HF
        go_wp2_with fail
        refine (CE _ P4.out.sli Q4.out.sli).mono ?_
        rintro e w5 ⟨rfl, hb⟩
        have LE := Lib.hid (L4.out.call hb)
        go_wp2_with fail
        go_ret
        exact ⟨rfl, LE.out.2.2⟩
      · have CH := hasInt_any Ac ch cc z w4 (by omega) K4.out.sli
        cases hz : decide (z ∈ ch) with
        | false =>
          rw [hz] at CH
          clear HF hz
          go_wp2_with fail
          refine (CH).mono ?_
          rintro e w5 ⟨rfl, hb⟩
          have L5 := Lib.hid (L4.out.call hb)
          have P5 := Lib.hid (P4.out.below hb)
          have Q5 := Lib.hid (Q4.out.below hb)
          clear hb L4 P4 Q4 z4 c40 c41 K4
          go_wp2_with fail
          refine (CE _ P5.out.sli Q5.out.sli).mono ?_
          rintro e w6 ⟨rfl, hb⟩
          have LE := Lib.hid (L5.out.call hb)
          go_wp2_with fail
          go_ret
          exact ⟨rfl, LE.out.2.2⟩
        | true =>
          rw [hz] at CH
          have hzm : z ∈ ch := of_decide_eq_true hz
          clear hz
          cases hg : gvB n ls with
          | false =>
            have CW := fun W hA (h : Sl W W.heap.size A1 ls) => wo_badN n A1 ls c1 x W (by omega) (by omega) hA hg h
            clear HF hg CE
            go_wp2_with fail
            refine (CH).mono ?_
            rintro e w5 ⟨rfl, hb⟩
            have L5 := Lib.hid (L4.out.call hb)
            clear hb L4 z4 c40 c41 K4 P4 Q4
            obtain ⟨z5, c50, c51, -, -⟩ := L5.out.1.two
            go_wp2_with fail
            refine (CW _ L5.out.2.1.isV L5.out.2.1.sl).mono ?_
            clear CW
            rintro e w6 ⟨A6, g6, c6, rfl, -, -, hb⟩
            have L6 := Lib.hid (L5.out.call hb)
            clear hb L5 z5 c50 c51
            go_wp2_with fail
            go_ret
            exact ⟨rfl, (L6.out.alloc _).2.2⟩
          | true =>
            have hAA := HF.out hg ⟨by omega, by omega⟩ hzm
            have hk : x.toNat < ls.length := by omega
            have CW : ∀ W : World, (0 < ls.length → ∃ g, A1 = some ⟨g, 0, none⟩) → Sl W W.heap.size A1 ls → Calls Try.prog 22 #[gval n A1 ls.length c1, .int .i64 x] W (GRes n (ls.eraseIdx x.toNat) true W) := fun W hA h => by
              have := wo_drawn n A1 ls c1 x.toNat W (by omega) hg hk hA h
              rw [show ((x.toNat : Nat) : Int) = x by omega] at this
              exact this
            have hrl : (ls.eraseIdx x.toNat).length ≤ 16 := Nat.le_trans (List.length_eraseIdx_le _ _) hls
            have hl8 : (hopsL n (ls.eraseIdx x.toNat) z y).length ≤ 8 := hops_len _ _ _ _
            have HAA := Lib.hid hAA
            clear HF hg CE hk hAA
            go_wp2_with fail
            refine (CH).mono ?_
            rintro e w5 ⟨rfl, hb⟩
            have L5 := Lib.hid (L4.out.call hb)
            have P5 := Lib.hid (P4.out.below hb)
            clear hb L4 P4 z4 c40 c41 K4 Q4
            obtain ⟨z5, c50, c51, -, -⟩ := L5.out.1.two
            go_wp2_with fail
            refine (CW _ L5.out.2.1.isV L5.out.2.1.sl).mono ?_
            clear CW
            rintro e w6 ⟨A6, g6, c6, rfl, -, ho6, hb⟩
            have L6 := Lib.hid (L5.out.call hb)
            have P6 := Lib.hid (P5.out.below hb)
            clear hb L5 P5
            have X7 := Lib.hid (show LB w w6.heap.size n (ls.eraseIdx x.toNat) A6 g6 c6 (w6.alloc (.cells #[.int .i64 n, .slice A6 (ls.eraseIdx x.toNat).length c6] 25)) from ⟨Box.new w6 _ _, ho6.alloc _, L6.out.2.2.alloc L6.out.2.2.size _⟩)
            have L7 := Lib.hid (L6.out.alloc (.cells #[.int .i64 n, .slice A6 (ls.eraseIdx x.toNat).length c6] 25))
            have P7 := Lib.hid (P6.out.alloc (.cells #[.int .i64 n, .slice A6 (ls.eraseIdx x.toNat).length c6] 25))
            clear ho6 L6 P6
            generalize ls.eraseIdx x.toNat = rs at *
            have CR := fun W (h : Sl W W.heap.size A6 rs) => hops_impl n A6 rs c6 z y W (by omega) h
            clear z5 c50 c51
            generalize hopsL n rs z y = zs at *
            have HXZ := HAA.out
            subst HXZ
            go_wp2_with fail
            generalize w6.alloc (.cells #[.int .i64 n, .slice A6 rs.length c6] 25) = W6 at *
            generalize w6.heap.size = bx at *
            obtain ⟨zr, r0, r1, -, -⟩ := X7.out.1.two
            go_wp2_with fail
            refine (CR _ X7.out.2.1.sl).mono ?_
            clear CR
            rintro e w8 ⟨A8, g8, c8, rfl, -, ho8, hb⟩
            have L8 := Lib.hid (L7.out.call hb)
            have P8 := Lib.hid (P7.out.below hb)
            have R8 := Lib.hid ho8
            clear hb L7 P7 X7 ho8 zr r0 r1
            go_wp2_with fail
            refine (sameInts_same A2 A8 xs c2 c8 w8 (by omega) P8.out.sli R8.out.sli).mono ?_
            rintro e w9 ⟨rfl, hb⟩
            have L9 := Lib.hid (L8.out.call hb)
            clear hb L8 P8 R8
            go_wp2_with fail
            go_ret
            exact ⟨rfl, L9.out.2.2⟩
  · go_enter Try.func5, Try.ntmps5
    go_wp2
    go_ret
    exact ⟨rfl, by (repeat (first | exact Below.refl _ _ | (refine Below.alloc ?_ (by first | exact Nat.le_refl _ | omega | (simp; done) | (simp; omega)) _) | (refine Below.setCell ?_ (by first | exact Nat.le_refl _ | omega | (simp; done) | (simp; omega)) _) | exact Below.drew ‹_›))⟩
end Go.Proofs.Ytkcnbgimdiggoaa
