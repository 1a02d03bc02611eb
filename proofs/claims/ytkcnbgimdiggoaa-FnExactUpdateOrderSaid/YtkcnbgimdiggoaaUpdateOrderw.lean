/-
  The walk of FnExactUpdateOrder over this seat: whatever comes in, the law returns true and changes nothing that was there.
-/
import Derived.Test.YtkcnbgimdiggoaaG7
namespace Go.Proofs.Ytkcnbgimdiggoaa
open Go.RowKit

set_option maxRecDepth 100000 in
set_option maxHeartbeats 1600000 in
theorem exactUpdateOrder_walk (n : Int) (A : Option Addr) (ls : List Lk) (c : Nat) (x y : Int) (w : World) (hnu : n ≤ 9223372036854775807) (hmax : ls.length ≤ maxLen)
    (h1 : Sl w w.heap.size A ls) :
   Calls Try.prog 9 #[gval n A ls.length c, .int .i64 x, .int .i64 y] w fun e w' => e = .returned (.bool true) ∧ Below w.heap.size w w' := by
  unfold maxLen at hmax
  have H1 := Lib.hid h1
  clear h1
  by_cases hl : ls.length ≤ 1048576
  · have hm : ls.length ≤ 2000000 := by omega
    obtain ⟨rs, hrs, CI, CS⟩ := updateOrder_both n ls x y hm hnu
    have hrs2 : rs.length ≤ 2000000 := by omega
    go_enter Try.func9, Try.ntmps9
    go_wp2_with (first
      | (go_at_call 27; go_in)
      | (go_at_call 61; go_in))
    refine (toGraph_any n A ls c _ hm ((H1.out.below (by (repeat (first | exact Below.refl _ _ | (refine Below.alloc ?_ (by first | exact Nat.le_refl _ | omega | (simp; done) | (simp; omega)) _) | (refine Below.setCell ?_ (by first | exact Nat.le_refl _ | omega | (simp; done) | (simp; omega)) _) | exact Below.drew ‹_›)))).more (by simp; omega))).mono ?_
    rintro e w1 ⟨g1, rfl, hg1, harr1, hb1⟩
    have K1 := Box.below ((Box.new w 44 #[.int .i64 n, .slice A ls.length c]).alloc (.cells #[.int .i64 n, .slice A ls.length c] 44)) hb1 (by simp; omega)
    have B1 := Lib.hid (Below.trans (B := w.heap.size) (a := w) (by (repeat (first | exact Below.refl _ _ | (refine Below.alloc ?_ (by first | exact Nat.le_refl _ | omega | (simp; done) | (simp; omega)) _) | (refine Below.setCell ?_ (by first | exact Nat.le_refl _ | omega | (simp; done) | (simp; omega)) _) | exact Below.drew ‹_›))) (hb1.mono (by simp; omega)))
    have R1 := Lib.hid (harr1.sl harr1.lt)
    clear hb1 harr1
    go_wp2_with fail
    refine (CS g1 _ _ R1.out).mono ?_
    rintro e w2 ⟨A2, g2, c2, rfl, hg2, ho2, hb2⟩
    have K2 := K1.below hb2 K1.lt
    have B2 := Lib.hid (B1.out.trans (hb2.mono (Nat.le_of_lt K1.lt)))
    have O2 := Lib.hid ho2
    have l2 : 0 < rs.length → g2 < w2.heap.size := fun hp => (ho2 hp).2.lt
    have L2 := Lib.hid l2
    clear ho2 l2 hb2 R1 B1 hg1 K1
    obtain ⟨z2, e20, e21, _, _⟩ := K2.two
    go_wp2_with fail
    refine (toGraph_any n A ls c _ hm ((H1.out.below B2.out).more (Nat.le_of_lt z2))).mono ?_
    rintro e w3 ⟨g3, rfl, hg3, harr3, hb3⟩
    have K3 := K2.below hb3 K2.lt
    have O3 := Lib.hid (O2.out.below hb3)
    have B3 := Lib.hid (B2.out.trans (hb3.mono (Nat.le_of_lt z2)))
    have A3 := Lib.hid harr3
    have G3 := Lib.hid harr3.lt
    have z3 : w2.heap.size ≤ w3.heap.size := hb3.size
    clear hb3 harr3 K2 B2 O2 e20 e21
    have X3 := Box.new w3 25 #[.int .i64 n, .slice (some ⟨g3, 0, none⟩) ls.length ls.length]
    have KK := Lib.hid (K3.alloc (.cells #[.int .i64 n, .slice (some ⟨g3, 0, none⟩) ls.length ls.length] 25))
    have XX := Lib.hid X3
    have OO := Lib.hid (O3.out.alloc (.cells #[.int .i64 n, .slice (some ⟨g3, 0, none⟩) ls.length ls.length] 25))
    have BB := Lib.hid (B3.out.alloc (Nat.le_of_lt K3.lt) (.cells #[.int .i64 n, .slice (some ⟨g3, 0, none⟩) ls.length ls.length] 25))
    have AA := Lib.hid (A3.out.below ((Below.refl w3.heap.size w3).alloc (Nat.le_refl _) (.cells #[.int .i64 n, .slice (some ⟨g3, 0, none⟩) ls.length ls.length] 25)) G3.out)
    clear K3 X3 O3 B3 A3
    go_wp2_with fail
    refine (CI g3 _ _ (AA.out.sl AA.out.lt)).mono ?_
    rintro e w4 ⟨A4, g4, c4, rfl, hg4, ho4, hb4⟩
    have KK4 := Lib.hid (KK.out.below hb4 KK.out.lt)
    have XX4 := Lib.hid (XX.out.below hb4 XX.out.lt)
    have O4 := Lib.hid (OO.out.below hb4)
    have B4 := Lib.hid (BB.out.trans (hb4.mono (Nat.le_of_lt KK.out.lt)))
    have A4' := Lib.hid (AA.out.below hb4 AA.out.lt)
    have P4 := Lib.hid ho4
    have z4 : w3.heap.size < w4.heap.size := XX4.out.lt
    have l4 : 0 < rs.length → g4 < w4.heap.size := fun hp => (ho4 hp).2.lt
    have L4 := Lib.hid l4
    simp only [World.size_alloc] at hg4
    clear hb4 ho4 l4 KK XX OO BB AA
    go_wp2_with fail
    refine (eqIntS_same A4 A2 rs _ _ _ hrs2 P4.out.sli O4.out.sli).mono ?_
    rintro e w5 ⟨rfl, hb5⟩
    have K5 := KK4.out.below hb5 KK4.out.lt
    have X5 := XX4.out.below hb5 XX4.out.lt
    have O5 := Lib.hid (O4.out.below hb5)
    have P5 := Lib.hid (P4.out.below hb5)
    have B5 := Lib.hid (B4.out.trans (hb5.mono (Nat.le_of_lt KK4.out.lt)))
    have A5 := Lib.hid (A4'.out.below hb5 A4'.out.lt)
    have z5 : w4.heap.size ≤ w5.heap.size := hb5.size
    clear hb5 KK4 XX4 O4 P4 B4 A4'
    obtain ⟨zk5, k50, k51, _, _⟩ := K5.two
    obtain ⟨zx5, x50, x51, _, _⟩ := X5.two
    go_wp2_with fail
    go_region_with (first
      | (go_at_call 28; refine (toGraph_any n A ls c _ hm ((H1.out.below B5.out.drew).more (Nat.le_of_lt zk5))).mono ?_; rintro e w6 ⟨g6, rfl, hg6, harr6, hb6⟩; have K6 := Lib.hid (Box.below (w := w5.drew) K5 hb6 K5.lt); have X6 := Box.below (w := w5.drew) X5 hb6 X5.lt; have O6 := Lib.hid (Own1i.below (w := w5.drew) O5.out hb6); have P6 := Lib.hid (Own1i.below (w := w5.drew) P5.out hb6); have B6 := Lib.hid (B5.out.drew.trans (hb6.mono (Nat.le_of_lt zk5))); have A6 := Lib.hid (A5.out.below (w := w5.drew) hb6 A5.out.lt); have Z6 := Lib.hid (harr6.sl harr6.lt); have s6 : w5.heap.size ≤ w6.heap.size := hb6.size; clear hb6 harr6 hg6; obtain ⟨zx6, x60, x61, _, _⟩ := X6.two)
      | (go_at_call 30; refine (eqGraph_same n _ _ ls _ _ _ hm (A6.out.sl A6.out.lt) Z6.out).mono ?_; rintro e w7 ⟨rfl, hb7⟩; have K7 := Lib.hid (K6.out.below hb7 K6.out.lt); have X7 := X6.below hb7 X6.lt; have O7 := Lib.hid (O6.out.below hb7); have P7 := Lib.hid (P6.out.below hb7); have B7 := Lib.hid (B6.out.trans (hb7.mono (Nat.le_of_lt K6.out.lt))); have A7 := Lib.hid (A6.out.below hb7 A6.out.lt); have s7 : w5.heap.size ≤ w7.heap.size := Nat.le_trans s6 hb7.size; clear hb7))
    all_goals
      clear K5 X5 O5 P5 B5 A5 k50 k51 x50 x51 K6 X6 O6 P6 B6 A6 Z6 x60 x61
      obtain ⟨zx7, x70, x71, _, _⟩ := X7.two
      go_wp2_with fail
      refine (markGraph_any n _ g3 ls _ 1 _ hm (by omega) (by omega) (fun _ => ⟨rfl, A7.out⟩)).mono ?_
      rintro e w8 ⟨rfl, _, hg8⟩
      have g3' := G3.out
      have K8 := Lib.hid (K7.out.grown hg8 (by omega))
      have O8 := Lib.hid (O7.out.grownC hg8 (fun hp => by have := L2.out hp; omega))
      have P8 := Lib.hid (P7.out.grownC hg8 (fun hp => by omega))
      have B8 := Lib.hid (B7.out.grown hg8 (Nat.le_of_lt K7.out.lt) (fun k e => by cases e; omega))
      have s8 : w5.heap.size ≤ w8.heap.size := Nat.le_trans s7 hg8.size
      clear K7 X7 O7 P7 B7 A7 hg8 x70 x71 s7 s6 zx7
      go_wp2_with fail
      refine (eqIntS_same A4 A2 rs _ _ _ hrs2 P8.out.sli O8.out.sli).mono ?_
      rintro e w9 ⟨rfl, hb9⟩
      have K9 := Lib.hid (K8.out.below hb9 K8.out.lt)
      have O9 := Lib.hid (O8.out.below hb9)
      have P9 := Lib.hid (P8.out.below hb9)
      have B9 := Lib.hid (B8.out.trans (hb9.mono (Nat.le_of_lt K8.out.lt)))
      have s9 : w4.heap.size ≤ w9.heap.size := Nat.le_trans z5 (Nat.le_trans s8 hb9.size)
      clear K8 O8 P8 B8 hb9 s8
      obtain ⟨g5, Q9, hq⟩ := P9.out.fresh
      have hgr : (0 < rs.length → g4 < w4.heap.size ∧ g2 < w2.heap.size) ∧ w3.heap.size + 1 ≤ g5 := by
        rcases hq with ⟨hp, rfl⟩ | rfl
        · exact ⟨fun h => ⟨L4.out h, L2.out h⟩, hg4⟩
        · exact ⟨fun h => ⟨L4.out h, L2.out h⟩, by omega⟩
      obtain ⟨hgr0, hgr1⟩ := hgr
      have QQ := Lib.hid Q9
      clear hq Q9
      go_wp2_with fail
      refine (markIntS_any A4 g5 rs _ 1 _ hrs2 (by omega) (by omega) QQ.out).mono ?_
      rintro e w10 ⟨rfl, hm10, hg10⟩
      have K10 := Lib.hid (K9.out.grown hg10 (by omega))
      have O10 := Lib.hid (O9.out.grownC hg10 (fun hp => by have := (hgr0 hp).2; omega))
      have B10 := Lib.hid (B9.out.grown hg10 (Nat.le_of_lt K9.out.lt) (fun k e => by cases e; omega))
      have M10 := Lib.hid hm10
      clear K9 O9 P9 B9 QQ hg10 hm10 s9
      go_wp2_with fail
      refine (heldIntS_any A4 g5 rs.length _ 1 _ hrs2 (by omega) (by omega) M10.out).mono ?_
      rintro e w11 ⟨rfl, rfl⟩
      obtain ⟨zk11, k110, k111, _, _⟩ := K10.out.two
      go_wp2_with fail
      refine (toGraph_any n A ls c _ hm ((H1.out.below B10.out).more (Nat.le_of_lt zk11))).mono ?_
      rintro e w12 ⟨g12, rfl, hg12, harr12, hb12⟩
      have K12 := Lib.hid (K10.out.below hb12 zk11)
      have O12 := Lib.hid (O10.out.below hb12)
      have M12 := Lib.hid (M10.out.below hb12)
      have B12 := Lib.hid (B10.out.trans (hb12.mono (Nat.le_of_lt zk11)))
      have R12 := Lib.hid (harr12.sl harr12.lt)
      clear K10 O10 M10 B10 hb12 harr12 k110 k111 zk11 hg12
      go_wp2_with fail
      refine (CI g12 _ _ R12.out).mono ?_
      rintro e w13 ⟨A13, g13, c13, rfl, hg13, ho13, hb13⟩
      have O13 := Lib.hid (O12.out.below hb13)
      have M13 := Lib.hid (M12.out.below hb13)
      have P13 := Lib.hid ho13
      have B13 := Lib.hid (B12.out.trans (hb13.mono (Nat.le_of_lt K12.out.lt)))
      have zk13 : w.heap.size < w13.heap.size := Nat.lt_of_lt_of_le K12.out.lt hb13.size
      clear K12 O12 M12 B12 R12 hb13 ho13 hg13
      go_wp2_with fail
      refine (eqIntS_same A13 A2 rs _ _ _ hrs2 P13.out.sli O13.out.sli).mono ?_
      rintro e w14 ⟨rfl, hb14⟩
      have M14 := Lib.hid (M13.out.below hb14)
      have B14 := Lib.hid (B13.out.trans (hb14.mono (Nat.le_of_lt zk13)))
      clear M13 B13 O13 P13 hb14
      go_wp2_with fail
      refine (heldIntS_any A4 g5 rs.length _ 1 _ hrs2 (by omega) (by omega) M14.out).mono ?_
      rintro e w15 ⟨rfl, rfl⟩
      go_wp2_with fail
      go_ret
      exact ⟨rfl, B14.out⟩
  · go_enter Try.func9, Try.ntmps9
    go_wp2
    go_ret
    exact ⟨rfl, by (repeat (first | exact Below.refl _ _ | (refine Below.alloc ?_ (by first | exact Nat.le_refl _ | omega | (simp; done) | (simp; omega)) _) | (refine Below.setCell ?_ (by first | exact Nat.le_refl _ | omega | (simp; done) | (simp; omega)) _) | exact Below.drew ‹_›))⟩

end Go.Proofs.Ytkcnbgimdiggoaa
