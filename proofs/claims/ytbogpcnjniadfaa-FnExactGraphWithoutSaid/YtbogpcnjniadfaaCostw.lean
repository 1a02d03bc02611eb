/-
  The walk of FnExactGraphCost over this seat: whatever comes in, the law returns true and changes nothing that was there.
-/
import Derived.Test.YtbogpcnjniadfaaCostS
namespace Go.Proofs.Ytbogpcnjniadfaa
open Go.RowKit

theorem Own1.grownC {w w' : World} {A : Option Addr} {g g' : Nat} {ls : List Lk} (h : Own1 w A g ls) (hg : w.grownBy w' (some g')) (hne : 0 < ls.length → g ≠ g') : Own1 w' A g ls := fun hp => by
  obtain ⟨e, cs, hh, hc⟩ := h hp
  exact ⟨e, cs, (hg.block g (heap_lt hh) (fun e => hne hp (Option.some.inj e))).trans hh, hc⟩
theorem Own1.fresh {w : World} {A : Option Addr} {g : Nat} {ls : List Lk} (h : Own1 w A g ls) : ∃ g', Own1 w A g' ls ∧ ((0 < ls.length ∧ g' = g) ∨ g' = w.heap.size) := by
  by_cases hp : 0 < ls.length
  · exact ⟨g, h, .inl ⟨hp, rfl⟩⟩
  · exact ⟨w.heap.size, fun h => absurd h hp, .inr rfl⟩

set_option maxRecDepth 100000 in
set_option maxHeartbeats 1600000 in
theorem exactCost_walk (n : Int) (A : Option Addr) (ls : List Lk) (c : Nat) (x cost : Int) (w : World) (hnu : n ≤ 9223372036854775807) (hmax : ls.length ≤ maxLen)
    (h1 : Sl w w.heap.size A ls) :
   Calls Try.prog 8 #[gval n A ls.length c, .int .i64 x, .int .i64 cost] w fun e w' => e = .returned (.bool true) ∧ Below w.heap.size w w' := by
  unfold maxLen at hmax
  have H1 := Lib.hid h1
  clear h1
  by_cases hl : ls.length ≤ 1048576
  · have hm : ls.length ≤ 2000000 := by omega
    obtain ⟨m, rs, ok, hrs, CI, CS⟩ := cost_both n ls x cost hm hnu
    go_enter Try.func8, Try.ntmps8
    go_wp2_with (first
      | (go_at_call 15; go_in)
      | (go_at_call 45; go_in))
    -- the specification's copy and answer
    refine (toGraph_any n A ls c _ hm ((H1.out.below (by (repeat (first | exact Below.refl _ _ | (refine Below.alloc ?_ (by first | exact Nat.le_refl _ | omega | (simp; done) | (simp; omega)) _) | (refine Below.setCell ?_ (by first | exact Nat.le_refl _ | omega | (simp; done) | (simp; omega)) _) | exact Below.drew ‹_›)))).more (by simp; omega))).mono ?_
    rintro e w1 ⟨g1, rfl, hg1, harr1, hb1⟩
    have K1 := Box.below ((Box.new w 24 #[.int .i64 n, .slice A ls.length c]).alloc (.cells #[.int .i64 n, .slice A ls.length c] 24)) hb1 (by simp; omega)
    have B1 := Lib.hid (Below.trans (B := w.heap.size) (a := w) (by (repeat (first | exact Below.refl _ _ | (refine Below.alloc ?_ (by first | exact Nat.le_refl _ | omega | (simp; done) | (simp; omega)) _) | (refine Below.setCell ?_ (by first | exact Nat.le_refl _ | omega | (simp; done) | (simp; omega)) _) | exact Below.drew ‹_›))) (hb1.mono (by simp; omega)))
    have R1 := Lib.hid (harr1.sl harr1.lt)
    clear hb1 harr1
    go_wp2_with fail
    refine (CS g1 _ _ R1.out).mono ?_
    rintro e w2 ⟨A2, g2, c2, rfl, hg2, ho2, hb2⟩
    have K2 := K1.below hb2 K1.lt
    have B2 := Lib.hid (B1.out.trans (hb2.mono (Nat.le_of_lt K1.lt)))
    have O2 := Lib.hid ho2
    have l2 : 0 < rs.length → g2 < w2.heap.size := fun hp => (ho2 hp).2.lt
    have L2 := Lib.hid l2
    clear ho2 l2 hb2 R1 B1 hg1 K1
    obtain ⟨z2, e20, e21, _, _⟩ := K2.two
    have k2 := K2.alloc (.cells #[.int .i64 m, .slice A2 rs.length c2] 29)
    have T2 := Box.new w2 29 #[.int .i64 m, .slice A2 rs.length c2]
    have b2 := Lib.hid (B2.out.alloc (Nat.le_of_lt z2) (.cells #[.int .i64 m, .slice A2 rs.length c2] 29))
    have o2 := Lib.hid (O2.out.alloc (.cells #[.int .i64 m, .slice A2 rs.length c2] 29))
    have KK := Lib.hid k2
    have TT := Lib.hid T2
    clear k2 T2 K2 B2 O2
    go_wp2_with fail
    -- the program's copy and answer
    refine (toGraph_any n A ls c _ hm ((H1.out.below b2.out).more (Nat.le_of_lt KK.out.lt))).mono ?_
    rintro e w3 ⟨g3, rfl, hg3, harr3, hb3⟩
    have K3 := KK.out.below hb3 KK.out.lt
    have T3 := TT.out.below hb3 TT.out.lt
    have O3 := Lib.hid (o2.out.below hb3)
    have B3 := Lib.hid (b2.out.trans (hb3.mono (Nat.le_of_lt KK.out.lt)))
    have A3 := Lib.hid harr3
    have G3 := Lib.hid harr3.lt
    have z3 : w2.heap.size < w3.heap.size := T3.lt
    simp only [World.size_alloc] at hg3
    clear hb3 harr3 KK TT b2 o2 e20 e21
    have X3 := Box.new w3 29 #[.int .i64 n, .slice (some ⟨g3, 0, none⟩) ls.length ls.length]
    have KK := Lib.hid (K3.alloc (.cells #[.int .i64 n, .slice (some ⟨g3, 0, none⟩) ls.length ls.length] 29))
    have TT := Lib.hid (T3.alloc (.cells #[.int .i64 n, .slice (some ⟨g3, 0, none⟩) ls.length ls.length] 29))
    have XX := Lib.hid X3
    have OO := Lib.hid (O3.out.alloc (.cells #[.int .i64 n, .slice (some ⟨g3, 0, none⟩) ls.length ls.length] 29))
    have BB := Lib.hid (B3.out.alloc (Nat.le_of_lt K3.lt) (.cells #[.int .i64 n, .slice (some ⟨g3, 0, none⟩) ls.length ls.length] 29))
    have AA := Lib.hid (A3.out.below ((Below.refl w3.heap.size w3).alloc (Nat.le_refl _) (.cells #[.int .i64 n, .slice (some ⟨g3, 0, none⟩) ls.length ls.length] 29)) G3.out)
    clear K3 T3 X3 O3 B3 A3
    go_wp2_with fail
    refine (CI g3 _ _ (AA.out.sl AA.out.lt)).mono ?_
    rintro e w4 ⟨A4, g4, c4, rfl, hg4, ho4, hb4⟩
    have K4 := KK.out.below hb4 KK.out.lt
    have T4 := TT.out.below hb4 TT.out.lt
    have X4 := XX.out.below hb4 XX.out.lt
    have O4 := Lib.hid (OO.out.below hb4)
    have B4 := Lib.hid (BB.out.trans (hb4.mono (Nat.le_of_lt KK.out.lt)))
    have A4' := Lib.hid (AA.out.below hb4 AA.out.lt)
    have P4 := Lib.hid ho4
    have l4 : 0 < rs.length → g4 < w4.heap.size := fun hp => (ho4 hp).2.lt
    have L4 := Lib.hid l4
    have z4 : w3.heap.size < w4.heap.size := X4.lt
    simp only [World.size_alloc] at hg4
    clear hb4 ho4 l4 KK TT XX OO BB AA
    have Y4 := Box.new w4 29 #[.int .i64 m, .slice A4 rs.length c4]
    have KK := Lib.hid (K4.alloc (.cells #[.int .i64 m, .slice A4 rs.length c4] 29))
    have TT := Lib.hid (T4.alloc (.cells #[.int .i64 m, .slice A4 rs.length c4] 29))
    have XX := Lib.hid (X4.alloc (.cells #[.int .i64 m, .slice A4 rs.length c4] 29))
    have YY := Lib.hid Y4
    have OO := Lib.hid (O4.out.alloc (.cells #[.int .i64 m, .slice A4 rs.length c4] 29))
    have PP := Lib.hid (P4.out.alloc (.cells #[.int .i64 m, .slice A4 rs.length c4] 29))
    have BB := Lib.hid (B4.out.alloc (Nat.le_of_lt K4.lt) (.cells #[.int .i64 m, .slice A4 rs.length c4] 29))
    have AA := Lib.hid (A4'.out.below ((Below.refl w4.heap.size w4).alloc (Nat.le_refl _) (.cells #[.int .i64 m, .slice A4 rs.length c4] 29)) A4'.out.lt)
    obtain ⟨zt4, t40, t41, _, _⟩ := T4.two
    clear K4 T4 X4 Y4 O4 P4 B4 A4'
    go_wp2_with fail
    -- both answers are equal
    refine (eqGraph_same m A4 A2 rs _ _ _ hrs PP.out.sl OO.out.sl).mono ?_
    rintro e w5 ⟨rfl, hb5⟩
    have K5 := KK.out.below hb5 KK.out.lt
    have X5 := XX.out.below hb5 XX.out.lt
    have T5 := Lib.hid (TT.out.below hb5 TT.out.lt)
    have Y5 := Lib.hid (YY.out.below hb5 YY.out.lt)
    have O5 := Lib.hid (OO.out.below hb5)
    have P5 := Lib.hid (PP.out.below hb5)
    have B5 := Lib.hid (BB.out.trans (hb5.mono (Nat.le_of_lt KK.out.lt)))
    have A5 := Lib.hid (AA.out.below hb5 AA.out.lt)
    have z5 : w4.heap.size < w5.heap.size := Y5.out.lt
    clear hb5 KK XX TT YY OO PP BB AA t40 t41
    obtain ⟨zk5, k50, k51, _, _⟩ := K5.two
    obtain ⟨zx5, x50, x51, _, _⟩ := X5.two
    go_wp2_with fail
    -- the argument is as it was
    go_region_with (first
      | (go_at_call 17; refine (toGraph_any n A ls c _ hm ((H1.out.below B5.out.drew).more (Nat.le_of_lt zk5))).mono ?_; rintro e w6 ⟨g6, rfl, hg6, harr6, hb6⟩; have K6 := Lib.hid (Box.below (w := w5.drew) K5 hb6 K5.lt); have X6 := Box.below (w := w5.drew) X5 hb6 X5.lt; have T6 := Lib.hid (Box.below (w := w5.drew) T5.out hb6 T5.out.lt); have Y6 := Lib.hid (Box.below (w := w5.drew) Y5.out hb6 Y5.out.lt); have O6 := Lib.hid (Own1.below (w := w5.drew) O5.out hb6); have P6 := Lib.hid (Own1.below (w := w5.drew) P5.out hb6); have B6 := Lib.hid (B5.out.drew.trans (hb6.mono (Nat.le_of_lt zk5))); have A6 := Lib.hid (A5.out.below (w := w5.drew) hb6 A5.out.lt); have Z6 := Lib.hid (harr6.sl harr6.lt); have s6 : w5.heap.size ≤ w6.heap.size := hb6.size; clear hb6 harr6 hg6; obtain ⟨zx6, x60, x61, _, _⟩ := X6.two)
      | (go_at_call 19; refine (eqGraph_same n _ _ ls _ _ _ hm (A6.out.sl A6.out.lt) Z6.out).mono ?_; rintro e w7 ⟨rfl, hb7⟩; have K7 := Lib.hid (K6.out.below hb7 K6.out.lt); have X7 := X6.below hb7 X6.lt; have T7 := Lib.hid (T6.out.below hb7 T6.out.lt); have Y7 := Lib.hid (Y6.out.below hb7 Y6.out.lt); have O7 := Lib.hid (O6.out.below hb7); have P7 := Lib.hid (P6.out.below hb7); have B7 := Lib.hid (B6.out.trans (hb7.mono (Nat.le_of_lt K6.out.lt))); have A7 := Lib.hid (A6.out.below hb7 A6.out.lt); have s7 : w5.heap.size ≤ w7.heap.size := Nat.le_trans s6 hb7.size; clear hb7))
    all_goals
      clear K5 X5 T5 Y5 O5 P5 B5 A5 k50 k51 x50 x51 K6 X6 T6 Y6 O6 P6 B6 A6 Z6 x60 x61
      obtain ⟨zx7, x70, x71, _, _⟩ := X7.two
      go_wp2_with fail
      -- marks into the argument
      refine (markGraph_any n _ g3 ls _ 1 _ hm (by omega) (by omega) (fun _ => ⟨rfl, A7.out⟩)).mono ?_
      rintro e w8 ⟨rfl, _, hg8⟩
      have g3' := G3.out
      have K8 := Lib.hid (K7.out.grown hg8 (by omega))
      have T8 := T7.out.grown hg8 (by omega)
      have Y8 := Y7.out.grown hg8 (by omega)
      have O8 := Lib.hid (O7.out.grownC hg8 (fun hp => by have := L2.out hp; omega))
      have P8 := Lib.hid (P7.out.grownC hg8 (fun hp => by omega))
      have B8 := Lib.hid (B7.out.grown hg8 (Nat.le_of_lt K7.out.lt) (fun k e => by cases e; omega))
      have s8 : w4.heap.size < w8.heap.size := Y8.lt
      clear K7 X7 T7 Y7 O7 P7 B7 A7 hg8 x70 x71 s7 s6 zx7
      obtain ⟨zt8, t80, t81, _, _⟩ := T8.two
      obtain ⟨zy8, y80, y81, _, _⟩ := Y8.two
      go_wp2_with fail
      refine (eqGraph_same m A4 A2 rs _ _ _ hrs P8.out.sl O8.out.sl).mono ?_
      rintro e w9 ⟨rfl, hb9⟩
      have K9 := Lib.hid (K8.out.below hb9 K8.out.lt)
      have T9 := Lib.hid (T8.below hb9 T8.lt)
      have Y9 := Y8.below hb9 Y8.lt
      have O9 := Lib.hid (O8.out.below hb9)
      have P9 := Lib.hid (P8.out.below hb9)
      have B9 := Lib.hid (B8.out.trans (hb9.mono (Nat.le_of_lt K8.out.lt)))
      have s9 : w4.heap.size < w9.heap.size := Y9.lt
      clear K8 T8 Y8 O8 P8 B8 hb9 t80 t81 y80 y81 zt8 zy8 s8
      obtain ⟨g5, Q9, hq⟩ := P9.out.fresh
      have hgr : (0 < rs.length → g4 < w4.heap.size ∧ g2 < w2.heap.size) ∧ w3.heap.size + 1 ≤ g5 ∧ g5 ≠ w4.heap.size := by
        rcases hq with ⟨hp, rfl⟩ | rfl
        · exact ⟨fun h => ⟨L4.out h, L2.out h⟩, hg4, by have := L4.out hp; omega⟩
        · exact ⟨fun h => ⟨L4.out h, L2.out h⟩, by omega, by omega⟩
      obtain ⟨hgr0, hgr1, hgr2⟩ := hgr
      have QQ := Lib.hid Q9
      clear hq Q9
      obtain ⟨zy9, y90, y91, _, _⟩ := Y9.two
      go_wp2_with fail
      -- marks into the answer
      refine (markGraph_any m A4 g5 rs _ 1 _ hrs (by omega) (by omega) QQ.out).mono ?_
      rintro e w10 ⟨rfl, hm10, hg10⟩
      have K10 := Lib.hid (K9.out.grown hg10 (by omega))
      have T10 := Lib.hid (T9.out.grown hg10 (by omega))
      have Y10 := Y9.grown hg10 (by omega)
      have O10 := Lib.hid (O9.out.grownC hg10 (fun hp => by have := (hgr0 hp).2; omega))
      have B10 := Lib.hid (B9.out.grown hg10 (Nat.le_of_lt K9.out.lt) (fun k e => by cases e; omega))
      have M10 := Lib.hid hm10
      clear K9 T9 Y9 O9 P9 B9 QQ hg10 hm10 y90 y91 zy9 s9
      obtain ⟨zy10, y100, y101, _, _⟩ := Y10.two
      go_wp2_with fail
      refine (heldGraph_any m A4 g5 rs.length _ 1 _ hrs (by omega) (by omega) M10.out).mono ?_
      rintro e w11 ⟨rfl, hb11⟩
      have K11 := K10.out.below hb11 K10.out.lt
      have T11 := Lib.hid (T10.out.below hb11 T10.out.lt)
      have Y11 := Lib.hid (Y10.below hb11 Y10.lt)
      have O11 := Lib.hid (O10.out.below hb11)
      have M11 := Lib.hid (M10.out.below hb11)
      have B11 := Lib.hid (B10.out.trans (hb11.mono (Nat.le_of_lt K10.out.lt)))
      clear K10 T10 Y10 O10 M10 B10 hb11 y100 y101 zy10
      obtain ⟨zk11, k110, k111, _, _⟩ := K11.two
      go_wp2_with fail
      -- a second call
      refine (toGraph_any n A ls c _ hm ((H1.out.below B11.out).more (Nat.le_of_lt zk11))).mono ?_
      rintro e w12 ⟨g12, rfl, hg12, harr12, hb12⟩
      have K12 := Lib.hid (K11.below hb12 zk11)
      have T12 := Lib.hid (T11.out.below hb12 T11.out.lt)
      have Y12 := Lib.hid (Y11.out.below hb12 Y11.out.lt)
      have O12 := Lib.hid (O11.out.below hb12)
      have M12 := Lib.hid (M11.out.below hb12)
      have B12 := Lib.hid (B11.out.trans (hb12.mono (Nat.le_of_lt zk11)))
      have R12 := Lib.hid (harr12.sl harr12.lt)
      clear K11 T11 Y11 O11 M11 B11 hb12 harr12 k110 k111 zk11 hg12
      go_wp2_with fail
      refine (CI g12 _ _ R12.out).mono ?_
      rintro e w13 ⟨A13, g13, c13, rfl, hg13, ho13, hb13⟩
      have T13 := T12.out.below hb13 T12.out.lt
      have Y13 := Lib.hid (Y12.out.below hb13 Y12.out.lt)
      have O13 := Lib.hid (O12.out.below hb13)
      have M13 := Lib.hid (M12.out.below hb13)
      have B13 := Lib.hid (B12.out.trans (hb13.mono (Nat.le_of_lt K12.out.lt)))
      have zk13 : w.heap.size < w13.heap.size := Nat.lt_of_lt_of_le K12.out.lt hb13.size
      have OO := Lib.hid (O13.out.alloc (.cells #[.int .i64 m, .slice A13 rs.length c13] 29))
      have PP := Lib.hid (Own1.alloc ho13 (.cells #[.int .i64 m, .slice A13 rs.length c13] 29))
      have MM := Lib.hid (M13.out.alloc (.cells #[.int .i64 m, .slice A13 rs.length c13] 29))
      have YY := Lib.hid (Y13.out.alloc (.cells #[.int .i64 m, .slice A13 rs.length c13] 29))
      have BB := Lib.hid (B13.out.alloc (Nat.le_of_lt zk13) (.cells #[.int .i64 m, .slice A13 rs.length c13] 29))
      clear K12 T12 Y12 O12 M12 B12 R12 hb13 ho13 hg13 Y13 O13 M13 B13
      obtain ⟨zt13, t130, t131, _, _⟩ := T13.two
      go_wp2_with fail
      refine (eqGraph_same m A13 A2 rs _ _ _ hrs PP.out.sl OO.out.sl).mono ?_
      rintro e w14 ⟨rfl, hb14⟩
      have Y14 := YY.out.below hb14 YY.out.lt
      have M14 := Lib.hid (MM.out.below hb14)
      have B14 := Lib.hid (BB.out.trans (hb14.mono (by simp; omega)))
      have zk14 : w.heap.size < w14.heap.size := Nat.lt_of_lt_of_le zk13 (by have := hb14.size; simp at this; omega)
      clear YY MM BB OO PP hb14 t130 t131 zt13
      obtain ⟨zy14, y140, y141, _, _⟩ := Y14.two
      go_wp2_with fail
      refine (heldGraph_any m A4 g5 rs.length _ 1 _ hrs (by omega) (by omega) M14.out).mono ?_
      rintro e w15 ⟨rfl, hb15⟩
      have B15 := Lib.hid (B14.out.trans (hb15.mono (Nat.le_of_lt zk14)))
      clear hb15 y140 y141
      go_wp2_with fail
      go_ret
      exact ⟨rfl, B15.out⟩
  · go_enter Try.func8, Try.ntmps8
    go_wp2
    go_ret
    exact ⟨rfl, by (repeat (first | exact Below.refl _ _ | (refine Below.alloc ?_ (by first | exact Nat.le_refl _ | omega | (simp; done) | (simp; omega)) _) | (refine Below.setCell ?_ (by first | exact Nat.le_refl _ | omega | (simp; done) | (simp; omega)) _) | exact Below.drew ‹_›))⟩

end Go.Proofs.Ytbogpcnjniadfaa
