/-
  The walk of FnTableAddFull over this seat.
-/
import Derived.Test.YtohflcbpjjnccaaTs
import Derived.Test.YtohflcbpjjnccaaTk
import Derived.Test.YtohflcbpjjnccaaTm
import Derived.Test.YtohflcbpjjnccaaWu
import Derived.Test.YtohflcbpjjnccaaC1
namespace Go.Proofs.Ytohflcbpjjnccaa
open Go.RowKit Go.Maps

set_option maxRecDepth 100000 in
set_option maxHeartbeats 1600000 in
theorem fnTableAddFull_walk (A : Option Addr) (len c : Nat) (f : Nat → Int) (w : World) (hlc : len ≤ c) (hc : c ≤ maxLen) (hB : Byt w w.heap.size A len f) :
   Calls Try.prog 5 #[.slice A len c] w fun e w' => e = .returned (.bool true) ∧ Below w.heap.size w w' := by
  have HB := Lib.hid hB
  clear hB
  by_cases hl : len ≤ 1048576
  · go_enter Try.func5, Try.ntmps5
    go_wp2_with fail
    refine (drawTA_any A len c f w hlc hc HB.out).mono ?_
    rintro e w1 ⟨rs, hs, g, cr, gh, d, x, rfl, hD, hxa, hxb, hxc⟩
    have hr31 := hD.hr
    have hh4 := hD.hh
    have hcr := hD.hc
    have hb1 : Below w1.heap.size w1 ((w1.alloc (.cells #[.slice (some ⟨g, 0, none⟩) rs.length cr, .slice (some ⟨gh, 0, none⟩) hs.length d] 26)).alloc (.cells #[.int .i64 x.a, .int .i64 x.b, .int .i64 x.c] 28)) := by (repeat (first | exact Below.refl _ _ | (refine Below.alloc ?_ (by first | exact Nat.le_refl _ | omega | (simp; done) | (simp; omega)) _) | (refine Below.setCell ?_ (by first | exact Nat.le_refl _ | omega | (simp; done) | (simp; omega)) _) | exact Below.drew ‹_›))
    have D1 := Lib.hid (hD.call hb1)
    have T1 := Lib.hid ((Box.new w1 26 #[.slice (some ⟨g, 0, none⟩) rs.length cr, .slice (some ⟨gh, 0, none⟩) hs.length d]).alloc (.cells #[.int .i64 x.a, .int .i64 x.b, .int .i64 x.c] 28))
    have x1 := Box.new (w1.alloc (.cells #[.slice (some ⟨g, 0, none⟩) rs.length cr, .slice (some ⟨gh, 0, none⟩) hs.length d] 26)) 28 #[.int .i64 x.a, .int .i64 x.b, .int .i64 x.c]
    rw [World.size_alloc] at x1
    have X1 := Lib.hid x1
    have CI := fun W (h : DT w rs hs g cr gh d W) => tableAdd_impl g 0 rs cr gh 0 hs d x W (by omega) (by omega) hcr h.sl h.sli
    have CS := fun W (h : DT w rs hs g cr gh d W) => tableAdd_spec g 0 rs cr gh 0 hs d x W (by omega) (by omega) hcr h.sl h.sli
    have hul : (addR rs hs x).length ≤ 32 := by
      have := insR_len (r := x) (rs := rs)
      unfold addR
      split
      · split <;> omega
      · simp
    have hvl : (addH rs hs x).length ≤ 4 := by
      unfold addH
      split
      · exact hh4
      · simp
    have HADD := Lib.hid (show addB rs hs x = true → addR rs hs x = insR x rs ∧ addH rs hs x = hs from add_yes)
    clear hD hb1 HB x1
    unfold AddRes at CI CS
    generalize hUS : addR rs hs x = us at *
    generalize hVS : addH rs hs x = vs at *
    have HUS := Lib.hid hUS
    have HVS := Lib.hid hVS
    clear hUS hVS
    obtain ⟨xa, xb, xc⟩ := x
    dsimp only [rtV] at *
    go_wp2_with fail
    generalize w1.heap.size = G at *
    generalize (w1.alloc (.cells #[.slice (some ⟨g, 0, none⟩) rs.length cr, .slice (some ⟨gh, 0, none⟩) hs.length d] 26)).alloc (.cells #[.int .i64 xa, .int .i64 xb, .int .i64 xc] 28) = V1 at *
    refine (CI _ D1.out).mono ?_
    rintro e w2 ⟨v2, rfl, A2, c2, g2, B2, d2, h2, rfl, -, -, ho2, hn2, hb2, hc2, hd2, -⟩
    have hb3 := hb2.alloc hb2.size (.cells #[.slice A2 us.length c2, .slice B2 vs.length d2] 26)
    have D2 := Lib.hid (D1.out.call hb3)
    have T2 := Lib.hid (T1.out.below hb3 T1.out.lt)
    have X2 := Lib.hid (X1.out.below hb3 X1.out.lt)
    have O2 := Lib.hid (ho2.alloc (.cells #[.slice A2 us.length c2, .slice B2 vs.length d2] 26))
    have N2 := Lib.hid (hn2.alloc (.cells #[.slice A2 us.length c2, .slice B2 vs.length d2] 26))
    have P2 := Lib.hid (Box.new w2 26 #[.slice A2 us.length c2, .slice B2 vs.length d2])
    clear ho2 hn2 hb2 hb3 D1 T1 X1
    obtain ⟨zt, t0, t1, -, -⟩ := T2.out.two
    obtain ⟨zx, y0, y1, y2⟩ := box_tri X2.out
    go_wp2_with fail
    generalize w2.heap.size = X at *
    generalize w2.alloc (.cells #[.slice A2 us.length c2, .slice B2 vs.length d2] 26) = V2 at *
    refine (CS _ D2.out).mono ?_
    clear CS
    rintro e w3 ⟨v3, rfl, A3, c3, g3, B3, d3, h3, rfl, -, -, ho3, hn3, hb4, -, -, -⟩
    have hb5 := hb4.alloc hb4.size (.cells #[.slice A3 us.length c3, .slice B3 vs.length d3] 26)
    have D3 := Lib.hid (D2.out.call hb5)
    have T3 := Lib.hid (T2.out.below hb5 T2.out.lt)
    have X3 := Lib.hid (X2.out.below hb5 X2.out.lt)
    have O3 := Lib.hid (O2.out.below hb5)
    have N3 := Lib.hid (N2.out.below hb5)
    have P3 := Lib.hid (P2.out.below hb5 P2.out.lt)
    have O4 := Lib.hid (ho3.alloc (.cells #[.slice A3 us.length c3, .slice B3 vs.length d3] 26))
    have N4 := Lib.hid (hn3.alloc (.cells #[.slice A3 us.length c3, .slice B3 vs.length d3] 26))
    have Q3 := Lib.hid (Box.new w3 26 #[.slice A3 us.length c3, .slice B3 vs.length d3])
    clear ho3 hn3 hb4 hb5 D2 T2 X2 O2 N2 P2 zt t0 t1 zx y0 y1 y2
    obtain ⟨zp, p0, p1, -, -⟩ := P3.out.two
    obtain ⟨zq, q0, q1, -, -⟩ := Q3.out.two
    have CSAME := fun W (h1 : Sl W W.heap.size A2 us) (h2 : Sl W W.heap.size A3 us) (h3 : Sli W W.heap.size B2 vs) (h4 : Sli W W.heap.size B3 vs) => sameTable_same A2 A3 B2 B3 us vs c2 c3 d2 d3 W (by omega) (by omega) h1 h2 h3 h4
    cases hok : addB rs hs ⟨xa, xb, xc⟩ with
    | false =>
      clear CI HADD
      go_wp2_with fail
      generalize w3.heap.size = Y at *
      generalize w3.alloc (.cells #[.slice A3 us.length c3, .slice B3 vs.length d3] 26) = V3 at *
      refine (CSAME _ O3.out.sl O4.out.sl N3.out.sli N4.out.sli).mono ?_
      rintro e w4 ⟨rfl, hb6⟩
      have HUS2 := HUS.out
      have HVS2 := HVS.out
      have HFL := Lib.hid (show us ≠ [] → us = rs ∧ vs = hs ∧ rs.length = 10 ∧ ∀ x ∈ rs, sameR x ⟨xa, xb, xc⟩ = false from fun hne => by
        obtain ⟨e1, e2, e3, e4⟩ := full_law hok (by rw [HUS2]; exact hne)
        exact ⟨HUS2.symm.trans e1, HVS2.symm.trans e2, e3, e4⟩)
      clear HUS2 HVS2 HUS HVS hok
      have D4 := Lib.hid (D3.out.call hb6)
      have O5 := Lib.hid (O3.out.below hb6)
      have N5 := Lib.hid (N3.out.below hb6)
      have O6 := Lib.hid (O4.out.below hb6)
      have N6 := Lib.hid (N4.out.below hb6)
      have P4 := Lib.hid (P3.out.below hb6 P3.out.lt)
      have Q4 := Lib.hid (Q3.out.below hb6 Q3.out.lt)
      have T4 := Lib.hid (T3.out.below hb6 T3.out.lt)
      have X4 := Lib.hid (X3.out.below hb6 X3.out.lt)
      clear hb6 D3 T3 X3 O3 N3 O4 N4 P3 Q3 zp p0 p1 zq q0 q1
      obtain ⟨zp, p0, p1, -, -⟩ := P4.out.two
      obtain ⟨zq, q0, q1, -, -⟩ := Q4.out.two
      by_cases hue : us = []
      · subst hue
        clear HFL
        simp only [List.length_nil] at *
        go_wp2_with fail
        refine (CSAME _ O5.out.sl O6.out.sl N5.out.sli N6.out.sli).mono ?_
        clear CSAME
        rintro e w5 ⟨rfl, hb7⟩
        have B5 := Lib.hid (D4.out.bel.trans (hb7.mono D4.out.bel.size))
        clear hb7 zp p0 p1 zq q0 q1
        go_wp2_with fail
        go_ret
        exact ⟨rfl, B5.out⟩
      · obtain ⟨e1, e2, hten, hall⟩ := HFL.out hue
        subst e1
        subst e2
        have HALL := Lib.hid hall
        have HTEN := Lib.hid hten
        have hn1 : ((us.length : Int) == 0) = false := by simp; omega
        have hn2 : decide (us.length = 0) = false := by simp; omega
        have hn3 : ¬ us = [] := hue
        clear hue hten hall HFL CSAME
        go_wp2_with fail
        clear hn1 hn2 hn3 zp p0 p1 zq q0 q1
        go_loopw [9] (fun i wr => ∃ k : Nat, k ≤ us.length ∧ i = .int .i64 (k : Int) ∧ Hid (DT w us vs g cr gh d wr) ∧ Hid (OwT wr A2 g2 us) ∧ Hid (Own1i wr B2 h2 vs) ∧ Hid (Box wr G 26 #[.slice (some ⟨g, 0, none⟩) us.length cr, .slice (some ⟨gh, 0, none⟩) vs.length d]) ∧ Hid (Box wr (G + 1) 28 #[.int .i64 xa, .int .i64 xb, .int .i64 xc]) ∧ Hid (Box wr X 26 #[.slice A2 us.length c2, .slice B2 vs.length d2])) (fun i _ => us.length - (intOf i).toNat)
        case atStart => exact ⟨0, Nat.zero_le _, rfl, D4, O5, N5, T4, X4, P4⟩
        case round =>
          obtain ⟨k, hk, rfl, D5, O7, N7, T5, X5, P5⟩ := hrel
          clear D4 O5 N5 T4 X4 P4 Q4 O6 N6
          obtain ⟨zt, t0, t1, -, -⟩ := T5.out.two
          obtain ⟨zx, y0, y1, y2⟩ := box_tri X5.out
          by_cases hlt : k < us.length
          · obtain ⟨x, hx⟩ : ∃ x, us[k]? = some x := ⟨_, List.getElem?_eq_getElem hlt⟩
            have hsx := HALL.out x (List.mem_of_getElem? hx)
            obtain ⟨bb, o, e1, zb, c0, c1, -⟩ := D5.out.sl k x hx
            cases e1
            obtain ⟨ya, yb, yc⟩ := x
            dsimp only at c0 c1
            have hX := fun (y : Ext wr) (bb o : Nat) (h : bb < wr.heap.size) => y.cell bb o h
            simp only [Nat.zero_add] at c0 c1
            have hpart : ¬ ya = xa ∨ (ya = xa ∧ ¬ yb = xb) := by
              by_cases e1 : ya = xa
              · refine .inr ⟨e1, fun e2 => ?_⟩
                rw [sameR_iff.2 ⟨e1, e2⟩] at hsx
                cases hsx
              · exact .inl e1
            have hki : (k : Int) < (us.length : Int) := by omega
            clear hx hsx
            rcases hpart with hpa | ⟨hpa, hpb⟩
            · have g1 : (ya == xa) = false := beq_eq_false_iff_ne.2 hpa
              clear hpa
              go_wp2_with fail
              refine wp_region_ext (by kernel_rfl) (by kernel_rfl) ?_
              repeat (go_big_quiet_step (fail))
              (refine wpQuiet_nil ?_); (rintro _ ⟨X, rfl⟩); (have hw1 := X.below); (generalize X.w = w1 at *); (clear X)
              have D6 := Lib.hid (D5.out.call hw1)
              have O8 := Lib.hid (O7.out.below hw1)
              have N8 := Lib.hid (N7.out.below hw1)
              have T6 := Lib.hid (T5.out.below hw1 T5.out.lt)
              have X6 := Lib.hid (X5.out.below hw1 X5.out.lt)
              have P6 := Lib.hid (P5.out.below hw1 P5.out.lt)
              clear hX hw1 zt t0 t1 zx y0 y1 y2 c0 c1 zb
              go_wp2_with fail
              go_roundw
              case rel => exact ⟨k + 1, hlt, by go_num, D6, O8, N8, T6, X6, P6⟩
              case measure => simp [intOf]; omega
            · have g1 : (ya == xa) = true := beq_iff_eq.2 hpa
              have g2 : (yb == xb) = false := beq_eq_false_iff_ne.2 hpb
              clear hpa hpb
              go_wp2_with fail
              refine wp_region_ext (by kernel_rfl) (by kernel_rfl) ?_
              repeat (go_big_quiet_step (fail))
              (refine wpQuiet_nil ?_); (rintro _ ⟨X, rfl⟩); (have hw1 := X.below); (generalize X.w = w1 at *); (clear X)
              have D6 := Lib.hid (D5.out.call hw1)
              have O8 := Lib.hid (O7.out.below hw1)
              have N8 := Lib.hid (N7.out.below hw1)
              have T6 := Lib.hid (T5.out.below hw1 T5.out.lt)
              have X6 := Lib.hid (X5.out.below hw1 X5.out.lt)
              have P6 := Lib.hid (P5.out.below hw1 P5.out.lt)
              clear hX hw1 zt t0 t1 zx y0 y1 y2 c0 c1 zb
              go_wp2_with fail
              go_roundw
              case rel => exact ⟨k + 1, hlt, by go_num, D6, O8, N8, T6, X6, P6⟩
              case measure => simp [intOf]; omega
          · obtain rfl : k = us.length := by omega
            have hge : ¬ ((us.length : Int) < (us.length : Int)) := by omega
            obtain ⟨zp, p0, p1, -, -⟩ := P5.out.two
            have hten := HTEN.out
            have hn1 : ((us.length : Int) == 10) = true := by simp; omega
            have hn2 : decide (us.length = 10) = true := by simp; omega
            clear hten
            have CF := sameTable_same A2 (some ⟨g, 0, none⟩) B2 (some ⟨gh, 0, none⟩) us vs c2 cr d2 d wr (by omega) (by omega) O7.out.sl D5.out.sl N7.out.sli D5.out.sli
            go_wp2_with fail
            refine CF.mono ?_
            clear CF
            rintro e w6 ⟨rfl, hb8⟩
            have B6 := Lib.hid (D5.out.bel.trans (hb8.mono D5.out.bel.size))
            clear hb8 zt t0 t1 zx y0 y1 y2 zp p0 p1
            go_wp2_with fail
            go_ret
            exact ⟨rfl, B6.out⟩
    | true =>
      obtain ⟨e1, e2⟩ := HADD.out hok
      subst e1
      have e2 := e2.symm
      subst e2
      have HOK := Lib.hid hok
      clear hok HADD HUS HVS
      go_wp2_with fail
      generalize w3.heap.size = Y at *
      generalize w3.alloc (.cells #[.slice A3 (insR ⟨xa, xb, xc⟩ rs).length c3, .slice B3 hs.length d3] 26) = V3 at *
      refine (CSAME _ O3.out.sl O4.out.sl N3.out.sli N4.out.sli).mono ?_
      rintro e w4 ⟨rfl, hb6⟩
      have D4 := Lib.hid (D3.out.call hb6)
      have O5 := Lib.hid (O3.out.below hb6)
      have N5 := Lib.hid (N3.out.below hb6)
      have O6 := Lib.hid (O4.out.below hb6)
      have N6 := Lib.hid (N4.out.below hb6)
      have P4 := Lib.hid (P3.out.below hb6 P3.out.lt)
      have Q4 := Lib.hid (Q3.out.below hb6 Q3.out.lt)
      clear hb6 D3 T3 X3 O3 N3 O4 N4 P3 Q3 zp p0 p1 zq q0 q1
      obtain ⟨zp, p0, p1, -, -⟩ := P4.out.two
      obtain ⟨zq, q0, q1, -, -⟩ := Q4.out.two
      go_wp2_with fail
      refine (CSAME _ O5.out.sl O6.out.sl N5.out.sli N6.out.sli).mono ?_
      clear CSAME
      rintro e w5 ⟨rfl, hb7⟩
      have B5 := Lib.hid (D4.out.bel.trans (hb7.mono D4.out.bel.size))
      clear hb7 zp p0 p1 zq q0 q1
      go_wp2_with fail
      go_ret
      exact ⟨rfl, B5.out⟩
  · go_enter Try.func5, Try.ntmps5
    go_wp2_with fail
    go_ret
    exact ⟨rfl, Below.refl _ _⟩
end Go.Proofs.Ytohflcbpjjnccaa
