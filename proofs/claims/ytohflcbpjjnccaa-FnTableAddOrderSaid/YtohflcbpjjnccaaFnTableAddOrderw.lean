/-
  The walk of FnTableAddOrder over this seat.
-/
import Derived.Test.YtohflcbpjjnccaaTs
import Derived.Test.YtohflcbpjjnccaaTk
import Derived.Test.YtohflcbpjjnccaaTm
import Derived.Test.YtohflcbpjjnccaaWu
import Derived.Test.YtohflcbpjjnccaaC1
namespace Go.Proofs.Ytohflcbpjjnccaa
open Go.RowKit Go.Maps

theorem byt_in {w w' : World} {A : Option Addr} {len : Nat} {f : Nat → Int} (h : Byt w w.heap.size A len f) (hb : Below w.heap.size w w') : Byt w' w'.heap.size A len f := fun hl => by
  obtain ⟨b, off, e, hb', hc⟩ := (h.below hb) hl
  exact ⟨b, off, e, Nat.lt_of_lt_of_le hb' hb.size, hc⟩
set_option maxRecDepth 100000 in
set_option maxHeartbeats 1600000 in
theorem fnTableAddOrder_walk (A : Option Addr) (len c : Nat) (Am : Option Addr) (len' c' : Nat) (f f' : Nat → Int) (w : World) (hlc : len ≤ c) (hc : c ≤ maxLen) (hB : Byt w w.heap.size A len f) (_hlc' : len' ≤ c') (_hc' : c' ≤ maxLen) (_hB' : Byt w w.heap.size Am len' f') :
   Calls Try.prog 6 #[.slice A len c, .slice Am len' c'] w fun e w' => e = .returned (.bool true) ∧ Below w.heap.size w w' := by
  have HB := Lib.hid hB
  have HB2 := Lib.hid _hB'
  clear hB _hB'
  by_cases hl : len ≤ 1048576 ∧ len' ≤ 1048576
  · obtain ⟨hl, hl'⟩ := hl
    go_enter Try.func6, Try.ntmps6
    go_wp2_with fail
    refine (drawTA_any A len c f w hlc hc HB.out).mono ?_
    rintro e w1 ⟨rs, hs, g, cr, gh, d, x, rfl, hD, hxa, hxb, hxc⟩
    have hr31 := hD.hr
    have hh4 := hD.hh
    have hcr := hD.hc
    have hb1 : Below w1.heap.size w1 ((w1.alloc (.cells #[.slice (some ⟨g, 0, none⟩) rs.length cr, .slice (some ⟨gh, 0, none⟩) hs.length d] 26)).alloc (.cells #[.int .i64 x.a, .int .i64 x.b, .int .i64 x.c] 28)) := by (repeat (first | exact Below.refl _ _ | (refine Below.alloc ?_ (by first | exact Nat.le_refl _ | omega | (simp; done) | (simp; omega)) _) | (refine Below.setCell ?_ (by first | exact Nat.le_refl _ | omega | (simp; done) | (simp; omega)) _) | exact Below.drew ‹_›))
    have D1 := Lib.hid (hD.call hb1)
    have T1 := Lib.hid ((Box.new w1 26 #[.slice (some ⟨g, 0, none⟩) rs.length cr, .slice (some ⟨gh, 0, none⟩) hs.length d]).alloc (.cells #[.int .i64 x.a, .int .i64 x.b, .int .i64 x.c] 28))
    have x1 := Box.new (w1.alloc (.cells #[.slice (some ⟨g, 0, none⟩) rs.length cr, .slice (some ⟨gh, 0, none⟩) hs.length d] 26)) 28 #[.int .i64 x.a, .int .i64 x.b, .int .i64 x.c]
    rw [World.size_alloc] at x1
    have X1 := Lib.hid x1
    have CI := fun W (h : DT w rs hs g cr gh d W) => tableAdd_impl g 0 rs cr gh 0 hs d x W (by omega) (by omega) hcr h.sl h.sli
    have CS := fun W (h : DT w rs hs g cr gh d W) => tableAdd_spec g 0 rs cr gh 0 hs d x W (by omega) (by omega) hcr h.sl h.sli
    have hul : (addR rs hs x).length ≤ 32 := by
      have := insR_len (r := x) (rs := rs)
      unfold addR
      split
      · split <;> omega
      · simp
    have hvl : (addH rs hs x).length ≤ 4 := by
      unfold addH
      split
      · exact hh4
      · simp
    have HADD := Lib.hid (show addB rs hs x = true → addR rs hs x = insR x rs ∧ addH rs hs x = hs from add_yes)
    clear hD hb1 HB x1
    unfold AddRes at CI CS
    generalize hUS : addR rs hs x = us at *
    generalize hVS : addH rs hs x = vs at *
    have HUS := Lib.hid hUS
    have HVS := Lib.hid hVS
    clear hUS hVS
    obtain ⟨xa, xb, xc⟩ := x
    dsimp only [rtV] at *
    go_wp2_with fail
    generalize w1.heap.size = G at *
    generalize (w1.alloc (.cells #[.slice (some ⟨g, 0, none⟩) rs.length cr, .slice (some ⟨gh, 0, none⟩) hs.length d] 26)).alloc (.cells #[.int .i64 xa, .int .i64 xb, .int .i64 xc] 28) = V1 at *
    refine (CI _ D1.out).mono ?_
    rintro e w2 ⟨v2, rfl, A2, c2, g2, B2, d2, h2, rfl, -, -, ho2, hn2, hb2, hc2, hd2, -⟩
    have hb3 := hb2.alloc hb2.size (.cells #[.slice A2 us.length c2, .slice B2 vs.length d2] 26)
    have D2 := Lib.hid (D1.out.call hb3)
    have T2 := Lib.hid (T1.out.below hb3 T1.out.lt)
    have X2 := Lib.hid (X1.out.below hb3 X1.out.lt)
    have O2 := Lib.hid (ho2.alloc (.cells #[.slice A2 us.length c2, .slice B2 vs.length d2] 26))
    have N2 := Lib.hid (hn2.alloc (.cells #[.slice A2 us.length c2, .slice B2 vs.length d2] 26))
    have P2 := Lib.hid (Box.new w2 26 #[.slice A2 us.length c2, .slice B2 vs.length d2])
    clear ho2 hn2 hb2 hb3 D1 T1 X1
    obtain ⟨zt, t0, t1, -, -⟩ := T2.out.two
    obtain ⟨zx, y0, y1, y2⟩ := box_tri X2.out
    go_wp2_with fail
    generalize w2.heap.size = X at *
    generalize w2.alloc (.cells #[.slice A2 us.length c2, .slice B2 vs.length d2] 26) = V2 at *
    refine (CS _ D2.out).mono ?_
    clear CS
    rintro e w3 ⟨v3, rfl, A3, c3, g3, B3, d3, h3, rfl, -, -, ho3, hn3, hb4, -, -, -⟩
    have hb5 := hb4.alloc hb4.size (.cells #[.slice A3 us.length c3, .slice B3 vs.length d3] 26)
    have D3 := Lib.hid (D2.out.call hb5)
    have T3 := Lib.hid (T2.out.below hb5 T2.out.lt)
    have X3 := Lib.hid (X2.out.below hb5 X2.out.lt)
    have O3 := Lib.hid (O2.out.below hb5)
    have N3 := Lib.hid (N2.out.below hb5)
    have P3 := Lib.hid (P2.out.below hb5 P2.out.lt)
    have O4 := Lib.hid (ho3.alloc (.cells #[.slice A3 us.length c3, .slice B3 vs.length d3] 26))
    have N4 := Lib.hid (hn3.alloc (.cells #[.slice A3 us.length c3, .slice B3 vs.length d3] 26))
    have Q3 := Lib.hid (Box.new w3 26 #[.slice A3 us.length c3, .slice B3 vs.length d3])
    clear ho3 hn3 hb4 hb5 D2 T2 X2 O2 N2 P2 zt t0 t1 zx y0 y1 y2
    obtain ⟨zp, p0, p1, -, -⟩ := P3.out.two
    obtain ⟨zq, q0, q1, -, -⟩ := Q3.out.two
    have CSAME := fun W (h1 : Sl W W.heap.size A2 us) (h2 : Sl W W.heap.size A3 us) (h3 : Sli W W.heap.size B2 vs) (h4 : Sli W W.heap.size B3 vs) => sameTable_same A2 A3 B2 B3 us vs c2 c3 d2 d3 W (by omega) (by omega) h1 h2 h3 h4
    cases hok : addB rs hs ⟨xa, xb, xc⟩ with
    | false =>
      clear CI HADD
      go_wp2_with fail
      generalize w3.heap.size = Y at *
      generalize w3.alloc (.cells #[.slice A3 us.length c3, .slice B3 vs.length d3] 26) = V3 at *
      refine (CSAME _ O3.out.sl O4.out.sl N3.out.sli N4.out.sli).mono ?_
      rintro e w4 ⟨rfl, hb6⟩
      have D4 := Lib.hid (D3.out.call hb6)
      have O5 := Lib.hid (O3.out.below hb6)
      have N5 := Lib.hid (N3.out.below hb6)
      have O6 := Lib.hid (O4.out.below hb6)
      have N6 := Lib.hid (N4.out.below hb6)
      have P4 := Lib.hid (P3.out.below hb6 P3.out.lt)
      have Q4 := Lib.hid (Q3.out.below hb6 Q3.out.lt)
      clear hb6 D3 T3 X3 O3 N3 O4 N4 P3 Q3 zp p0 p1 zq q0 q1
      obtain ⟨zp, p0, p1, -, -⟩ := P4.out.two
      obtain ⟨zq, q0, q1, -, -⟩ := Q4.out.two
      go_wp2_with fail
      refine (CSAME _ O5.out.sl O6.out.sl N5.out.sli N6.out.sli).mono ?_
      clear CSAME
      rintro e w5 ⟨rfl, hb7⟩
      have B5 := Lib.hid (D4.out.bel.trans (hb7.mono D4.out.bel.size))
      clear hb7 zp p0 p1 zq q0 q1
      go_wp2_with fail
      go_ret
      exact ⟨rfl, B5.out⟩
    | true =>
      obtain ⟨e1, e2⟩ := HADD.out hok
      subst e1
      have e2 := e2.symm
      subst e2
      have HOK := Lib.hid hok
      clear hok HADD HUS HVS
      go_wp2_with fail
      generalize w3.heap.size = Y at *
      generalize w3.alloc (.cells #[.slice A3 (insR ⟨xa, xb, xc⟩ rs).length c3, .slice B3 hs.length d3] 26) = V3 at *
      refine (CSAME _ O3.out.sl O4.out.sl N3.out.sli N4.out.sli).mono ?_
      clear CSAME
      rintro e w4 ⟨rfl, hb6⟩
      have D4 := Lib.hid (D3.out.call hb6)
      have T4 := Lib.hid (T3.out.below hb6 T3.out.lt)
      have X4 := Lib.hid (X3.out.below hb6 X3.out.lt)
      have O5 := Lib.hid (O3.out.below hb6)
      have N5 := Lib.hid (N3.out.below hb6)
      have P4 := Lib.hid (P3.out.below hb6 P3.out.lt)
      clear hb6 D3 T3 X3 O3 N3 P3 O4 N4 Q3 zp p0 p1 zq q0 q1
      have CDR := drawTA_any Am len' c' f' w4 _hlc' _hc' (byt_in HB2.out D4.out.bel)
      obtain ⟨rfl, -⟩ := O5.out (by have := insR_pos ⟨xa, xb, xc⟩ rs; omega)
      have hsp : 0 < hs.length := hs_pos HOK.out
      obtain ⟨rfl, -⟩ := N5.out hsp
      clear CI HB2
      go_wp2_with fail
      refine CDR.mono ?_
      clear CDR
      rintro e w5 ⟨rs2, hs2, gq, cq, ghq, dq, u, rfl, hD2, -, -, -⟩
      have hb7 := hD2.bel
      have hb8 : Below w5.heap.size w5 ((w5.alloc (.cells #[.slice (some ⟨gq, 0, none⟩) rs2.length cq, .slice (some ⟨ghq, 0, none⟩) hs2.length dq] 26)).alloc (.cells #[.int .i64 u.a, .int .i64 u.b, .int .i64 u.c] 28)) := by (repeat (first | exact Below.refl _ _ | (refine Below.alloc ?_ (by first | exact Nat.le_refl _ | omega | (simp; done) | (simp; omega)) _) | (refine Below.setCell ?_ (by first | exact Nat.le_refl _ | omega | (simp; done) | (simp; omega)) _) | exact Below.drew ‹_›))
      have hb9 := hb7.trans (hb8.mono hb7.size)
      obtain ⟨zx, y0, y1, y2⟩ := box_tri (X4.out.below hb7 X4.out.lt)
      obtain ⟨zt, t0, t1, -, -⟩ := (T4.out.below hb7 T4.out.lt).two
      obtain ⟨zp, p0, p1, -, -⟩ := (P4.out.below hb7 P4.out.lt).two
      have D5 := Lib.hid (D4.out.call hb9)
      have X5 := Lib.hid (X4.out.below hb9 X4.out.lt)
      have T5 := Lib.hid (T4.out.below hb9 T4.out.lt)
      have P5 := Lib.hid (P4.out.below hb9 P4.out.lt)
      have O6 := Lib.hid (O5.out.below hb9)
      have N6 := Lib.hid (N5.out.below hb9)
      have u5 := Box.new (w5.alloc (.cells #[.slice (some ⟨gq, 0, none⟩) rs2.length cq, .slice (some ⟨ghq, 0, none⟩) hs2.length dq] 26)) 28 #[.int .i64 u.a, .int .i64 u.b, .int .i64 u.c]
      rw [World.size_alloc] at u5
      have U5 := Lib.hid u5
      clear hD2 hb7 hb8 hb9 u5 D4 X4 T4 P4 O5 N5
      obtain ⟨ua, ub, uc⟩ := u
      dsimp only at *
      have C1 := fun W (h : Sl W W.heap.size (some ⟨g2, 0, none⟩) (insR ⟨xa, xb, xc⟩ rs)) (h' : Sli W W.heap.size (some ⟨h2, 0, none⟩) hs) => tableAdd_impl g2 0 (insR ⟨xa, xb, xc⟩ rs) c2 h2 0 hs d2 ⟨ua, ub, uc⟩ W (by omega) (by omega) hc2 h h'
      have C2 := fun W (h : DT w rs hs g cr gh d W) => tableAdd_impl g 0 rs cr gh 0 hs d ⟨ua, ub, uc⟩ W (by omega) (by omega) hcr h.sl h.sli
      unfold AddRes at C1 C2
      dsimp only [rtV] at C1 C2
      have F1 := Lib.hid (show addB (insR ⟨xa, xb, xc⟩ rs) hs ⟨ua, ub, uc⟩ = true → _ ∧ _ from add_yes)
      have F2 := Lib.hid (show addB rs hs ⟨ua, ub, uc⟩ = true → _ ∧ _ from add_yes)
      have FO := Lib.hid (fun hn h1 h2 => order_law (u := ⟨ua, ub, uc⟩) HOK.out hn h1 h2)
      have hl6 : (addR (insR ⟨xa, xb, xc⟩ rs) hs ⟨ua, ub, uc⟩).length ≤ 40 := by
        have := insR_len (r := ⟨ua, ub, uc⟩) (rs := insR ⟨xa, xb, xc⟩ rs)
        unfold addR
        split
        · split <;> omega
        · simp
      have hl7 : (insR ⟨ua, ub, uc⟩ rs).length ≤ 40 := by
        have := insR_len (r := ⟨ua, ub, uc⟩) (rs := rs)
        omega
      generalize hU6 : addR (insR ⟨xa, xb, xc⟩ rs) hs ⟨ua, ub, uc⟩ = us6 at *
      generalize hV6 : addH (insR ⟨xa, xb, xc⟩ rs) hs ⟨ua, ub, uc⟩ = vs6 at *
      generalize hU7 : addR rs hs ⟨ua, ub, uc⟩ = us7 at *
      generalize hV7 : addH rs hs ⟨ua, ub, uc⟩ = vs7 at *
      generalize hB6 : addB (insR ⟨xa, xb, xc⟩ rs) hs ⟨ua, ub, uc⟩ = b6 at *
      generalize hB7 : addB rs hs ⟨ua, ub, uc⟩ = b7 at *
      clear hU6 hV6 hU7 hV7 hB6 hB7
      by_cases hsm : ua = xa ∧ ub = xb
      · obtain ⟨rfl, rfl⟩ := hsm
        go_wp2_with fail
        go_ret
        exact ⟨rfl, D5.out.bel⟩
      · have HN := Lib.hid (show sameR ⟨ua, ub, uc⟩ ⟨xa, xb, xc⟩ = false by
          cases h : sameR ⟨ua, ub, uc⟩ ⟨xa, xb, xc⟩ with
          | false => rfl
          | true => exact absurd (sameR_iff.1 h) hsm)
        have hpart : ua ≠ xa ∨ (ua = xa ∧ ub ≠ xb) := by omega
        clear hsm
        rcases hpart with hpa | ⟨hpa, hpb⟩
        · have hq1 : (ua == xa) = false := beq_eq_false_iff_ne.2 hpa
          clear hpa
          go_wp2_with fail
          clear zx y0 y1 y2 zt t0 t1 zp p0 p1
          generalize w5.heap.size = S5 at *
          generalize (w5.alloc (.cells #[.slice (some ⟨gq, 0, none⟩) rs2.length cq, .slice (some ⟨ghq, 0, none⟩) hs2.length dq] 26)).alloc (.cells #[.int .i64 ua, .int .i64 ub, .int .i64 uc] 28) = V5 at *
          refine (C1 _ O6.out.sl N6.out.sli).mono ?_
          clear C1
          rintro e w6 ⟨v6, rfl, A6, c6, g6, B6, d6, h6, rfl, -, -, ho6, hn6, hb10, -, -, -⟩
          have hb11 := hb10.alloc hb10.size (.cells #[.slice A6 us6.length c6, .slice B6 vs6.length d6] 26)
          have D6 := Lib.hid (D5.out.call hb11)
          have X6 := Lib.hid (X5.out.below hb11 X5.out.lt)
          have U6 := Lib.hid (U5.out.below hb11 U5.out.lt)
          have T6 := Lib.hid (T5.out.below hb11 T5.out.lt)
          have O7 := Lib.hid (ho6.alloc (.cells #[.slice A6 us6.length c6, .slice B6 vs6.length d6] 26))
          have N7 := Lib.hid (hn6.alloc (.cells #[.slice A6 us6.length c6, .slice B6 vs6.length d6] 26))
          have Q6 := Lib.hid (Box.new w6 26 #[.slice A6 us6.length c6, .slice B6 vs6.length d6])
          clear ho6 hn6 hb10 hb11 D5 X5 U5 T5 P5 O6 N6
          obtain ⟨zu, v0, v1, v2⟩ := box_tri U6.out
          obtain ⟨zt, t0, t1, -, -⟩ := T6.out.two
          go_wp2_with fail
          generalize w6.heap.size = S6 at *
          generalize w6.alloc (.cells #[.slice A6 us6.length c6, .slice B6 vs6.length d6] 26) = V6 at *
          refine (C2 _ D6.out).mono ?_
          clear C2
          rintro e w7 ⟨v7, rfl, A7, c7, g7, B7, d7, h7, rfl, -, -, ho7, hn7, hb12, hc7, -, -⟩
          have hb13 := hb12.alloc hb12.size (.cells #[.slice A7 us7.length c7, .slice B7 vs7.length d7] 26)
          have D7 := Lib.hid (D6.out.call hb13)
          have X7 := Lib.hid (X6.out.below hb13 X6.out.lt)
          have O8 := Lib.hid (O7.out.below hb13)
          have N8 := Lib.hid (N7.out.below hb13)
          have Q7 := Lib.hid (Q6.out.below hb13 Q6.out.lt)
          have O9 := Lib.hid (ho7.alloc (.cells #[.slice A7 us7.length c7, .slice B7 vs7.length d7] 26))
          have N9 := Lib.hid (hn7.alloc (.cells #[.slice A7 us7.length c7, .slice B7 vs7.length d7] 26))
          have R7 := Lib.hid (Box.new w7 26 #[.slice A7 us7.length c7, .slice B7 vs7.length d7])
          clear ho7 hn7 hb12 hb13 D6 X6 U6 T6 O7 N7 Q6 zu v0 v1 v2 zt t0 t1
          cases b6 with
          | false =>
            go_wp2_with fail
            go_ret
            exact ⟨rfl, D7.out.bel⟩
          | true =>
            cases b7 with
            | false =>
              go_wp2_with fail
              go_ret
              exact ⟨rfl, D7.out.bel⟩
            | true =>
              obtain ⟨f1, f2⟩ := F1.out rfl
              obtain ⟨e1, e2⟩ := F2.out rfl
              subst f1
              subst e1
              have f2 := f2.symm
              subst f2
              have e2 := e2.symm
              subst e2
              obtain ⟨k1, k2⟩ := FO.out HN.out rfl rfl
              obtain ⟨rfl, -⟩ := O9.out (insR_pos _ _)
              obtain ⟨rfl, -⟩ := N9.out hsp
              have C3 := fun W (h : Sl W W.heap.size (some ⟨g7, 0, none⟩) (insR ⟨ua, ub, uc⟩ rs)) (h' : Sli W W.heap.size (some ⟨h7, 0, none⟩) hs) => tableAdd_impl g7 0 (insR ⟨ua, ub, uc⟩ rs) c7 h7 0 hs d7 ⟨xa, xb, xc⟩ W (by omega) (by omega) hc7 h h'
              unfold AddRes at C3
              rw [k1, (add_yes k1).1, (add_yes k1).2, k2] at C3
              dsimp only [rtV] at C3
              clear F1 F2 FO k1 k2
              obtain ⟨zx, y0, y1, y2⟩ := box_tri X7.out
              obtain ⟨zr, r0, r1, -, -⟩ := R7.out.two
              go_wp2_with fail
              generalize w7.heap.size = S7 at *
              generalize w7.alloc (.cells #[.slice (some ⟨g7, 0, none⟩) (insR ⟨ua, ub, uc⟩ rs).length c7, .slice (some ⟨h7, 0, none⟩) hs.length d7] 26) = V7 at *
              refine (C3 _ O9.out.sl N9.out.sli).mono ?_
              clear C3
              rintro e w8 ⟨v8, rfl, A8, c8, g8, B8, d8, h8, rfl, -, -, ho8, hn8, hb14, -, -, -⟩
              have hb15 := hb14.alloc hb14.size (.cells #[.slice A8 (insR ⟨ua, ub, uc⟩ (insR ⟨xa, xb, xc⟩ rs)).length c8, .slice B8 hs.length d8] 26)
              have D8 := Lib.hid (D7.out.call hb15)
              have O10 := Lib.hid (O8.out.below hb15)
              have N10 := Lib.hid (N8.out.below hb15)
              have Q8 := Lib.hid (Q7.out.below hb15 Q7.out.lt)
              have Q8w := Lib.hid (Q7.out.below hb14 Q7.out.lt)
              have O11 := Lib.hid (ho8.alloc (.cells #[.slice A8 (insR ⟨ua, ub, uc⟩ (insR ⟨xa, xb, xc⟩ rs)).length c8, .slice B8 hs.length d8] 26))
              have N11 := Lib.hid (hn8.alloc (.cells #[.slice A8 (insR ⟨ua, ub, uc⟩ (insR ⟨xa, xb, xc⟩ rs)).length c8, .slice B8 hs.length d8] 26))
              obtain ⟨zq, q0, q1, -, -⟩ := Q8w.out.two
              clear ho8 hn8 hb14 hb15 D7 X7 O8 N8 Q7 O9 N9 R7 zx y0 y1 y2 zr r0 r1
              go_wp2_with fail
              generalize w8.heap.size = S8 at *
              generalize w8.alloc (.cells #[.slice A8 (insR ⟨ua, ub, uc⟩ (insR ⟨xa, xb, xc⟩ rs)).length c8, .slice B8 hs.length d8] 26) = V8 at *
              refine (sameTable_same A8 A6 B8 B6 (insR ⟨ua, ub, uc⟩ (insR ⟨xa, xb, xc⟩ rs)) hs c8 c6 d8 d6 V8 (by omega) (by omega) O11.out.sl O10.out.sl N11.out.sli N10.out.sli).mono ?_
              rintro e w9 ⟨rfl, hb16⟩
              have B9 := Lib.hid (D8.out.bel.trans (hb16.mono D8.out.bel.size))
              clear hb16 zq q0 q1
              go_wp2_with fail
              go_ret
              exact ⟨rfl, B9.out⟩
        · have hq1 : (ua == xa) = true := beq_iff_eq.2 hpa
          have hq2 : (ub == xb) = false := beq_eq_false_iff_ne.2 hpb
          clear hpa hpb
          go_wp2_with fail
          clear zx y0 y1 y2 zt t0 t1 zp p0 p1
          generalize w5.heap.size = S5 at *
          generalize (w5.alloc (.cells #[.slice (some ⟨gq, 0, none⟩) rs2.length cq, .slice (some ⟨ghq, 0, none⟩) hs2.length dq] 26)).alloc (.cells #[.int .i64 ua, .int .i64 ub, .int .i64 uc] 28) = V5 at *
          refine (C1 _ O6.out.sl N6.out.sli).mono ?_
          clear C1
          rintro e w6 ⟨v6, rfl, A6, c6, g6, B6, d6, h6, rfl, -, -, ho6, hn6, hb10, -, -, -⟩
          have hb11 := hb10.alloc hb10.size (.cells #[.slice A6 us6.length c6, .slice B6 vs6.length d6] 26)
          have D6 := Lib.hid (D5.out.call hb11)
          have X6 := Lib.hid (X5.out.below hb11 X5.out.lt)
          have U6 := Lib.hid (U5.out.below hb11 U5.out.lt)
          have T6 := Lib.hid (T5.out.below hb11 T5.out.lt)
          have O7 := Lib.hid (ho6.alloc (.cells #[.slice A6 us6.length c6, .slice B6 vs6.length d6] 26))
          have N7 := Lib.hid (hn6.alloc (.cells #[.slice A6 us6.length c6, .slice B6 vs6.length d6] 26))
          have Q6 := Lib.hid (Box.new w6 26 #[.slice A6 us6.length c6, .slice B6 vs6.length d6])
          clear ho6 hn6 hb10 hb11 D5 X5 U5 T5 P5 O6 N6
          obtain ⟨zu, v0, v1, v2⟩ := box_tri U6.out
          obtain ⟨zt, t0, t1, -, -⟩ := T6.out.two
          go_wp2_with fail
          generalize w6.heap.size = S6 at *
          generalize w6.alloc (.cells #[.slice A6 us6.length c6, .slice B6 vs6.length d6] 26) = V6 at *
          refine (C2 _ D6.out).mono ?_
          clear C2
          rintro e w7 ⟨v7, rfl, A7, c7, g7, B7, d7, h7, rfl, -, -, ho7, hn7, hb12, hc7, -, -⟩
          have hb13 := hb12.alloc hb12.size (.cells #[.slice A7 us7.length c7, .slice B7 vs7.length d7] 26)
          have D7 := Lib.hid (D6.out.call hb13)
          have X7 := Lib.hid (X6.out.below hb13 X6.out.lt)
          have O8 := Lib.hid (O7.out.below hb13)
          have N8 := Lib.hid (N7.out.below hb13)
          have Q7 := Lib.hid (Q6.out.below hb13 Q6.out.lt)
          have O9 := Lib.hid (ho7.alloc (.cells #[.slice A7 us7.length c7, .slice B7 vs7.length d7] 26))
          have N9 := Lib.hid (hn7.alloc (.cells #[.slice A7 us7.length c7, .slice B7 vs7.length d7] 26))
          have R7 := Lib.hid (Box.new w7 26 #[.slice A7 us7.length c7, .slice B7 vs7.length d7])
          clear ho7 hn7 hb12 hb13 D6 X6 U6 T6 O7 N7 Q6 zu v0 v1 v2 zt t0 t1
          cases b6 with
          | false =>
            go_wp2_with fail
            go_ret
            exact ⟨rfl, D7.out.bel⟩
          | true =>
            cases b7 with
            | false =>
              go_wp2_with fail
              go_ret
              exact ⟨rfl, D7.out.bel⟩
            | true =>
              obtain ⟨f1, f2⟩ := F1.out rfl
              obtain ⟨e1, e2⟩ := F2.out rfl
              subst f1
              subst e1
              have f2 := f2.symm
              subst f2
              have e2 := e2.symm
              subst e2
              obtain ⟨k1, k2⟩ := FO.out HN.out rfl rfl
              obtain ⟨rfl, -⟩ := O9.out (insR_pos _ _)
              obtain ⟨rfl, -⟩ := N9.out hsp
              have C3 := fun W (h : Sl W W.heap.size (some ⟨g7, 0, none⟩) (insR ⟨ua, ub, uc⟩ rs)) (h' : Sli W W.heap.size (some ⟨h7, 0, none⟩) hs) => tableAdd_impl g7 0 (insR ⟨ua, ub, uc⟩ rs) c7 h7 0 hs d7 ⟨xa, xb, xc⟩ W (by omega) (by omega) hc7 h h'
              unfold AddRes at C3
              rw [k1, (add_yes k1).1, (add_yes k1).2, k2] at C3
              dsimp only [rtV] at C3
              clear F1 F2 FO k1 k2
              obtain ⟨zx, y0, y1, y2⟩ := box_tri X7.out
              obtain ⟨zr, r0, r1, -, -⟩ := R7.out.two
              go_wp2_with fail
              generalize w7.heap.size = S7 at *
              generalize w7.alloc (.cells #[.slice (some ⟨g7, 0, none⟩) (insR ⟨ua, ub, uc⟩ rs).length c7, .slice (some ⟨h7, 0, none⟩) hs.length d7] 26) = V7 at *
              refine (C3 _ O9.out.sl N9.out.sli).mono ?_
              clear C3
              rintro e w8 ⟨v8, rfl, A8, c8, g8, B8, d8, h8, rfl, -, -, ho8, hn8, hb14, -, -, -⟩
              have hb15 := hb14.alloc hb14.size (.cells #[.slice A8 (insR ⟨ua, ub, uc⟩ (insR ⟨xa, xb, xc⟩ rs)).length c8, .slice B8 hs.length d8] 26)
              have D8 := Lib.hid (D7.out.call hb15)
              have O10 := Lib.hid (O8.out.below hb15)
              have N10 := Lib.hid (N8.out.below hb15)
              have Q8 := Lib.hid (Q7.out.below hb15 Q7.out.lt)
              have Q8w := Lib.hid (Q7.out.below hb14 Q7.out.lt)
              have O11 := Lib.hid (ho8.alloc (.cells #[.slice A8 (insR ⟨ua, ub, uc⟩ (insR ⟨xa, xb, xc⟩ rs)).length c8, .slice B8 hs.length d8] 26))
              have N11 := Lib.hid (hn8.alloc (.cells #[.slice A8 (insR ⟨ua, ub, uc⟩ (insR ⟨xa, xb, xc⟩ rs)).length c8, .slice B8 hs.length d8] 26))
              obtain ⟨zq, q0, q1, -, -⟩ := Q8w.out.two
              clear ho8 hn8 hb14 hb15 D7 X7 O8 N8 Q7 O9 N9 R7 zx y0 y1 y2 zr r0 r1
              go_wp2_with fail
              generalize w8.heap.size = S8 at *
              generalize w8.alloc (.cells #[.slice A8 (insR ⟨ua, ub, uc⟩ (insR ⟨xa, xb, xc⟩ rs)).length c8, .slice B8 hs.length d8] 26) = V8 at *
              refine (sameTable_same A8 A6 B8 B6 (insR ⟨ua, ub, uc⟩ (insR ⟨xa, xb, xc⟩ rs)) hs c8 c6 d8 d6 V8 (by omega) (by omega) O11.out.sl O10.out.sl N11.out.sli N10.out.sli).mono ?_
              rintro e w9 ⟨rfl, hb16⟩
              have B9 := Lib.hid (D8.out.bel.trans (hb16.mono D8.out.bel.size))
              clear hb16 zq q0 q1
              go_wp2_with fail
              go_ret
              exact ⟨rfl, B9.out⟩
  · by_cases hl2 : len ≤ 1048576
    · have hl3 : 1048576 < len' := by omega
      clear hl
      go_enter Try.func6, Try.ntmps6
      go_wp2
      go_ret
      exact ⟨rfl, by (repeat (first | exact Below.refl _ _ | (refine Below.alloc ?_ (by first | exact Nat.le_refl _ | omega | (simp; done) | (simp; omega)) _) | (refine Below.setCell ?_ (by first | exact Nat.le_refl _ | omega | (simp; done) | (simp; omega)) _) | exact Below.drew ‹_›))⟩
    · clear hl
      go_enter Try.func6, Try.ntmps6
      go_wp2
      go_ret
      exact ⟨rfl, by (repeat (first | exact Below.refl _ _ | (refine Below.alloc ?_ (by first | exact Nat.le_refl _ | omega | (simp; done) | (simp; omega)) _) | (refine Below.setCell ?_ (by first | exact Nat.le_refl _ | omega | (simp; done) | (simp; omega)) _) | exact Below.drew ‹_›))⟩
end Go.Proofs.Ytohflcbpjjnccaa
