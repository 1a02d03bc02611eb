/-
  The walk of FnTableAdd over this seat.
-/
import Derived.Test.YtohflcbpjjnccaaTs
import Derived.Test.YtohflcbpjjnccaaTk
import Derived.Test.YtohflcbpjjnccaaTm
import Derived.Test.YtohflcbpjjnccaaWu
import Derived.Test.YtohflcbpjjnccaaC1
namespace Go.Proofs.Ytohflcbpjjnccaa
open Go.RowKit Go.Maps

set_option maxRecDepth 100000 in
set_option maxHeartbeats 1600000 in
theorem fnTableAdd_walk (A : Option Addr) (len c : Nat) (f : Nat → Int) (w : World) (hlc : len ≤ c) (hc : c ≤ maxLen) (hB : Byt w w.heap.size A len f) :
   Calls Try.prog 3 #[.slice A len c] w fun e w' => e = .returned (.bool true) ∧ Below w.heap.size w w' := by
  have HB := Lib.hid hB
  clear hB
  by_cases hl : len ≤ 1048576
  · go_enter Try.func3, Try.ntmps3
    go_wp2_with fail
    refine (drawTA_any A len c f w hlc hc HB.out).mono ?_
    rintro e w1 ⟨rs, hs, g, cr, gh, d, x, rfl, hD, hxa, hxb, hxc⟩
    have hr31 := hD.hr
    have hh4 := hD.hh
    have hcr := hD.hc
    have hb1 : Below w1.heap.size w1 ((w1.alloc (.cells #[.slice (some ⟨g, 0, none⟩) rs.length cr, .slice (some ⟨gh, 0, none⟩) hs.length d] 26)).alloc (.cells #[.int .i64 x.a, .int .i64 x.b, .int .i64 x.c] 28)) := by (repeat (first | exact Below.refl _ _ | (refine Below.alloc ?_ (by first | exact Nat.le_refl _ | omega | (simp; done) | (simp; omega)) _) | (refine Below.setCell ?_ (by first | exact Nat.le_refl _ | omega | (simp; done) | (simp; omega)) _) | exact Below.drew ‹_›))
    have D1 := Lib.hid (hD.call hb1)
    have T1 := Lib.hid ((Box.new w1 26 #[.slice (some ⟨g, 0, none⟩) rs.length cr, .slice (some ⟨gh, 0, none⟩) hs.length d]).alloc (.cells #[.int .i64 x.a, .int .i64 x.b, .int .i64 x.c] 28))
    have x1 := Box.new (w1.alloc (.cells #[.slice (some ⟨g, 0, none⟩) rs.length cr, .slice (some ⟨gh, 0, none⟩) hs.length d] 26)) 28 #[.int .i64 x.a, .int .i64 x.b, .int .i64 x.c]
    rw [World.size_alloc] at x1
    have X1 := Lib.hid x1
    have CI := fun W (h : DT w rs hs g cr gh d W) => tableAdd_impl g 0 rs cr gh 0 hs d x W (by omega) (by omega) hcr h.sl h.sli
    have CS := fun W (h : DT w rs hs g cr gh d W) => tableAdd_spec g 0 rs cr gh 0 hs d x W (by omega) (by omega) hcr h.sl h.sli
    have hul : (addR rs hs x).length ≤ 32 := by
      have := insR_len (r := x) (rs := rs)
      unfold addR
      split
      · split <;> omega
      · simp
    have hvl : (addH rs hs x).length ≤ 4 := by
      unfold addH
      split
      · exact hh4
      · simp
    have HADD := Lib.hid (show addB rs hs x = true → addR rs hs x = insR x rs ∧ addH rs hs x = hs from add_yes)
    clear hD hb1 HB x1
    unfold AddRes at CI CS
    generalize hUS : addR rs hs x = us at *
    generalize hVS : addH rs hs x = vs at *
    have HUS := Lib.hid hUS
    have HVS := Lib.hid hVS
    clear hUS hVS
    obtain ⟨xa, xb, xc⟩ := x
    dsimp only [rtV] at *
    go_wp2_with fail
    generalize w1.heap.size = G at *
    generalize (w1.alloc (.cells #[.slice (some ⟨g, 0, none⟩) rs.length cr, .slice (some ⟨gh, 0, none⟩) hs.length d] 26)).alloc (.cells #[.int .i64 xa, .int .i64 xb, .int .i64 xc] 28) = V1 at *
    refine (CI _ D1.out).mono ?_
    rintro e w2 ⟨v2, rfl, A2, c2, g2, B2, d2, h2, rfl, -, -, ho2, hn2, hb2, hc2, hd2, -⟩
    have hb3 := hb2.alloc hb2.size (.cells #[.slice A2 us.length c2, .slice B2 vs.length d2] 26)
    have D2 := Lib.hid (D1.out.call hb3)
    have T2 := Lib.hid (T1.out.below hb3 T1.out.lt)
    have X2 := Lib.hid (X1.out.below hb3 X1.out.lt)
    have O2 := Lib.hid (ho2.alloc (.cells #[.slice A2 us.length c2, .slice B2 vs.length d2] 26))
    have N2 := Lib.hid (hn2.alloc (.cells #[.slice A2 us.length c2, .slice B2 vs.length d2] 26))
    have P2 := Lib.hid (Box.new w2 26 #[.slice A2 us.length c2, .slice B2 vs.length d2])
    clear ho2 hn2 hb2 hb3 D1 T1 X1
    obtain ⟨zt, t0, t1, -, -⟩ := T2.out.two
    obtain ⟨zx, y0, y1, y2⟩ := box_tri X2.out
    go_wp2_with fail
    generalize w2.heap.size = X at *
    generalize w2.alloc (.cells #[.slice A2 us.length c2, .slice B2 vs.length d2] 26) = V2 at *
    refine (CS _ D2.out).mono ?_
    clear CS
    rintro e w3 ⟨v3, rfl, A3, c3, g3, B3, d3, h3, rfl, -, -, ho3, hn3, hb4, -, -, -⟩
    have hb5 := hb4.alloc hb4.size (.cells #[.slice A3 us.length c3, .slice B3 vs.length d3] 26)
    have D3 := Lib.hid (D2.out.call hb5)
    have T3 := Lib.hid (T2.out.below hb5 T2.out.lt)
    have X3 := Lib.hid (X2.out.below hb5 X2.out.lt)
    have O3 := Lib.hid (O2.out.below hb5)
    have N3 := Lib.hid (N2.out.below hb5)
    have P3 := Lib.hid (P2.out.below hb5 P2.out.lt)
    have O4 := Lib.hid (ho3.alloc (.cells #[.slice A3 us.length c3, .slice B3 vs.length d3] 26))
    have N4 := Lib.hid (hn3.alloc (.cells #[.slice A3 us.length c3, .slice B3 vs.length d3] 26))
    have Q3 := Lib.hid (Box.new w3 26 #[.slice A3 us.length c3, .slice B3 vs.length d3])
    clear ho3 hn3 hb4 hb5 D2 T2 X2 O2 N2 P2 zt t0 t1 zx y0 y1 y2
    obtain ⟨zp, p0, p1, -, -⟩ := P3.out.two
    obtain ⟨zq, q0, q1, -, -⟩ := Q3.out.two
    have CSAME := fun W (h1 : Sl W W.heap.size A2 us) (h2 : Sl W W.heap.size A3 us) (h3 : Sli W W.heap.size B2 vs) (h4 : Sli W W.heap.size B3 vs) => sameTable_same A2 A3 B2 B3 us vs c2 c3 d2 d3 W (by omega) (by omega) h1 h2 h3 h4
    cases hok : addB rs hs ⟨xa, xb, xc⟩ with
    | false =>
      clear CI HADD
      go_wp2_with fail
      generalize w3.heap.size = Y at *
      generalize w3.alloc (.cells #[.slice A3 us.length c3, .slice B3 vs.length d3] 26) = V3 at *
      refine (CSAME _ O3.out.sl O4.out.sl N3.out.sli N4.out.sli).mono ?_
      rintro e w4 ⟨rfl, hb6⟩
      have D4 := Lib.hid (D3.out.call hb6)
      have O5 := Lib.hid (O3.out.below hb6)
      have N5 := Lib.hid (N3.out.below hb6)
      have O6 := Lib.hid (O4.out.below hb6)
      have N6 := Lib.hid (N4.out.below hb6)
      have P4 := Lib.hid (P3.out.below hb6 P3.out.lt)
      have Q4 := Lib.hid (Q3.out.below hb6 Q3.out.lt)
      clear hb6 D3 T3 X3 O3 N3 O4 N4 P3 Q3 zp p0 p1 zq q0 q1
      obtain ⟨zp, p0, p1, -, -⟩ := P4.out.two
      obtain ⟨zq, q0, q1, -, -⟩ := Q4.out.two
      go_wp2_with fail
      refine (CSAME _ O5.out.sl O6.out.sl N5.out.sli N6.out.sli).mono ?_
      clear CSAME
      rintro e w5 ⟨rfl, hb7⟩
      have B5 := Lib.hid (D4.out.bel.trans (hb7.mono D4.out.bel.size))
      clear hb7 zp p0 p1 zq q0 q1
      go_wp2_with fail
      go_ret
      exact ⟨rfl, B5.out⟩
    | true =>
      obtain ⟨e1, e2⟩ := HADD.out hok
      subst e1
      have e2 := e2.symm
      subst e2
      have HOK := Lib.hid hok
      clear hok HADD HUS HVS
      go_wp2_with fail
      generalize w3.heap.size = Y at *
      generalize w3.alloc (.cells #[.slice A3 (insR ⟨xa, xb, xc⟩ rs).length c3, .slice B3 hs.length d3] 26) = V3 at *
      refine (CSAME _ O3.out.sl O4.out.sl N3.out.sli N4.out.sli).mono ?_
      clear CSAME
      rintro e w4 ⟨rfl, hb6⟩
      have D4 := Lib.hid (D3.out.call hb6)
      have T4 := Lib.hid (T3.out.below hb6 T3.out.lt)
      have X4 := Lib.hid (X3.out.below hb6 X3.out.lt)
      have O5 := Lib.hid (O3.out.below hb6)
      have N5 := Lib.hid (N3.out.below hb6)
      have P4 := Lib.hid (P3.out.below hb6 P3.out.lt)
      clear hb6 D3 T3 X3 O3 N3 P3 O4 N4 Q3 zp p0 p1 zq q0 q1
      have hmem := Lib.hid ((add_law HOK.out).2.1)
      have hkeep := Lib.hid ((add_law HOK.out).2.2.1)
      have hlen := Lib.hid ((add_law HOK.out).2.2.2)
      have hval := Lib.hid ((add_law HOK.out).1)
      have hpos := insR_pos ⟨xa, xb, xc⟩ rs
      generalize insR ⟨xa, xb, xc⟩ rs = us at *
      obtain ⟨rfl, -⟩ := O5.out hpos
      obtain ⟨rfl, -⟩ := N5.out (hs_pos HOK.out)
      clear CI hpos HOK
      go_wp2_with fail
      go_loopw [9, 10] (fun b i wr => ∃ (k : Nat) (q : Bool), k ≤ us.length ∧ b = .bool q ∧ i = .int .i64 (k : Int) ∧ Hid (∀ p, p < k → us[p]? = some ⟨xa, xb, xc⟩ → q = true) ∧ Hid (DT w rs hs g cr gh d wr) ∧ Hid (OwT wr (some ⟨g2, 0, none⟩) g2 us) ∧ Hid (Own1i wr (some ⟨h2, 0, none⟩) h2 hs) ∧ Hid (Box wr G 26 #[.slice (some ⟨g, 0, none⟩) rs.length cr, .slice (some ⟨gh, 0, none⟩) hs.length d]) ∧ Hid (Box wr (G + 1) 28 #[.int .i64 xa, .int .i64 xb, .int .i64 xc]) ∧ Hid (Box wr X 26 #[.slice (some ⟨g2, 0, none⟩) us.length c2, .slice (some ⟨h2, 0, none⟩) hs.length d2])) (fun _ i _ => us.length - (intOf i).toNat)
      case atStart => exact ⟨0, false, Nat.zero_le _, rfl, rfl, Lib.hid (fun p h => by omega), D4, O5, N5, T4, X4, P4⟩
      case round =>
        obtain ⟨k, q, hk, rfl, rfl, HQ, D5, O6, N6, T5, X5, P5⟩ := hrel
        clear D4 O5 N5 T4 X4 P4
        obtain ⟨zp, p0, p1, -, -⟩ := P5.out.two
        obtain ⟨zx, y0, y1, y2⟩ := box_tri X5.out
        by_cases hlt : k < us.length
        · obtain ⟨y, hy⟩ : ∃ y, us[k]? = some y := ⟨_, List.getElem?_eq_getElem hlt⟩
          obtain ⟨bb, o, e1, zb, c0, c1, c2'⟩ := O6.out.sl k y hy
          cases e1
          have hX := fun (y : Ext wr) (bb o : Nat) (h : bb < wr.heap.size) => y.cell bb o h
          have hki : (k : Int) < (us.length : Int) := by omega
          have HY0 := Lib.hid hy
          clear hy
          obtain ⟨ya, yb, yc⟩ := y
          dsimp only at c0 c1 c2'
          simp only [Nat.zero_add] at c0 c1 c2'
          cases q with
          | true =>
            go_wp2_with fail
            refine wp_region_ext (by kernel_rfl) (by kernel_rfl) ?_
            repeat (go_big_quiet_step (fail))
            (refine wpQuiet_nil ?_); (rintro _ ⟨X, rfl⟩); (have hw1 := X.below); (generalize X.w = w1 at *); (clear X)
            have D6 := Lib.hid (D5.out.call hw1)
            have O7 := Lib.hid (O6.out.below hw1)
            have N7 := Lib.hid (N6.out.below hw1)
            have T6 := Lib.hid (T5.out.below hw1 T5.out.lt)
            have X6 := Lib.hid (X5.out.below hw1 X5.out.lt)
            have P6 := Lib.hid (P5.out.below hw1 P5.out.lt)
            clear hX hw1 zp p0 p1 zx y0 y1 y2 c0 c1 c2' zb
            go_wp2_with fail
            go_roundw
            case rel => exact ⟨k + 1, true, hlt, rfl, by go_num, Lib.hid (fun _ _ _ => rfl), D6, O7, N7, T6, X6, P6⟩
            case measure => simp [intOf]; omega
          | false =>
            have HQ2 := Lib.hid (fun (q' : Bool) (h : (⟨ya, yb, yc⟩ : Lk) = ⟨xa, xb, xc⟩ → q' = true) (p : Nat) (hp : p < k + 1) (hu : us[p]? = some ⟨xa, xb, xc⟩) => (show q' = true by
              by_cases e : p < k
              · exact absurd (HQ.out p e hu) (by simp)
              · obtain rfl : p = k := by omega
                rw [HY0.out] at hu
                exact h (by injection hu)))
            by_cases e1 : ya = xa
            · by_cases e2 : yb = xb
              · by_cases e3 : yc = xc
                · have HY : Hid (True) := Lib.hid trivial
                  subst e1
                  subst e2
                  subst e3
                  go_wp2_with fail
                  refine wp_region_ext (by kernel_rfl) (by kernel_rfl) ?_
                  repeat (go_big_quiet_step (fail))
                  (refine wpQuiet_nil ?_); (rintro _ ⟨X, rfl⟩); (have hw1 := X.below); (generalize X.w = w1 at *); (clear X)
                  have D6 := Lib.hid (D5.out.call hw1)
                  have O7 := Lib.hid (O6.out.below hw1)
                  have N7 := Lib.hid (N6.out.below hw1)
                  have T6 := Lib.hid (T5.out.below hw1 T5.out.lt)
                  have X6 := Lib.hid (X5.out.below hw1 X5.out.lt)
                  have P6 := Lib.hid (P5.out.below hw1 P5.out.lt)
                  clear hX hw1 zp p0 p1 zx y0 y1 y2 c0 c1 c2' zb
                  go_wp2_with fail
                  go_roundw
                  case rel => exact ⟨k + 1, _, hlt, rfl, by go_num, Lib.hid (HQ2.out _ (fun _ => rfl)), D6, O7, N7, T6, X6, P6⟩
                  case measure => simp [intOf]; omega
                · have g1 : (ya == xa) = true := beq_iff_eq.2 e1
                  have g2 : (yb == xb) = true := beq_iff_eq.2 e2
                  have g3 : (yc == xc) = false := beq_eq_false_iff_ne.2 e3
                  have HNE := Lib.hid (fun (h : (⟨ya, yb, yc⟩ : Lk) = ⟨xa, xb, xc⟩) => e3 (by injection h))
                  clear e1 e2 e3
                  go_wp2_with fail
                  refine wp_region_ext (by kernel_rfl) (by kernel_rfl) ?_
                  repeat (go_big_quiet_step (fail))
                  (refine wpQuiet_nil ?_); (rintro _ ⟨X, rfl⟩); (have hw1 := X.below); (generalize X.w = w1 at *); (clear X)
                  have D6 := Lib.hid (D5.out.call hw1)
                  have O7 := Lib.hid (O6.out.below hw1)
                  have N7 := Lib.hid (N6.out.below hw1)
                  have T6 := Lib.hid (T5.out.below hw1 T5.out.lt)
                  have X6 := Lib.hid (X5.out.below hw1 X5.out.lt)
                  have P6 := Lib.hid (P5.out.below hw1 P5.out.lt)
                  clear hX hw1 zp p0 p1 zx y0 y1 y2 c0 c1 c2' zb
                  go_wp2_with fail
                  go_roundw
                  case rel => exact ⟨k + 1, _, hlt, rfl, by go_num, Lib.hid (HQ2.out _ (fun h => absurd h HNE.out)), D6, O7, N7, T6, X6, P6⟩
                  case measure => simp [intOf]; omega
              · have g1 : (ya == xa) = true := beq_iff_eq.2 e1
                have g2 : (yb == xb) = false := beq_eq_false_iff_ne.2 e2
                have HNE := Lib.hid (fun (h : (⟨ya, yb, yc⟩ : Lk) = ⟨xa, xb, xc⟩) => e2 (by injection h))
                clear e1 e2
                go_wp2_with fail
                refine wp_region_ext (by kernel_rfl) (by kernel_rfl) ?_
                repeat (go_big_quiet_step (fail))
                (refine wpQuiet_nil ?_); (rintro _ ⟨X, rfl⟩); (have hw1 := X.below); (generalize X.w = w1 at *); (clear X)
                have D6 := Lib.hid (D5.out.call hw1)
                have O7 := Lib.hid (O6.out.below hw1)
                have N7 := Lib.hid (N6.out.below hw1)
                have T6 := Lib.hid (T5.out.below hw1 T5.out.lt)
                have X6 := Lib.hid (X5.out.below hw1 X5.out.lt)
                have P6 := Lib.hid (P5.out.below hw1 P5.out.lt)
                clear hX hw1 zp p0 p1 zx y0 y1 y2 c0 c1 c2' zb
                go_wp2_with fail
                go_roundw
                case rel => exact ⟨k + 1, _, hlt, rfl, by go_num, Lib.hid (HQ2.out _ (fun h => absurd h HNE.out)), D6, O7, N7, T6, X6, P6⟩
                case measure => simp [intOf]; omega
            · have g1 : (ya == xa) = false := beq_eq_false_iff_ne.2 e1
              have HNE := Lib.hid (fun (h : (⟨ya, yb, yc⟩ : Lk) = ⟨xa, xb, xc⟩) => e1 (by injection h))
              clear e1
              go_wp2_with fail
              refine wp_region_ext (by kernel_rfl) (by kernel_rfl) ?_
              repeat (go_big_quiet_step (fail))
              (refine wpQuiet_nil ?_); (rintro _ ⟨X, rfl⟩); (have hw1 := X.below); (generalize X.w = w1 at *); (clear X)
              have D6 := Lib.hid (D5.out.call hw1)
              have O7 := Lib.hid (O6.out.below hw1)
              have N7 := Lib.hid (N6.out.below hw1)
              have T6 := Lib.hid (T5.out.below hw1 T5.out.lt)
              have X6 := Lib.hid (X5.out.below hw1 X5.out.lt)
              have P6 := Lib.hid (P5.out.below hw1 P5.out.lt)
              clear hX hw1 zp p0 p1 zx y0 y1 y2 c0 c1 c2' zb
              go_wp2_with fail
              go_roundw
              case rel => exact ⟨k + 1, _, hlt, rfl, by go_num, Lib.hid (HQ2.out _ (fun h => absurd h HNE.out)), D6, O7, N7, T6, X6, P6⟩
              case measure => simp [intOf]; omega

        · obtain rfl : k = us.length := by omega
          have hge : ¬ ((us.length : Int) < (us.length : Int)) := by omega
          obtain ⟨p, hp⟩ := List.getElem?_of_mem hmem.out
          obtain rfl := HQ.out p (List.getElem?_eq_some_iff.1 hp).1 hp
          clear hp HQ
          go_wp2_with fail
          clear zp p0 p1 zx y0 y1 y2 hge hlt
          go_loopw [11] (fun i wr => ∃ k : Nat, k ≤ rs.length ∧ i = .int .i64 (k : Int) ∧ Hid (DT w rs hs g cr gh d wr) ∧ Hid (OwT wr (some ⟨g2, 0, none⟩) g2 us) ∧ Hid (Own1i wr (some ⟨h2, 0, none⟩) h2 hs) ∧ Hid (Box wr G 26 #[.slice (some ⟨g, 0, none⟩) rs.length cr, .slice (some ⟨gh, 0, none⟩) hs.length d]) ∧ Hid (Box wr (G + 1) 28 #[.int .i64 xa, .int .i64 xb, .int .i64 xc]) ∧ Hid (Box wr X 26 #[.slice (some ⟨g2, 0, none⟩) us.length c2, .slice (some ⟨h2, 0, none⟩) hs.length d2])) (fun i _ => rs.length - (intOf i).toNat)
          case atStart => exact ⟨0, Nat.zero_le _, rfl, D5, O6, N6, T5, X5, P5⟩
          case round =>
            obtain ⟨k, hk, rfl, D7, O8, N8, T7, X7, P7⟩ := hrel
            clear D5 O6 N6 T5 X5 P5
            obtain ⟨zt, t0, t1, -, -⟩ := T7.out.two
            obtain ⟨zx, y0, y1, y2⟩ := box_tri X7.out
            by_cases hlt : k < rs.length
            · obtain ⟨x, hx⟩ : ∃ x, rs[k]? = some x := ⟨_, List.getElem?_eq_getElem hlt⟩
              obtain ⟨bb, o, e1, zb, c0, c1, c2'⟩ := D7.out.sl k x hx
              cases e1
              have hki : (k : Int) < (rs.length : Int) := by omega
              have HXM := Lib.hid (List.mem_of_getElem? hx)
              clear hx
              obtain ⟨za, zb', zc⟩ := x
              dsimp only at c0 c1 c2'
              simp only [Nat.zero_add] at c0 c1 c2'
              have hbx : Below wr.heap.size wr (wr.alloc (.cells #[.int .i64 za, .int .i64 zb', .int .i64 zc] 28)) := by (repeat (first | exact Below.refl _ _ | (refine Below.alloc ?_ (by first | exact Nat.le_refl _ | omega | (simp; done) | (simp; omega)) _) | (refine Below.setCell ?_ (by first | exact Nat.le_refl _ | omega | (simp; done) | (simp; omega)) _) | exact Below.drew ‹_›))
              have D8 := Lib.hid (D7.out.call hbx)
              have O9 := Lib.hid (O8.out.below hbx)
              have N9 := Lib.hid (N8.out.below hbx)
              have T8 := Lib.hid (T7.out.below hbx T7.out.lt)
              have X8 := Lib.hid (X7.out.below hbx X7.out.lt)
              have P8 := Lib.hid (P7.out.below hbx P7.out.lt)
              have Z8 := Lib.hid (Box.new wr 28 #[.int .i64 za, .int .i64 zb', .int .i64 zc])
              clear hbx
              obtain ⟨kq, HKQ, hways⟩ : ∃ kq : Bool, Hid (kq = true ∨ (⟨za, zb', zc⟩ : Lk) ∈ us) ∧ (((za == xa) = true ∧ (zb' == xb) = kq) ∨ ((za == xa) = false ∧ kq = false)) := by
                by_cases e1 : za = xa
                · refine ⟨zb' == xb, Lib.hid ?_, .inl ⟨beq_iff_eq.2 e1, rfl⟩⟩
                  by_cases e2 : zb' = xb
                  · exact .inl (beq_iff_eq.2 e2)
                  · refine .inr (hkeep.out _ HXM.out ?_)
                    cases h : sameR ⟨za, zb', zc⟩ ⟨xa, xb, xc⟩ with
                    | false => rfl
                    | true => exact absurd (sameR_iff.1 h).2 e2
                · refine ⟨false, Lib.hid (.inr (hkeep.out _ HXM.out ?_)), .inr ⟨beq_eq_false_iff_ne.2 e1, rfl⟩⟩
                  cases h : sameR ⟨za, zb', zc⟩ ⟨xa, xb, xc⟩ with
                  | false => rfl
                  | true => exact absurd (sameR_iff.1 h).1 e1
              rcases hways with ⟨w1, w2⟩ | ⟨w1, w2⟩
              · go_wp2_with fail
                clear zt t0 t1 zx y0 y1 y2 c0 c1 c2' zb w1
                generalize hBX : wr.heap.size = BX at *
                generalize wr.alloc (.cells #[.int .i64 za, .int .i64 zb', .int .i64 zc] 28) = V at *
                clear hBX
                go_loopw [13, 14] (fun b i wr => ∃ (m : Nat) (q : Bool), m ≤ us.length ∧ b = .bool q ∧ i = .int .i64 (m : Int) ∧ Hid ((kq = true → q = true) ∧ ∀ p, p < m → us[p]? = some ⟨za, zb', zc⟩ → q = true) ∧ Hid (DT w rs hs g cr gh d wr) ∧ Hid (OwT wr (some ⟨g2, 0, none⟩) g2 us) ∧ Hid (Own1i wr (some ⟨h2, 0, none⟩) h2 hs) ∧ Hid (Box wr G 26 #[.slice (some ⟨g, 0, none⟩) rs.length cr, .slice (some ⟨gh, 0, none⟩) hs.length d]) ∧ Hid (Box wr (G + 1) 28 #[.int .i64 xa, .int .i64 xb, .int .i64 xc]) ∧ Hid (Box wr X 26 #[.slice (some ⟨g2, 0, none⟩) us.length c2, .slice (some ⟨h2, 0, none⟩) hs.length d2]) ∧ Hid (Box wr BX 28 #[.int .i64 za, .int .i64 zb', .int .i64 zc])) (fun _ i _ => us.length - (intOf i).toNat)
                case atStart => exact ⟨0, _, Nat.zero_le _, rfl, rfl, Lib.hid ⟨fun h => h, fun p h => by omega⟩, D8, O9, N9, T8, X8, P8, Z8⟩
                case round =>
                  obtain ⟨m, q, hm, rfl, rfl, HQ, DA, OA, NA, TA, XA, PA, ZA⟩ := hrel
                  clear D8 O9 N9 T8 X8 P8 Z8
                  obtain ⟨zp, p0, p1, -, -⟩ := PA.out.two
                  obtain ⟨zx, y0, y1, y2⟩ := box_tri ZA.out
                  by_cases hmt : m < us.length
                  · obtain ⟨y, hy⟩ : ∃ y, us[m]? = some y := ⟨_, List.getElem?_eq_getElem hmt⟩
                    obtain ⟨bb, o, e1, zb, c0, c1, c2'⟩ := OA.out.sl m y hy
                    cases e1
                    have hX := fun (y : Ext wr) (bb o : Nat) (h : bb < wr.heap.size) => y.cell bb o h
                    have hmi : (m : Int) < (us.length : Int) := by omega
                    have HY0 := Lib.hid hy
                    clear hy
                    obtain ⟨ya, yb, yc⟩ := y
                    dsimp only at c0 c1 c2'
                    simp only [Nat.zero_add] at c0 c1 c2'
                    cases q with
                    | true =>
                      go_wp2_with fail
                      refine wp_region_ext (by kernel_rfl) (by kernel_rfl) ?_
                      repeat (go_big_quiet_step (fail))
                      (refine wpQuiet_nil ?_); (rintro _ ⟨X, rfl⟩); (have hw1 := X.below); (generalize X.w = w1 at *); (clear X)
                      have DB := Lib.hid (DA.out.call hw1)
                      have OB := Lib.hid (OA.out.below hw1)
                      have NB := Lib.hid (NA.out.below hw1)
                      have TB := Lib.hid (TA.out.below hw1 TA.out.lt)
                      have XB := Lib.hid (XA.out.below hw1 XA.out.lt)
                      have PB := Lib.hid (PA.out.below hw1 PA.out.lt)
                      have ZB := Lib.hid (ZA.out.below hw1 ZA.out.lt)
                      clear hX hw1 zp p0 p1 zx y0 y1 y2 c0 c1 c2' zb
                      go_wp2_with fail
                      go_roundw
                      case rel => exact ⟨m + 1, true, hmt, rfl, by go_num, Lib.hid ⟨fun _ => rfl, fun _ _ _ => rfl⟩, DB, OB, NB, TB, XB, PB, ZB⟩
                      case measure => simp [intOf]; omega
                    | false =>
                      have HQ2 := Lib.hid (fun (q' : Bool) (h : (⟨ya, yb, yc⟩ : Lk) = ⟨za, zb', zc⟩ → q' = true) => (show (kq = true → q' = true) ∧ ∀ p, p < m + 1 → us[p]? = some ⟨za, zb', zc⟩ → q' = true from ⟨fun e => absurd (HQ.out.1 e) (by simp), fun p hp hu => by
                        by_cases e : p < m
                        · exact absurd (HQ.out.2 p e hu) (by simp)
                        · obtain rfl : p = m := by omega
                          rw [HY0.out] at hu
                          exact h (by injection hu)⟩))
                      by_cases e1 : ya = za
                      · by_cases e2 : yb = zb'
                        · by_cases e3 : yc = zc
                          · have HY : Hid (True) := Lib.hid trivial
                            subst e1
                            subst e2
                            subst e3
                            go_wp2_with fail
                            refine wp_region_ext (by kernel_rfl) (by kernel_rfl) ?_
                            repeat (go_big_quiet_step (fail))
                            (refine wpQuiet_nil ?_); (rintro _ ⟨X, rfl⟩); (have hw1 := X.below); (generalize X.w = w1 at *); (clear X)
                            have DB := Lib.hid (DA.out.call hw1)
                            have OB := Lib.hid (OA.out.below hw1)
                            have NB := Lib.hid (NA.out.below hw1)
                            have TB := Lib.hid (TA.out.below hw1 TA.out.lt)
                            have XB := Lib.hid (XA.out.below hw1 XA.out.lt)
                            have PB := Lib.hid (PA.out.below hw1 PA.out.lt)
                            have ZB := Lib.hid (ZA.out.below hw1 ZA.out.lt)
                            clear hX hw1 zp p0 p1 zx y0 y1 y2 c0 c1 c2' zb
                            go_wp2_with fail
                            go_roundw
                            case rel => exact ⟨m + 1, _, hmt, rfl, by go_num, Lib.hid (HQ2.out _ (fun _ => rfl)), DB, OB, NB, TB, XB, PB, ZB⟩
                            case measure => simp [intOf]; omega
                          · have g1 : (ya == za) = true := beq_iff_eq.2 e1
                            have g2 : (yb == zb') = true := beq_iff_eq.2 e2
                            have g3 : (yc == zc) = false := beq_eq_false_iff_ne.2 e3
                            have HNE := Lib.hid (fun (h : (⟨ya, yb, yc⟩ : Lk) = ⟨za, zb', zc⟩) => e3 (by injection h))
                            clear e1 e2 e3
                            go_wp2_with fail
                            refine wp_region_ext (by kernel_rfl) (by kernel_rfl) ?_
                            repeat (go_big_quiet_step (fail))
                            (refine wpQuiet_nil ?_); (rintro _ ⟨X, rfl⟩); (have hw1 := X.below); (generalize X.w = w1 at *); (clear X)
                            have DB := Lib.hid (DA.out.call hw1)
                            have OB := Lib.hid (OA.out.below hw1)
                            have NB := Lib.hid (NA.out.below hw1)
                            have TB := Lib.hid (TA.out.below hw1 TA.out.lt)
                            have XB := Lib.hid (XA.out.below hw1 XA.out.lt)
                            have PB := Lib.hid (PA.out.below hw1 PA.out.lt)
                            have ZB := Lib.hid (ZA.out.below hw1 ZA.out.lt)
                            clear hX hw1 zp p0 p1 zx y0 y1 y2 c0 c1 c2' zb
                            go_wp2_with fail
                            go_roundw
                            case rel => exact ⟨m + 1, _, hmt, rfl, by go_num, Lib.hid (HQ2.out _ (fun h => absurd h HNE.out)), DB, OB, NB, TB, XB, PB, ZB⟩
                            case measure => simp [intOf]; omega
                        · have g1 : (ya == za) = true := beq_iff_eq.2 e1
                          have g2 : (yb == zb') = false := beq_eq_false_iff_ne.2 e2
                          have HNE := Lib.hid (fun (h : (⟨ya, yb, yc⟩ : Lk) = ⟨za, zb', zc⟩) => e2 (by injection h))
                          clear e1 e2
                          go_wp2_with fail
                          refine wp_region_ext (by kernel_rfl) (by kernel_rfl) ?_
                          repeat (go_big_quiet_step (fail))
                          (refine wpQuiet_nil ?_); (rintro _ ⟨X, rfl⟩); (have hw1 := X.below); (generalize X.w = w1 at *); (clear X)
                          have DB := Lib.hid (DA.out.call hw1)
                          have OB := Lib.hid (OA.out.below hw1)
                          have NB := Lib.hid (NA.out.below hw1)
                          have TB := Lib.hid (TA.out.below hw1 TA.out.lt)
                          have XB := Lib.hid (XA.out.below hw1 XA.out.lt)
                          have PB := Lib.hid (PA.out.below hw1 PA.out.lt)
                          have ZB := Lib.hid (ZA.out.below hw1 ZA.out.lt)
                          clear hX hw1 zp p0 p1 zx y0 y1 y2 c0 c1 c2' zb
                          go_wp2_with fail
                          go_roundw
                          case rel => exact ⟨m + 1, _, hmt, rfl, by go_num, Lib.hid (HQ2.out _ (fun h => absurd h HNE.out)), DB, OB, NB, TB, XB, PB, ZB⟩
                          case measure => simp [intOf]; omega
                      · have g1 : (ya == za) = false := beq_eq_false_iff_ne.2 e1
                        have HNE := Lib.hid (fun (h : (⟨ya, yb, yc⟩ : Lk) = ⟨za, zb', zc⟩) => e1 (by injection h))
                        clear e1
                        go_wp2_with fail
                        refine wp_region_ext (by kernel_rfl) (by kernel_rfl) ?_
                        repeat (go_big_quiet_step (fail))
                        (refine wpQuiet_nil ?_); (rintro _ ⟨X, rfl⟩); (have hw1 := X.below); (generalize X.w = w1 at *); (clear X)
                        have DB := Lib.hid (DA.out.call hw1)
                        have OB := Lib.hid (OA.out.below hw1)
                        have NB := Lib.hid (NA.out.below hw1)
                        have TB := Lib.hid (TA.out.below hw1 TA.out.lt)
                        have XB := Lib.hid (XA.out.below hw1 XA.out.lt)
                        have PB := Lib.hid (PA.out.below hw1 PA.out.lt)
                        have ZB := Lib.hid (ZA.out.below hw1 ZA.out.lt)
                        clear hX hw1 zp p0 p1 zx y0 y1 y2 c0 c1 c2' zb
                        go_wp2_with fail
                        go_roundw
                        case rel => exact ⟨m + 1, _, hmt, rfl, by go_num, Lib.hid (HQ2.out _ (fun h => absurd h HNE.out)), DB, OB, NB, TB, XB, PB, ZB⟩
                        case measure => simp [intOf]; omega
                  · obtain rfl : m = us.length := by omega
                    have hge2 : ¬ ((us.length : Int) < (us.length : Int)) := by omega
                    obtain rfl : q = true := by
                      rcases HKQ.out with h | h
                      · exact HQ.out.1 h
                      · obtain ⟨p, hp⟩ := List.getElem?_of_mem h
                        exact HQ.out.2 p (List.getElem?_eq_some_iff.1 hp).1 hp
                    clear HQ
                    go_wp2_with fail
                    clear zp p0 p1 zx y0 y1 y2
                    go_roundw
                    case rel => exact ⟨k + 1, hlt, by go_num, DA, OA, NA, TA, XA, PA⟩
                    case measure => simp [intOf]; omega
              · go_wp2_with fail
                clear zt t0 t1 zx y0 y1 y2 c0 c1 c2' zb w1
                generalize hBX : wr.heap.size = BX at *
                generalize wr.alloc (.cells #[.int .i64 za, .int .i64 zb', .int .i64 zc] 28) = V at *
                clear hBX
                go_loopw [13, 14] (fun b i wr => ∃ (m : Nat) (q : Bool), m ≤ us.length ∧ b = .bool q ∧ i = .int .i64 (m : Int) ∧ Hid ((kq = true → q = true) ∧ ∀ p, p < m → us[p]? = some ⟨za, zb', zc⟩ → q = true) ∧ Hid (DT w rs hs g cr gh d wr) ∧ Hid (OwT wr (some ⟨g2, 0, none⟩) g2 us) ∧ Hid (Own1i wr (some ⟨h2, 0, none⟩) h2 hs) ∧ Hid (Box wr G 26 #[.slice (some ⟨g, 0, none⟩) rs.length cr, .slice (some ⟨gh, 0, none⟩) hs.length d]) ∧ Hid (Box wr (G + 1) 28 #[.int .i64 xa, .int .i64 xb, .int .i64 xc]) ∧ Hid (Box wr X 26 #[.slice (some ⟨g2, 0, none⟩) us.length c2, .slice (some ⟨h2, 0, none⟩) hs.length d2]) ∧ Hid (Box wr BX 28 #[.int .i64 za, .int .i64 zb', .int .i64 zc])) (fun _ i _ => us.length - (intOf i).toNat)
                case atStart => exact ⟨0, _, Nat.zero_le _, rfl, rfl, Lib.hid ⟨fun h => (by rw [w2] at h; cases h), fun p h => by omega⟩, D8, O9, N9, T8, X8, P8, Z8⟩
                case round =>
                  obtain ⟨m, q, hm, rfl, rfl, HQ, DA, OA, NA, TA, XA, PA, ZA⟩ := hrel
                  clear D8 O9 N9 T8 X8 P8 Z8
                  obtain ⟨zp, p0, p1, -, -⟩ := PA.out.two
                  obtain ⟨zx, y0, y1, y2⟩ := box_tri ZA.out
                  by_cases hmt : m < us.length
                  · obtain ⟨y, hy⟩ : ∃ y, us[m]? = some y := ⟨_, List.getElem?_eq_getElem hmt⟩
                    obtain ⟨bb, o, e1, zb, c0, c1, c2'⟩ := OA.out.sl m y hy
                    cases e1
                    have hX := fun (y : Ext wr) (bb o : Nat) (h : bb < wr.heap.size) => y.cell bb o h
                    have hmi : (m : Int) < (us.length : Int) := by omega
                    have HY0 := Lib.hid hy
                    clear hy
                    obtain ⟨ya, yb, yc⟩ := y
                    dsimp only at c0 c1 c2'
                    simp only [Nat.zero_add] at c0 c1 c2'
                    cases q with
                    | true =>
                      go_wp2_with fail
                      refine wp_region_ext (by kernel_rfl) (by kernel_rfl) ?_
                      repeat (go_big_quiet_step (fail))
                      (refine wpQuiet_nil ?_); (rintro _ ⟨X, rfl⟩); (have hw1 := X.below); (generalize X.w = w1 at *); (clear X)
                      have DB := Lib.hid (DA.out.call hw1)
                      have OB := Lib.hid (OA.out.below hw1)
                      have NB := Lib.hid (NA.out.below hw1)
                      have TB := Lib.hid (TA.out.below hw1 TA.out.lt)
                      have XB := Lib.hid (XA.out.below hw1 XA.out.lt)
                      have PB := Lib.hid (PA.out.below hw1 PA.out.lt)
                      have ZB := Lib.hid (ZA.out.below hw1 ZA.out.lt)
                      clear hX hw1 zp p0 p1 zx y0 y1 y2 c0 c1 c2' zb
                      go_wp2_with fail
                      go_roundw
                      case rel => exact ⟨m + 1, true, hmt, rfl, by go_num, Lib.hid ⟨fun _ => rfl, fun _ _ _ => rfl⟩, DB, OB, NB, TB, XB, PB, ZB⟩
                      case measure => simp [intOf]; omega
                    | false =>
                      have HQ2 := Lib.hid (fun (q' : Bool) (h : (⟨ya, yb, yc⟩ : Lk) = ⟨za, zb', zc⟩ → q' = true) => (show (kq = true → q' = true) ∧ ∀ p, p < m + 1 → us[p]? = some ⟨za, zb', zc⟩ → q' = true from ⟨fun e => absurd (HQ.out.1 e) (by simp), fun p hp hu => by
                        by_cases e : p < m
                        · exact absurd (HQ.out.2 p e hu) (by simp)
                        · obtain rfl : p = m := by omega
                          rw [HY0.out] at hu
                          exact h (by injection hu)⟩))
                      by_cases e1 : ya = za
                      · by_cases e2 : yb = zb'
                        · by_cases e3 : yc = zc
                          · have HY : Hid (True) := Lib.hid trivial
                            subst e1
                            subst e2
                            subst e3
                            go_wp2_with fail
                            refine wp_region_ext (by kernel_rfl) (by kernel_rfl) ?_
                            repeat (go_big_quiet_step (fail))
                            (refine wpQuiet_nil ?_); (rintro _ ⟨X, rfl⟩); (have hw1 := X.below); (generalize X.w = w1 at *); (clear X)
                            have DB := Lib.hid (DA.out.call hw1)
                            have OB := Lib.hid (OA.out.below hw1)
                            have NB := Lib.hid (NA.out.below hw1)
                            have TB := Lib.hid (TA.out.below hw1 TA.out.lt)
                            have XB := Lib.hid (XA.out.below hw1 XA.out.lt)
                            have PB := Lib.hid (PA.out.below hw1 PA.out.lt)
                            have ZB := Lib.hid (ZA.out.below hw1 ZA.out.lt)
                            clear hX hw1 zp p0 p1 zx y0 y1 y2 c0 c1 c2' zb
                            go_wp2_with fail
                            go_roundw
                            case rel => exact ⟨m + 1, _, hmt, rfl, by go_num, Lib.hid (HQ2.out _ (fun _ => rfl)), DB, OB, NB, TB, XB, PB, ZB⟩
                            case measure => simp [intOf]; omega
                          · have g1 : (ya == za) = true := beq_iff_eq.2 e1
                            have g2 : (yb == zb') = true := beq_iff_eq.2 e2
                            have g3 : (yc == zc) = false := beq_eq_false_iff_ne.2 e3
                            have HNE := Lib.hid (fun (h : (⟨ya, yb, yc⟩ : Lk) = ⟨za, zb', zc⟩) => e3 (by injection h))
                            clear e1 e2 e3
                            go_wp2_with fail
                            refine wp_region_ext (by kernel_rfl) (by kernel_rfl) ?_
                            repeat (go_big_quiet_step (fail))
                            (refine wpQuiet_nil ?_); (rintro _ ⟨X, rfl⟩); (have hw1 := X.below); (generalize X.w = w1 at *); (clear X)
                            have DB := Lib.hid (DA.out.call hw1)
                            have OB := Lib.hid (OA.out.below hw1)
                            have NB := Lib.hid (NA.out.below hw1)
                            have TB := Lib.hid (TA.out.below hw1 TA.out.lt)
                            have XB := Lib.hid (XA.out.below hw1 XA.out.lt)
                            have PB := Lib.hid (PA.out.below hw1 PA.out.lt)
                            have ZB := Lib.hid (ZA.out.below hw1 ZA.out.lt)
                            clear hX hw1 zp p0 p1 zx y0 y1 y2 c0 c1 c2' zb
                            go_wp2_with fail
                            go_roundw
                            case rel => exact ⟨m + 1, _, hmt, rfl, by go_num, Lib.hid (HQ2.out _ (fun h => absurd h HNE.out)), DB, OB, NB, TB, XB, PB, ZB⟩
                            case measure => simp [intOf]; omega
                        · have g1 : (ya == za) = true := beq_iff_eq.2 e1
                          have g2 : (yb == zb') = false := beq_eq_false_iff_ne.2 e2
                          have HNE := Lib.hid (fun (h : (⟨ya, yb, yc⟩ : Lk) = ⟨za, zb', zc⟩) => e2 (by injection h))
                          clear e1 e2
                          go_wp2_with fail
                          refine wp_region_ext (by kernel_rfl) (by kernel_rfl) ?_
                          repeat (go_big_quiet_step (fail))
                          (refine wpQuiet_nil ?_); (rintro _ ⟨X, rfl⟩); (have hw1 := X.below); (generalize X.w = w1 at *); (clear X)
                          have DB := Lib.hid (DA.out.call hw1)
                          have OB := Lib.hid (OA.out.below hw1)
                          have NB := Lib.hid (NA.out.below hw1)
                          have TB := Lib.hid (TA.out.below hw1 TA.out.lt)
                          have XB := Lib.hid (XA.out.below hw1 XA.out.lt)
                          have PB := Lib.hid (PA.out.below hw1 PA.out.lt)
                          have ZB := Lib.hid (ZA.out.below hw1 ZA.out.lt)
                          clear hX hw1 zp p0 p1 zx y0 y1 y2 c0 c1 c2' zb
                          go_wp2_with fail
                          go_roundw
                          case rel => exact ⟨m + 1, _, hmt, rfl, by go_num, Lib.hid (HQ2.out _ (fun h => absurd h HNE.out)), DB, OB, NB, TB, XB, PB, ZB⟩
                          case measure => simp [intOf]; omega
                      · have g1 : (ya == za) = false := beq_eq_false_iff_ne.2 e1
                        have HNE := Lib.hid (fun (h : (⟨ya, yb, yc⟩ : Lk) = ⟨za, zb', zc⟩) => e1 (by injection h))
                        clear e1
                        go_wp2_with fail
                        refine wp_region_ext (by kernel_rfl) (by kernel_rfl) ?_
                        repeat (go_big_quiet_step (fail))
                        (refine wpQuiet_nil ?_); (rintro _ ⟨X, rfl⟩); (have hw1 := X.below); (generalize X.w = w1 at *); (clear X)
                        have DB := Lib.hid (DA.out.call hw1)
                        have OB := Lib.hid (OA.out.below hw1)
                        have NB := Lib.hid (NA.out.below hw1)
                        have TB := Lib.hid (TA.out.below hw1 TA.out.lt)
                        have XB := Lib.hid (XA.out.below hw1 XA.out.lt)
                        have PB := Lib.hid (PA.out.below hw1 PA.out.lt)
                        have ZB := Lib.hid (ZA.out.below hw1 ZA.out.lt)
                        clear hX hw1 zp p0 p1 zx y0 y1 y2 c0 c1 c2' zb
                        go_wp2_with fail
                        go_roundw
                        case rel => exact ⟨m + 1, _, hmt, rfl, by go_num, Lib.hid (HQ2.out _ (fun h => absurd h HNE.out)), DB, OB, NB, TB, XB, PB, ZB⟩
                        case measure => simp [intOf]; omega
                  · obtain rfl : m = us.length := by omega
                    have hge2 : ¬ ((us.length : Int) < (us.length : Int)) := by omega
                    obtain rfl : q = true := by
                      rcases HKQ.out with h | h
                      · exact HQ.out.1 h
                      · obtain ⟨p, hp⟩ := List.getElem?_of_mem h
                        exact HQ.out.2 p (List.getElem?_eq_some_iff.1 hp).1 hp
                    clear HQ
                    go_wp2_with fail
                    clear zp p0 p1 zx y0 y1 y2
                    go_roundw
                    case rel => exact ⟨k + 1, hlt, by go_num, DA, OA, NA, TA, XA, PA⟩
                    case measure => simp [intOf]; omega
            · obtain rfl : k = rs.length := by omega
              have hge : ¬ ((rs.length : Int) < (rs.length : Int)) := by omega
              obtain ⟨zp, p0, p1, -, -⟩ := P7.out.two
              have CV := tableValid_impl (some ⟨g2, 0, none⟩) us c2 (some ⟨h2, 0, none⟩) hs d2 wr (by omega) (by omega) O8.out.sl N8.out.sli
              rw [hval.out] at CV
              have hle : (us.length : Int) ≤ (rs.length : Int) + 1 := by have := hlen.out; omega
              have hwr : IntKind.i64.wrap ((rs.length : Int) + 1) = (rs.length : Int) + 1 := IntWalk.i64_in _ (by omega)
              go_wp2_with fail
              refine CV.mono ?_
              clear CV
              rintro e w6 ⟨rfl, hb8⟩
              have B6 := Lib.hid (D7.out.bel.trans (hb8.mono D7.out.bel.size))
              have P9 := Lib.hid (P7.out.below hb8 P7.out.lt)
              have T9 := Lib.hid (T7.out.below hb8 T7.out.lt)
              clear hb8 zt t0 t1 zx y0 y1 y2 zp p0 p1
              obtain ⟨zp, p0, p1, -, -⟩ := P9.out.two
              obtain ⟨zt, t0, t1, -, -⟩ := T9.out.two
              go_wp2_with fail
              go_ret
              exact ⟨rfl, B6.out⟩
  · go_enter Try.func3, Try.ntmps3
    go_wp2_with fail
    go_ret
    exact ⟨rfl, Below.refl _ _⟩
end Go.Proofs.Ytohflcbpjjnccaa
