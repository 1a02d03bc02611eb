/-
  The walk of FnTableRemove over this seat.
-/
import Derived.Test.YtohflcbpjjnccaaTs
import Derived.Test.YtohflcbpjjnccaaTk
import Derived.Test.YtohflcbpjjnccaaTm
import Derived.Test.YtohflcbpjjnccaaWu
import Derived.Test.YtohflcbpjjnccaaTfk
import Derived.Test.YtohflcbpjjnccaaTx
import Derived.Test.YtohflcbpjjnccaaC1
namespace Go.Proofs.Ytohflcbpjjnccaa
open Go.RowKit Go.Maps

set_option maxRecDepth 100000 in
set_option maxHeartbeats 1600000 in
theorem fnTableRemove_walk (A : Option Addr) (len c : Nat) (f : Nat → Int) (w : World) (hlc : len ≤ c) (hc : c ≤ maxLen) (hB : Byt w w.heap.size A len f) :
   Calls Try.prog 7 #[.slice A len c] w fun e w' => e = .returned (.bool true) ∧ Below w.heap.size w w' := by
  have HB := Lib.hid hB
  clear hB
  by_cases hl : len ≤ 1048576
  · go_enter Try.func7, Try.ntmps7
    go_wp2_with fail
    refine (drawTR_any A len c f w hlc hc HB.out).mono ?_
    rintro e w1 ⟨rs, hs, g, cr, gh, d, pa, pb, rfl, hD⟩
    have hr31 := hD.hr
    have hh4 := hD.hh
    have hb1 : Below w1.heap.size w1 ((w1.alloc (.cells #[.slice (some ⟨g, 0, none⟩) rs.length cr, .slice (some ⟨gh, 0, none⟩) hs.length d] 26))) := by (repeat (first | exact Below.refl _ _ | (refine Below.alloc ?_ (by first | exact Nat.le_refl _ | omega | (simp; done) | (simp; omega)) _) | (refine Below.setCell ?_ (by first | exact Nat.le_refl _ | omega | (simp; done) | (simp; omega)) _) | exact Below.drew ‹_›))
    have D1 := Lib.hid (hD.call hb1)
    have T1 := Lib.hid ((Box.new w1 26 #[.slice (some ⟨g, 0, none⟩) rs.length cr, .slice (some ⟨gh, 0, none⟩) hs.length d]))
    have CI := fun W (h : DT w rs hs g cr gh d W) => tableRemove_impl2 g 0 rs cr gh 0 hs d pa pb W (by omega) (by omega) h.sl h.sli
    have CS := fun W (h : DT w rs hs g cr gh d W) => tableRemove_spec g 0 rs cr gh 0 hs d pa pb W (by omega) (by omega) h.sl h.sli
    have hul : (remR rs hs pa pb).length ≤ 32 := by
      unfold remR
      split
      · exact Nat.le_trans (List.length_filter_le _ _) (by omega)
      · simp
    have hvl : (remH rs hs).length ≤ 4 := by
      unfold remH
      split
      · exact hh4
      · simp
    have HADD := Lib.hid (show remB rs hs pa pb = true → remR rs hs pa pb = delR pa pb rs ∧ remH rs hs = hs from fun h => by
      unfold remB at h
      rw [Bool.and_eq_true] at h
      unfold remR remH
      rw [if_pos h.1, if_pos h.1]
      exact ⟨rfl, rfl⟩)
    clear hD hb1 HB
    unfold RemRes2 at CI
    unfold RemRes at CS
    generalize hUS : remR rs hs pa pb = us at *
    generalize hVS : remH rs hs = vs at *
    have HUS := Lib.hid hUS
    have HVS := Lib.hid hVS
    clear hUS hVS
    go_wp2_with fail
    generalize w1.heap.size = G at *
    generalize w1.alloc (.cells #[.slice (some ⟨g, 0, none⟩) rs.length cr, .slice (some ⟨gh, 0, none⟩) hs.length d] 26) = V1 at *
    refine (CI _ D1.out).mono ?_
    rintro e w2 ⟨A2, c2, g2, B2, d2, h2, rfl, -, -, ho2, hn2, hb2, hc2, hd2, hA2⟩
    have HA2 := Lib.hid hA2
    clear hA2
    have hb3 := hb2.alloc hb2.size (.cells #[.slice A2 us.length c2, .slice B2 vs.length d2] 26)
    have D2 := Lib.hid (D1.out.call hb3)
    have T2 := Lib.hid (T1.out.below hb3 T1.out.lt)
    have O2 := Lib.hid (ho2.alloc (.cells #[.slice A2 us.length c2, .slice B2 vs.length d2] 26))
    have N2 := Lib.hid (hn2.alloc (.cells #[.slice A2 us.length c2, .slice B2 vs.length d2] 26))
    have P2 := Lib.hid (Box.new w2 26 #[.slice A2 us.length c2, .slice B2 vs.length d2])
    clear ho2 hn2 hb2 hb3 D1 T1
    obtain ⟨zt, t0, t1, -, -⟩ := T2.out.two
    go_wp2_with fail
    generalize w2.heap.size = X at *
    generalize w2.alloc (.cells #[.slice A2 us.length c2, .slice B2 vs.length d2] 26) = V2 at *
    refine (CS _ D2.out).mono ?_
    clear CS
    rintro e w3 ⟨v3, rfl, A3, c3, g3, B3, d3, h3, rfl, -, -, ho3, hn3, hb4, -, -⟩
    have hb5 := hb4.alloc hb4.size (.cells #[.slice A3 us.length c3, .slice B3 vs.length d3] 26)
    have D3 := Lib.hid (D2.out.call hb5)
    have T3 := Lib.hid (T2.out.below hb5 T2.out.lt)
    have O3 := Lib.hid (O2.out.below hb5)
    have N3 := Lib.hid (N2.out.below hb5)
    have P3 := Lib.hid (P2.out.below hb5 P2.out.lt)
    have O4 := Lib.hid (ho3.alloc (.cells #[.slice A3 us.length c3, .slice B3 vs.length d3] 26))
    have N4 := Lib.hid (hn3.alloc (.cells #[.slice A3 us.length c3, .slice B3 vs.length d3] 26))
    have Q3 := Lib.hid (Box.new w3 26 #[.slice A3 us.length c3, .slice B3 vs.length d3])
    clear ho3 hn3 hb4 hb5 D2 T2 O2 N2 P2 zt t0 t1
    obtain ⟨zp, p0, p1, -, -⟩ := P3.out.two
    obtain ⟨zq, q0, q1, -, -⟩ := Q3.out.two
    have CSAME := fun W (h1 : Sl W W.heap.size A2 us) (h2 : Sl W W.heap.size A3 us) (h3 : Sli W W.heap.size B2 vs) (h4 : Sli W W.heap.size B3 vs) => sameTable_same A2 A3 B2 B3 us vs c2 c3 d2 d3 W (by omega) (by omega) h1 h2 h3 h4
    cases hok : remB rs hs pa pb with
    | false =>
      clear CI HADD
      go_wp2_with fail
      generalize w3.heap.size = Y at *
      generalize w3.alloc (.cells #[.slice A3 us.length c3, .slice B3 vs.length d3] 26) = V3 at *
      refine (CSAME _ O3.out.sl O4.out.sl N3.out.sli N4.out.sli).mono ?_
      rintro e w4 ⟨rfl, hb6⟩
      have D4 := Lib.hid (D3.out.call hb6)
      have O5 := Lib.hid (O3.out.below hb6)
      have N5 := Lib.hid (N3.out.below hb6)
      have O6 := Lib.hid (O4.out.below hb6)
      have N6 := Lib.hid (N4.out.below hb6)
      have P4 := Lib.hid (P3.out.below hb6 P3.out.lt)
      have Q4 := Lib.hid (Q3.out.below hb6 Q3.out.lt)
      clear hb6 D3 T3 O3 N3 O4 N4 P3 Q3 zp p0 p1 zq q0 q1
      obtain ⟨zp, p0, p1, -, -⟩ := P4.out.two
      obtain ⟨zq, q0, q1, -, -⟩ := Q4.out.two
      go_wp2_with fail
      refine (CSAME _ O5.out.sl O6.out.sl N5.out.sli N6.out.sli).mono ?_
      clear CSAME
      rintro e w5 ⟨rfl, hb7⟩
      have B5 := Lib.hid (D4.out.bel.trans (hb7.mono D4.out.bel.size))
      clear hb7 zp p0 p1 zq q0 q1
      go_wp2_with fail
      go_ret
      exact ⟨rfl, B5.out⟩
    | true =>
      obtain ⟨e1, e2⟩ := HADD.out hok
      subst e1
      have e2 := e2.symm
      subst e2
      have HOK := Lib.hid hok
      clear hok HADD HUS HVS
      go_wp2_with fail
      generalize w3.heap.size = Y at *
      generalize w3.alloc (.cells #[.slice A3 (delR pa pb rs).length c3, .slice B3 hs.length d3] 26) = V3 at *
      refine (CSAME _ O3.out.sl O4.out.sl N3.out.sli N4.out.sli).mono ?_
      clear CSAME
      rintro e w4 ⟨rfl, hb6⟩
      have D4 := Lib.hid (D3.out.call hb6)
      have T4 := Lib.hid (T3.out.below hb6 T3.out.lt)
      have O5 := Lib.hid (O3.out.below hb6)
      have N5 := Lib.hid (N3.out.below hb6)
      have P4 := Lib.hid (P3.out.below hb6 P3.out.lt)
      clear hb6 D3 T3 O3 N3 P3 O4 N4 Q3 zp p0 p1 zq q0 q1
      obtain ⟨hv, x0, hx0, hxa0, hxb0⟩ : tbB rs hs = true ∧ ∃ x ∈ rs, x.a = pa ∧ x.b = pb := by
        have h := HOK.out
        unfold remB at h
        rw [Bool.and_eq_true] at h
        exact ⟨h.1, keyB_iff.1 h.2⟩
      obtain rfl := HA2.out hv
      have hsp : 0 < hs.length := by have := rtB_iff.1 ((tbB_iff.1 hv).2.1 x0 hx0); omega
      obtain ⟨rfl, -⟩ := N5.out hsp
      obtain ⟨j0, hj0⟩ := List.getElem?_of_mem hx0
      have HJ0 := Lib.hid (show ∃ (j : Nat) (y : Lk), rs[j]? = some y ∧ y.a = pa ∧ y.b = pb from ⟨j0, x0, hj0, hxa0, hxb0⟩)
      have HREM := Lib.hid (fun (x : Lk) (hm : x ∈ rs) (e1 : x.a = pa) (e2 : x.b = pb) => (show addB (delR pa pb rs) hs x = true ∧ insR x (delR pa pb rs) = rs ∧ (delR pa pb rs).length + 1 = rs.length by
        subst e1
        subst e2
        exact remove_law hv hm))
      have hdl : (delR pa pb rs).length ≤ rs.length := List.length_filter_le _ _
      clear hv hx0 hxa0 hxb0 hj0 hsp CI HOK HA2
      generalize delR pa pb rs = us at *
      go_wp2_with fail
      go_loopw [10] (fun i wr => ∃ k : Nat, k ≤ rs.length ∧ i = .int .i64 (k : Int) ∧ Hid (∀ (j : Nat) (y : Lk), j < k → rs[j]? = some y → ¬ (y.a = pa ∧ y.b = pb)) ∧ Hid (DT w rs hs g cr gh d wr) ∧ Hid (OwT wr (some ⟨g2, 0, none⟩) g2 us) ∧ Hid (Own1i wr (some ⟨h2, 0, none⟩) h2 hs) ∧ Hid (Box wr G 26 #[.slice (some ⟨g, 0, none⟩) rs.length cr, .slice (some ⟨gh, 0, none⟩) hs.length d]) ∧ Hid (Box wr X 26 #[.slice (some ⟨g2, 0, none⟩) us.length c2, .slice (some ⟨h2, 0, none⟩) hs.length d2])) (fun i _ => rs.length - (intOf i).toNat)
      case atStart => exact ⟨0, Nat.zero_le _, rfl, Lib.hid (fun j y h => by omega), D4, O5, N5, T4, P4⟩
      case round =>
        obtain ⟨k, hk, rfl, HJ, D5, O6, N6, T5, P5⟩ := hrel
        clear D4 O5 N5 T4 P4
        obtain ⟨zt, t0, t1, -, -⟩ := T5.out.two
        obtain ⟨zp, p0, p1, -, -⟩ := P5.out.two
        by_cases hlt : k < rs.length
        · obtain ⟨x, hx⟩ : ∃ x, rs[k]? = some x := ⟨_, List.getElem?_eq_getElem hlt⟩
          obtain ⟨bb, o, e1, zb, c0, c1, c2'⟩ := D5.out.sl k x hx
          cases e1
          have hki : (k : Int) < (rs.length : Int) := by omega
          have HNX := Lib.hid (fun (hno : ¬ (x.a = pa ∧ x.b = pb)) (j : Nat) (y : Lk) (hj : j < k + 1) (hy : rs[j]? = some y) => (show ¬ (y.a = pa ∧ y.b = pb) by
            by_cases e : j < k
            · exact HJ.out j y e hy
            · obtain rfl : j = k := by omega
              rw [hx] at hy
              cases hy
              exact hno))
          have HXM := Lib.hid (List.mem_of_getElem? hx)
          clear hx
          obtain ⟨xa, xb, xc⟩ := x
          dsimp only at c0 c1 c2' HNX
          simp only [Nat.zero_add] at c0 c1 c2'
          by_cases ea : xa = pa
          · by_cases eb : xb = pb
            · subst ea
              subst eb
              obtain ⟨hadd, hins, hlen⟩ := HREM.out ⟨xa, xb, xc⟩ HXM.out rfl rfl
              have CT := fun W (h : Sl W W.heap.size (some ⟨g2, 0, none⟩) us) (h' : Sli W W.heap.size (some ⟨h2, 0, none⟩) hs) => tableAdd_impl g2 0 us c2 h2 0 hs d2 ⟨xa, xb, xc⟩ W (by omega) (by omega) hc2 h h'
              unfold AddRes at CT
              rw [hadd, (add_yes hadd).1, (add_yes hadd).2, hins] at CT
              dsimp only [rtV] at CT
              have hl1 : ((us.length : Int) == (rs.length : Int) - 1) = true := by simp; omega
              have hl2 : decide ((us.length : Int) = (rs.length : Int) - 1) = true := by simp; omega
              have hwr : IntKind.i64.wrap ((rs.length : Int) - 1) = (rs.length : Int) - 1 := IntWalk.i64_in _ (by omega)
              clear hadd hins hlen HNX HREM HJ0 HJ
              have hbd : Below wr.heap.size wr wr.drew := (Below.refl _ _).drew
              have Dd := Lib.hid (D5.out.call hbd)
              have Od := Lib.hid (O6.out.below hbd)
              have Nd := Lib.hid (N6.out.below hbd)
              have Td := Lib.hid (T5.out.below hbd T5.out.lt)
              have Pd := Lib.hid (P5.out.below hbd P5.out.lt)
              clear hbd D5 O6 N6 T5 P5
              obtain ⟨BB, hB1, hB2⟩ : ∃ BB, BB ≤ wr.drew.heap.size ∧ wr.drew.heap.size ≤ BB := ⟨_, Nat.le_refl _, Nat.le_refl _⟩
              have hX := fun (y : ExtB BB wr.drew) (bb o : Nat) (h : bb < BB) => (show y.w.cell? ⟨bb, o, none⟩ = wr.cell? ⟨bb, o, none⟩ from y.cell bb o h)
              have zt' : G < BB := Nat.lt_of_lt_of_le (show G < wr.drew.heap.size from zt) hB2
              have zp' : X < BB := Nat.lt_of_lt_of_le (show X < wr.drew.heap.size from zp) hB2
              have zb' : g < BB := Nat.lt_of_lt_of_le (show g < wr.drew.heap.size from zb) hB2
              go_wp2_with fail
              refine wp_region_stg 13 BB (by kernel_rfl) (by kernel_rfl) ?_
              refine stg_seg _ 7 [0, 1, 2, 3, 4, 5] (by kernel_rfl) (by kernel_rfl) (by kernel_rfl) (by kernel_rfl) ?_
              (simp only [List.map_cons, List.map_nil, List.getElem?_cons_zero, List.getElem?_cons_succ, Option.getD_some]); (repeat (go_big_quiet_step (fail))); (refine wpQuiet_nil ?_)
              clear hX zt t0 t1 zp p0 p1 c0 c1 c2' zb zt' zp' zb'
              generalize wr.drew = wd at *
              refine stg_two _ 6 6 10 (by rfl) (by rfl) (by rfl) (by kernel_rfl) (by rfl) (by rfl) ?_ ?_
              · go_wp2_with fail
                refine (CT _ Od.out.sl Nd.out.sli).mono ?_
                clear CT
                rintro e w5 ⟨v5, rfl, A6, c6, g6, B6, d6, h6, rfl, hg6, hh6, ho6, hn6, hb7, -, -, -⟩
                refine ⟨hb7.mono hB1, _, Nat.le_refl _, ?_⟩
                have D7 := Lib.hid (Dd.out.call hb7)
                have T7 := Lib.hid (Td.out.below hb7 Td.out.lt)
                have P7 := Lib.hid (Pd.out.below hb7 Pd.out.lt)
                have O7 := Lib.hid ho6
                have N7 := Lib.hid hn6
                have hs7 := Nat.le_trans hB1 hb7.size
                clear hb7 ho6 hn6 Od Nd Dd Td Pd
                refine stg_seg _ 3 [7, 8, 9] (by kernel_rfl) (by kernel_rfl) (by kernel_rfl) (by kernel_rfl) ?_
                (simp only [List.map_cons, List.map_nil, List.getElem?_cons_zero, List.getElem?_cons_succ, Option.getD_some]); (repeat (go_big_quiet_step (fail))); (refine wpQuiet_nil ?_)
                refine stg_one _ 2 10 (by kernel_rfl) (by rfl) (by kernel_rfl) (by rfl) ?_
                go_wp2_with fail
                refine ⟨((Below.refl _ _).alloc (Nat.le_refl _) _).mono hs7, _, Nat.le_refl _, ?_⟩
                refine stg_one _ 1 11 (by kernel_rfl) (by rfl) (by kernel_rfl) (by rfl) ?_
                go_wp2_with fail
                refine ⟨(below_aa _ _ _).mono hs7, _, Nat.le_refl _, ?_⟩
                refine stg_seg _ 0 [12] (by kernel_rfl) (by kernel_rfl) (by kernel_rfl) (by kernel_rfl) ?_
                (simp only [List.map_cons, List.map_nil, List.getElem?_cons_zero, List.getElem?_cons_succ, Option.getD_some]); (repeat (go_big_quiet_step (fail))); (refine wpQuiet_nil ?_)
                refine stg_end (by kernel_rfl) ?_
                have hba : Below w5.heap.size w5 (w5.alloc (.cells #[.slice A6 rs.length c6, .slice B6 hs.length d6] 26)) := (Below.refl _ _).alloc (Nat.le_refl _) _
                have D9 := Lib.hid (D7.out.call hba)
                have T9 := Lib.hid (T7.out.below hba T7.out.lt)
                have P9 := Lib.hid (P7.out.below hba P7.out.lt)
                have O9 := Lib.hid (O7.out.below hba)
                have N9 := Lib.hid (N7.out.below hba)
                have X9 := Lib.hid (Box.new w5 26 #[.slice A6 rs.length c6, .slice B6 hs.length d6])
                clear hba D7 T7 P7 O7 N7 hs7
                generalize w5.alloc (.cells #[.slice A6 rs.length c6, .slice B6 hs.length d6] 26) = V5 at *
                generalize w5.heap.size = Z at *
                obtain ⟨zt, t0, t1, -, -⟩ := T9.out.two
                obtain ⟨zp, p0, p1, -, -⟩ := P9.out.two
                obtain ⟨zq, q0, q1, -, -⟩ := X9.out.two
                have CF := sameTable_same A6 (some ⟨g, 0, none⟩) B6 (some ⟨gh, 0, none⟩) rs hs c6 cr d6 d V5 (by omega) (by omega) O9.out.sl D9.out.sl N9.out.sli D9.out.sli
                go_wp2_with fail
                refine CF.mono ?_
                clear CF
                rintro e w6 ⟨rfl, hb8⟩
                have B6' := Lib.hid (D9.out.bel.trans (hb8.mono D9.out.bel.size))
                have TA := Lib.hid (T9.out.below hb8 T9.out.lt)
                have PA := Lib.hid (P9.out.below hb8 P9.out.lt)
                clear hb8 zt t0 t1 zp p0 p1 zq q0 q1
                obtain ⟨zt, t0, t1, -, -⟩ := TA.out.two
                obtain ⟨zp, p0, p1, -, -⟩ := PA.out.two
                go_wp2_with fail
                go_ret
                exact ⟨rfl, B6'.out⟩
              · go_wp2_with fail
                refine ⟨((Below.refl _ _).alloc (Nat.le_refl _) _).mono hB1, _, Nat.le_refl _, ?_⟩
                have hba : Below wd.heap.size wd (wd.alloc (.cells #[.slice none 0 0, .slice none 0 0] 26)) := (Below.refl _ _).alloc (Nat.le_refl _) _
                have Da := Lib.hid (Dd.out.call hba)
                have Ta := Lib.hid (Td.out.below hba Td.out.lt)
                have Pa := Lib.hid (Pd.out.below hba Pd.out.lt)
                have Oa := Lib.hid (Od.out.below hba)
                have Na := Lib.hid (Nd.out.below hba)
                have Xa := Lib.hid (Box.new wd 26 #[.slice none 0 0, .slice none 0 0])
                have hsa : wd.heap.size + 1 ≤ (wd.alloc (.cells #[.slice none 0 0, .slice none 0 0] 26)).heap.size := by simp
                have hgd := Dd.out.ar.lt
                have hghd := Dd.out.an.lt
                have hTd := Td.out.lt
                have hPd := Pd.out.lt
                have hwd := Dd.out.bel.size
                clear hba Od Nd Dd Td Pd
                generalize wd.alloc (.cells #[.slice none 0 0, .slice none 0 0] 26) = wa at *
                refine stg_one _ 5 6 (by kernel_rfl) (by rfl) (by kernel_rfl) (by rfl) ?_
                go_wp2_with fail
                refine (CT _ Oa.out.sl Na.out.sli).mono ?_
                clear CT
                rintro e w5 ⟨v5, rfl, A6, c6, g6, B6, d6, h6, rfl, hg6, hh6, ho6, hn6, hb7, -, -, -⟩
                refine ⟨hb7.mono (by omega), _, Nat.le_refl _, ?_⟩
                have D7 := Lib.hid (Da.out.call hb7)
                have T7 := Lib.hid (Ta.out.below hb7 Ta.out.lt)
                have P7 := Lib.hid (Pa.out.below hb7 Pa.out.lt)
                have X7 := Lib.hid (Xa.out.below hb7 Xa.out.lt)
                have O7 := Lib.hid ho6
                have N7 := Lib.hid hn6
                clear hb7 ho6 hn6 Oa Na Da Ta Pa Xa
                refine stg_seg _ 2 [7, 8, 9] (by kernel_rfl) (by kernel_rfl) (by kernel_rfl) (by kernel_rfl) ?_
                (simp only [List.map_cons, List.map_nil, List.getElem?_cons_zero, List.getElem?_cons_succ, Option.getD_some]); (repeat (go_big_quiet_step (fail))); (refine wpQuiet_nil ?_)
                obtain ⟨zq, q0, q1, f0, f1⟩ := X7.out.two
                refine stg_one _ 1 11 (by kernel_rfl) (by rfl) (by kernel_rfl) (by rfl) ?_
                go_wp2_with fail
                refine ⟨((Below.refl _ _).setCell (p := ⟨wd.heap.size, 0, none⟩) hB1 _).setCell (p := ⟨wd.heap.size, 1, none⟩) hB1 _, _, Nat.le_refl _, ?_⟩
                refine stg_seg _ 0 [12] (by kernel_rfl) (by kernel_rfl) (by kernel_rfl) (by kernel_rfl) ?_
                (simp only [List.map_cons, List.map_nil, List.getElem?_cons_zero, List.getElem?_cons_succ, Option.getD_some]); (repeat (go_big_quiet_step (fail))); (refine wpQuiet_nil ?_)
                refine stg_end (by kernel_rfl) ?_
                have X9 := Lib.hid ((ret_two X7.out (.slice A6 rs.length c6) (.slice B6 hs.length d6)).1)
                have T9 := Lib.hid ((T7.out.setFar (p := ⟨wd.heap.size, 0, none⟩) (by dsimp only; omega) (.slice A6 rs.length c6)).setFar (p := ⟨wd.heap.size, 1, none⟩) (by dsimp only; omega) (.slice B6 hs.length d6))
                have P9 := Lib.hid ((P7.out.setFar (p := ⟨wd.heap.size, 0, none⟩) (by dsimp only; omega) (.slice A6 rs.length c6)).setFar (p := ⟨wd.heap.size, 1, none⟩) (by dsimp only; omega) (.slice B6 hs.length d6))
                have O9 := Lib.hid (show OwT ((w5.setCell ⟨wd.heap.size, 0, none⟩ (.slice A6 rs.length c6)).setCell ⟨wd.heap.size, 1, none⟩ (.slice B6 hs.length d6)) A6 g6 rs from fun hp => ⟨(O7.out hp).1, ((O7.out hp).2.far (p := ⟨wd.heap.size, 0, none⟩) (by dsimp only; omega) _).far (p := ⟨wd.heap.size, 1, none⟩) (by dsimp only; omega) _⟩)
                have N9 := Lib.hid (show Own1i ((w5.setCell ⟨wd.heap.size, 0, none⟩ (.slice A6 rs.length c6)).setCell ⟨wd.heap.size, 1, none⟩ (.slice B6 hs.length d6)) B6 h6 hs from fun hp => ⟨(N7.out hp).1, ((N7.out hp).2.setFar (p := ⟨wd.heap.size, 0, none⟩) (by dsimp only; omega) _).setFar (p := ⟨wd.heap.size, 1, none⟩) (by dsimp only; omega) _⟩)
                have D9 := Lib.hid (show DT w rs hs g cr gh d ((w5.setCell ⟨wd.heap.size, 0, none⟩ (.slice A6 rs.length c6)).setCell ⟨wd.heap.size, 1, none⟩ (.slice B6 hs.length d6)) from
                  ⟨(D7.out.ar.far (p := ⟨wd.heap.size, 0, none⟩) (by dsimp only; omega) _).far (p := ⟨wd.heap.size, 1, none⟩) (by dsimp only; omega) _, (D7.out.an.setFar (p := ⟨wd.heap.size, 0, none⟩) (by dsimp only; omega) _).setFar (p := ⟨wd.heap.size, 1, none⟩) (by dsimp only; omega) _, (D7.out.bel.setCell (p := ⟨wd.heap.size, 0, none⟩) hwd _).setCell (p := ⟨wd.heap.size, 1, none⟩) hwd _, D7.out.hg, D7.out.hgh, D7.out.hc, D7.out.hd, D7.out.hr, D7.out.hh⟩)
                clear D7 T7 P7 O7 N7 X7 zq q0 q1 f0 f1
                generalize (w5.setCell ⟨wd.heap.size, 0, none⟩ (.slice A6 rs.length c6)).setCell ⟨wd.heap.size, 1, none⟩ (.slice B6 hs.length d6) = V5 at *
                generalize wd.heap.size = Z at *
                obtain ⟨zt, t0, t1, -, -⟩ := T9.out.two
                obtain ⟨zp, p0, p1, -, -⟩ := P9.out.two
                obtain ⟨zq, q0, q1, -, -⟩ := X9.out.two
                have CF := sameTable_same A6 (some ⟨g, 0, none⟩) B6 (some ⟨gh, 0, none⟩) rs hs c6 cr d6 d V5 (by omega) (by omega) O9.out.sl D9.out.sl N9.out.sli D9.out.sli
                go_wp2_with fail
                refine CF.mono ?_
                clear CF
                rintro e w6 ⟨rfl, hb8⟩
                have B6' := Lib.hid (D9.out.bel.trans (hb8.mono D9.out.bel.size))
                have TA := Lib.hid (T9.out.below hb8 T9.out.lt)
                have PA := Lib.hid (P9.out.below hb8 P9.out.lt)
                clear hb8 zt t0 t1 zp p0 p1 zq q0 q1
                obtain ⟨zt, t0, t1, -, -⟩ := TA.out.two
                obtain ⟨zp, p0, p1, -, -⟩ := PA.out.two
                go_wp2_with fail
                go_ret
                exact ⟨rfl, B6'.out⟩
            · have g1 : (xa == pa) = true := beq_iff_eq.2 ea
              have g2' : (xb == pb) = false := beq_eq_false_iff_ne.2 eb
              have HNO := Lib.hid (fun (h : xa = pa ∧ xb = pb) => eb h.2)
              clear ea eb
              go_wp2_with fail
              go_roundw
              case rel => exact ⟨k + 1, hlt, by go_num, Lib.hid (HNX.out HNO.out), D5, O6, N6, T5, P5⟩
              case measure => simp [intOf]; omega
          · have g1 : (xa == pa) = false := beq_eq_false_iff_ne.2 ea
            have HNO := Lib.hid (fun (h : xa = pa ∧ xb = pb) => ea h.1)
            clear ea
            go_wp2_with fail
            go_roundw
            case rel => exact ⟨k + 1, hlt, by go_num, Lib.hid (HNX.out HNO.out), D5, O6, N6, T5, P5⟩
            case measure => simp [intOf]; omega
        · exfalso
          obtain ⟨j, y, hy, e⟩ := HJ0.out
          exact HJ.out j y (by have := (List.getElem?_eq_some_iff.1 hy).1; omega) hy e
  · go_enter Try.func7, Try.ntmps7
    go_wp2_with fail
    go_ret
    exact ⟨rfl, Below.refl _ _⟩
end Go.Proofs.Ytohflcbpjjnccaa
