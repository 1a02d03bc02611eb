/-
  The walk of FnTableTurnCount over this seat.
-/
import Derived.Test.YtohflcbpjjnccabTs
import Derived.Test.YtohflcbpjjnccabTw
import Derived.Test.YtohflcbpjjnccabTm
import Derived.Test.YtohflcbpjjnccabTfm
import Derived.Test.YtohflcbpjjnccabC1
namespace Go.Proofs.Ytohflcbpjjnccab
open Go.RowKit Go.Maps

set_option maxRecDepth 100000 in
set_option maxHeartbeats 3200000 in
theorem fnTableTurnCount_walk (A : Option Addr) (len c : Nat) (f : Nat → Int) (w : World) (hlc : len ≤ c) (hc : c ≤ maxLen) (hB : Byt w w.heap.size A len f) :
   Calls Try.prog 11 #[.slice A len c] w fun e w' => e = .returned (.bool true) ∧ Below w.heap.size w w' := by
  have HB := Lib.hid hB
  clear hB
  by_cases hl : len ≤ 1048576
  · go_enter Try.func11, Try.ntmps11
    go_wp2_with fail
    refine (drawTT_any A len c f w hlc hc HB.out).mono ?_
    rintro e w1 ⟨rs, hs, g, cr, gh, d, pa, pb, rfl, hD, hpa, hpb⟩
    have hr31 := hD.hr
    have hh4 := hD.hh
    have hb1 : Below w1.heap.size w1 (w1.alloc (.cells #[.slice (some ⟨g, 0, none⟩) rs.length cr, .slice (some ⟨gh, 0, none⟩) hs.length d] 30)) := by (repeat (first | exact Below.refl _ _ | (refine Below.alloc ?_ (by first | exact Nat.le_refl _ | omega | (simp; done) | (simp; omega)) _) | (refine Below.setCell ?_ (by first | exact Nat.le_refl _ | omega | (simp; done) | (simp; omega)) _) | exact Below.drew ‹_›))
    have D1 := Lib.hid (hD.call hb1)
    have T1 := Lib.hid (Box.new w1 30 #[.slice (some ⟨g, 0, none⟩) rs.length cr, .slice (some ⟨gh, 0, none⟩) hs.length d])
    have CI := fun W (h : DT w rs hs g cr gh d W) => tableTurn_imp g 0 rs cr gh 0 hs d pa pb W (by omega) (by omega) h.sl h.sli
    have CS := fun W (h : DT w rs hs g cr gh d W) => tableTurn_spec g 0 rs cr gh 0 hs d pa pb W (by omega) (by omega) h.sl h.sli
    have hul : (trnR rs hs pa pb).length ≤ 31 := by
      unfold trnR
      split
      · omega
      · simp
    have hvl : (trnH rs hs pa pb).length ≤ 4 := by
      unfold trnH
      split
      · rw [List.length_set]
        omega
      · simp
    have HADD := Lib.hid (show trnB rs hs pa pb = true → trnR rs hs pa pb = rs ∧ trnH rs hs pa pb = hs.set pa.toNat pb ∧ trnN rs hs pa pb = (cntR rs pa : Int) from fun h => by
      unfold trnR trnH trnN
      rw [h]
      exact ⟨rfl, rfl, rfl⟩)
    have HNO := Lib.hid (show trnB rs hs pa pb = false → trnN rs hs pa pb = -1 from fun h => by
      unfold trnN
      rw [h]
      rfl)
    clear hD hb1 HB
    unfold TrnT at CI
    unfold TrnRes at CS
    generalize hUS : trnR rs hs pa pb = us at *
    generalize hVS : trnH rs hs pa pb = vs at *
    generalize hNN : trnN rs hs pa pb = nn at *
    clear hUS hVS hNN
    go_wp2_with fail
    generalize w1.heap.size = G at *
    generalize w1.alloc (.cells #[.slice (some ⟨g, 0, none⟩) rs.length cr, .slice (some ⟨gh, 0, none⟩) hs.length d] 30) = V1 at *
    refine (CI _ D1.out).mono ?_
    clear CI
    rintro e w2 ⟨v2, rfl, A2, c2, B2, d2, X2, rfl, hm2, -, hb2⟩
    have hba : Below w2.heap.size w2 (w2.alloc (.cells #[.slice A2 us.length c2, .slice B2 vs.length d2] 30)) := (Below.refl _ _).alloc (Nat.le_refl _) _
    have hb3 := hb2.trans (hba.mono hb2.size)
    have D2 := Lib.hid (D1.out.call hb3)
    have T2 := Lib.hid (T1.out.below hb3 T1.out.lt)
    have M2 := Lib.hid (hm2.below hba)
    have P2 := Lib.hid (Box.new w2 30 #[.slice A2 us.length c2, .slice B2 vs.length d2])
    have TW := Lib.hid (T1.out.below hb2 T1.out.lt)
    clear hm2 hb2 hb3 hba D1 T1
    obtain ⟨zt, t0, t1, -, -⟩ := TW.out.two
    go_wp2_with fail
    clear zt t0 t1 TW
    generalize w2.heap.size = X at *
    generalize w2.alloc (.cells #[.slice A2 us.length c2, .slice B2 vs.length d2] 30) = V2 at *
    refine (CS _ D2.out).mono ?_
    clear CS
    rintro e w3 ⟨v3, rfl, A3, c3, g3, B3, d3, h3, rfl, -, -, ho3, hn3, hb4, -, -⟩
    have hba : Below w3.heap.size w3 (w3.alloc (.cells #[.slice A3 us.length c3, .slice B3 vs.length d3] 30)) := (Below.refl _ _).alloc (Nat.le_refl _) _
    have hb5 := hb4.trans (hba.mono hb4.size)
    have D3 := Lib.hid (D2.out.call hb5)
    have T3 := Lib.hid (T2.out.below hb5 T2.out.lt)
    have M3 := Lib.hid (M2.out.below hb5)
    have P3 := Lib.hid (P2.out.below hb5 P2.out.lt)
    have O4 := Lib.hid (ho3.below hba)
    have N4 := Lib.hid (hn3.below hba)
    have Q3 := Lib.hid (Box.new w3 30 #[.slice A3 us.length c3, .slice B3 vs.length d3])
    have PW := Lib.hid (P2.out.below hb4 P2.out.lt)
    clear ho3 hn3 hb4 hb5 hba D2 T2 M2 P2
    have CSAME := fun W (h1 : Sl W W.heap.size A2 us) (h2 : Sl W W.heap.size A3 us) (h3 : Sli W W.heap.size B2 vs) (h4 : Sli W W.heap.size B3 vs) => sameTable_same A2 A3 B2 B3 us vs c2 c3 d2 d3 W (by omega) (by omega) h1 h2 h3 h4
    obtain ⟨zp, p0, p1, -, -⟩ := PW.out.two
    cases hok : trnB rs hs pa pb with
    | false =>
      obtain rfl := HNO.out hok
      clear HADD HNO hok
      go_wp2_with fail
      clear zp p0 p1 PW
      generalize w3.heap.size = Y at *
      generalize w3.alloc (.cells #[.slice A3 us.length c3, .slice B3 vs.length d3] 30) = V3 at *
      refine (CSAME _ M3.out.sl O4.out.sl M3.out.sli N4.out.sli).mono ?_
      rintro e w4 ⟨rfl, hb6⟩
      have D4 := Lib.hid (D3.out.call hb6)
      have M5 := Lib.hid (M3.out.below hb6)
      have O6 := Lib.hid (O4.out.below hb6)
      have N6 := Lib.hid (N4.out.below hb6)
      have P4 := Lib.hid (P3.out.below hb6 P3.out.lt)
      have Q4 := Lib.hid (Q3.out.below hb6 Q3.out.lt)
      clear hb6 D3 T3 M3 O4 N4 P3 Q3
      obtain ⟨zp, p0, p1, -, -⟩ := P4.out.two
      obtain ⟨zq, q0, q1, -, -⟩ := Q4.out.two
      go_wp2_with fail
      refine (CSAME _ M5.out.sl O6.out.sl M5.out.sli N6.out.sli).mono ?_
      clear CSAME
      rintro e w5 ⟨rfl, hb7⟩
      have B5 := Lib.hid (D4.out.bel.trans (hb7.mono D4.out.bel.size))
      clear hb7 zp p0 p1 zq q0 q1
      go_wp2_with fail
      go_ret
      exact ⟨rfl, B5.out⟩
    | true =>
      obtain ⟨e1, e2, e3⟩ := HADD.out hok
      have e1 := e1.symm
      subst e1
      subst e3
      obtain ⟨hv, hq, hnd⟩ := trnB_iff.1 hok
      obtain ⟨q, rfl⟩ : ∃ q : Nat, pa = (q : Int) := ⟨pa.toNat, by omega⟩
      rw [Int.toNat_natCast] at e2
      have hql : q < hs.length := by omega
      have HU := Lib.hid (set_valid (h := q) hv hnd)
      have HV := Lib.hid hv
      have HSL := Lib.hid (show vs.length = hs.length by rw [e2]; exact List.length_set)
      have HVS := Lib.hid e2.symm
      clear e2
      have hcn : cntR rs (q : Int) ≤ 31 := Nat.le_trans (cntR_le _ _) (by omega)
      have hnn : ¬ ((cntR rs (q : Int) : Int) < 0) := by omega
      clear hok HADD HNO hv hq
      go_wp2_with fail
      clear zp p0 p1 PW
      generalize w3.heap.size = Y at *
      generalize w3.alloc (.cells #[.slice A3 rs.length c3, .slice B3 vs.length d3] 30) = V3 at *
      refine (CSAME _ M3.out.sl O4.out.sl M3.out.sli N4.out.sli).mono ?_
      clear CSAME
      rintro e w4 ⟨rfl, hb6⟩
      have D4 := Lib.hid (D3.out.call hb6)
      have T4 := Lib.hid (T3.out.below hb6 T3.out.lt)
      have M5 := Lib.hid (M3.out.below hb6)
      have P4 := Lib.hid (P3.out.below hb6 P3.out.lt)
      clear hb6 D3 T3 M3 P3 O4 N4 Q3
      obtain ⟨g2, h2, rfl, rfl, har, han, -⟩ : ∃ g2 h2, A2 = some ⟨g2, 0, none⟩ ∧ B2 = some ⟨h2, 0, none⟩ ∧ Arrt w4 g2 rs ∧ Arri w4 h2 vs ∧ True := by
        rcases M5.out with ⟨g2, h2, e1, e2, h3, h4, _⟩ | ⟨_, e, _⟩
        · exact ⟨g2, h2, e1, e2, h3, h4, trivial⟩
        · have hsl := HSL.out
          rw [e] at hsl
          simp at hsl
          omega
      have O5 := Lib.hid har
      have N5 := Lib.hid han
      clear har han M5
      obtain ⟨hbk1, hbk2⟩ := back_law (rs := rs) (hs := hs) HV.out hql hnd
      rw [HVS.out] at hbk1 hbk2 HU
      obtain ⟨z, hz⟩ : ∃ z, hs[q]? = some z := ⟨_, List.getElem?_eq_getElem hql⟩
      have hgz : hs.getD q 0 = z := by rw [List.getD_eq_getElem?_getD, hz]; rfl
      rw [hgz] at hbk1 hbk2
      have CT := fun W (h : Arrt W g2 rs) (h' : Arri W h2 vs) => tableTurn_imp g2 0 rs c2 h2 0 vs d2 (q : Int) z W (by omega) (by have := HSL.out; omega) (h.sl h.lt) (h'.sli h'.lt)
      unfold TrnT at CT
      rw [show trnR rs vs (q : Int) z = rs by unfold trnR; rw [hbk1]; rfl, show trnH rs vs (q : Int) z = hs by unfold trnH; rw [hbk1, if_pos rfl, Int.toNat_natCast]; exact hbk2, show trnN rs vs (q : Int) z = (cntR rs (q : Int) : Int) by unfold trnN; rw [hbk1]; rfl] at CT
      have CV := fun W (h : Arrt W g2 rs) (h' : Arri W h2 vs) => tableValid_impl (some ⟨g2, 0, none⟩) rs c2 (some ⟨h2, 0, none⟩) vs d2 W (by omega) (by have := HSL.out; omega) (h.sl h.lt) (h'.sli h'.lt)
      rw [HU.out] at CV
      have HZ := Lib.hid hz
      clear hbk1 hbk2 hgz hz HU HV
      go_wp2_with fail
      go_loopw [10, 11] (fun n i wr => ∃ k m : Nat, k ≤ rs.length ∧ Hid (m = cntR (rs.take k) (q : Int)) ∧ m ≤ k ∧ n = .int .i64 (m : Int) ∧ i = .int .i64 (k : Int) ∧ Hid (DT w rs hs g cr gh d wr) ∧ Hid (Arrt wr g2 rs) ∧ Hid (Arri wr h2 vs) ∧ Hid (Box wr G 30 #[.slice (some ⟨g, 0, none⟩) rs.length cr, .slice (some ⟨gh, 0, none⟩) hs.length d]) ∧ Hid (Box wr X 30 #[.slice (some ⟨g2, 0, none⟩) rs.length c2, .slice (some ⟨h2, 0, none⟩) vs.length d2])) (fun _ i _ => rs.length - (intOf i).toNat)
      case atStart => exact ⟨0, 0, Nat.zero_le _, Lib.hid rfl, Nat.le_refl _, rfl, rfl, D4, O5, N5, T4, P4⟩
      case round =>
        obtain ⟨k, m, hk, HM, hmk, rfl, rfl, D5, O6, N6, T5, P5⟩ := hrel
        clear D4 O5 N5 T4 P4
        obtain ⟨zt, t0, t1, -, -⟩ := T5.out.two
        by_cases hlt : k < rs.length
        · obtain ⟨x, hx⟩ : ∃ x, rs[k]? = some x := ⟨_, List.getElem?_eq_getElem hlt⟩
          obtain ⟨bb, o, e1, zb, c0, c1, c2'⟩ := D5.out.sl k x hx
          cases e1
          have hki : (k : Int) < (rs.length : Int) := by omega
          have HNX := Lib.hid (cntR_next hx (q : Int))
          clear hx
          obtain ⟨xa, xb, xc⟩ := x
          dsimp only at c0 c1 c2' HNX
          simp only [Nat.zero_add] at c0 c1 c2'
          by_cases hc' : xc = (q : Int)
          · have HN2 : Hid (m + 1 = cntR (rs.take (k + 1)) (q : Int)) := Lib.hid (by rw [HNX.out, if_pos hc', HM.out])
            subst hc'
            have hw : IntKind.i64.wrap ((m : Int) + 1) = (m : Int) + 1 := IntWalk.i64_in _ (by omega)
            clear HNX HM
            go_wp2_with fail
            go_roundw
            case rel => exact ⟨k + 1, m + 1, hlt, HN2, by omega, by go_num, by go_num, D5, O6, N6, T5, P5⟩
            case measure => simp [intOf]; omega
          · have HN2 : Hid (m = cntR (rs.take (k + 1)) (q : Int)) := Lib.hid (by rw [HNX.out, if_neg hc', HM.out]; rfl)
            have g1 : (xc == (q : Int)) = false := beq_eq_false_iff_ne.2 hc'
            clear HNX HM hc'
            go_wp2_with fail
            go_roundw
            case rel => exact ⟨k + 1, m, hlt, HN2, by omega, rfl, by go_num, D5, O6, N6, T5, P5⟩
            case measure => simp [intOf]; omega
        · obtain rfl : k = rs.length := by omega
          have hge : ¬ ((rs.length : Int) < (rs.length : Int)) := by omega
          have hm := HM.out
          rw [List.take_length] at hm
          subst hm
          have hbd : Below wr.heap.size wr wr.drew := (Below.refl _ _).drew
          obtain ⟨bb, o, e1, zh, d0⟩ := D5.out.sli q z HZ.out
          cases e1
          simp only [Nat.zero_add] at d0
          obtain ⟨zp, p0, p1, -, -⟩ := P5.out.two
          have hqi : (q : Int) < (hs.length : Int) := by omega
          obtain ⟨BB, hB1, hB2⟩ : ∃ BB, BB ≤ wr.drew.heap.size ∧ wr.drew.heap.size ≤ BB := ⟨_, Nat.le_refl _, Nat.le_refl _⟩
          have hX := fun (y : ExtB BB wr.drew) (bb o : Nat) (h : bb < BB) => (show y.w.cell? ⟨bb, o, none⟩ = wr.cell? ⟨bb, o, none⟩ from y.cell bb o h)
          have zt' : G < BB := Nat.lt_of_lt_of_le (show G < wr.drew.heap.size from zt) hB2
          have zp' : X < BB := Nat.lt_of_lt_of_le (show X < wr.drew.heap.size from zp) hB2
          have zh' : gh < BB := Nat.lt_of_lt_of_le (show gh < wr.drew.heap.size from zh) hB2
          have Dd := Lib.hid (D5.out.call hbd)
          have Od := Lib.hid (O6.out.below hbd O6.out.lt)
          have Nd := Lib.hid (N6.out.below hbd N6.out.lt)
          have Td := Lib.hid (T5.out.below hbd T5.out.lt)
          have Pd := Lib.hid (P5.out.below hbd P5.out.lt)
          clear hbd D5 O6 N6 T5 P5
          go_wp2_with fail
          refine wp_region_stg 14 BB (by kernel_rfl) (by kernel_rfl) ?_
          refine stg_seg _ 7 [0, 1, 2, 3, 4, 5, 6] (by kernel_rfl) (by kernel_rfl) (by kernel_rfl) (by kernel_rfl) ?_
          (simp only [List.map_cons, List.map_nil, List.getElem?_cons_zero, List.getElem?_cons_succ, Option.getD_some]); (repeat (go_big_quiet_step (fail))); (refine wpQuiet_nil ?_)
          clear hX zt t0 t1 zp p0 p1 d0 zh zt' zp' zh' hB2
          generalize wr.drew = wd at *
          refine stg_two _ 6 7 11 (by rfl) (by rfl) (by rfl) (by kernel_rfl) (by rfl) (by rfl) ?_ ?_
          · go_wp2_with fail
            refine (CT _ Od.out Nd.out).mono ?_
            clear CT
            rintro e w5 ⟨v5, rfl, A6, c6, B6, d6, X6, rfl, hm6, hx6, hb7⟩
            refine ⟨hb7.mono hB1, _, Nat.le_refl _, ?_⟩
            have hs7 := Nat.le_trans hB1 hb7.size
            have D7 := Lib.hid (Dd.out.call hb7)
            have O7 := Lib.hid (Od.out.below hb7 Od.out.lt)
            have N7 := Lib.hid (Nd.out.below hb7 Nd.out.lt)
            have T7 := Lib.hid (Td.out.below hb7 Td.out.lt)
            have P7 := Lib.hid (Pd.out.below hb7 Pd.out.lt)
            clear hb7 Dd Od Nd Td Pd
            have M7 := Lib.hid hm6
            clear hm6
            refine stg_seg _ 3 [8, 9, 10] (by kernel_rfl) (by kernel_rfl) (by kernel_rfl) (by kernel_rfl) ?_
            (simp only [List.map_cons, List.map_nil, List.getElem?_cons_zero, List.getElem?_cons_succ, Option.getD_some]); (repeat (go_big_quiet_step (fail))); (refine wpQuiet_nil ?_)
            refine stg_one _ 2 11 (by kernel_rfl) (by rfl) (by kernel_rfl) (by rfl) ?_
            go_wp2_with fail
            refine ⟨((Below.refl _ _).alloc (Nat.le_refl _) _).mono hs7, _, Nat.le_refl _, ?_⟩
            refine stg_one _ 1 12 (by kernel_rfl) (by rfl) (by kernel_rfl) (by rfl) ?_
            go_wp2_with fail
            refine ⟨(below_aa _ _ _).mono hs7, _, Nat.le_refl _, ?_⟩
            refine stg_seg _ 0 [13] (by kernel_rfl) (by kernel_rfl) (by kernel_rfl) (by kernel_rfl) ?_
            (simp only [List.map_cons, List.map_nil, List.getElem?_cons_zero, List.getElem?_cons_succ, Option.getD_some]); (repeat (go_big_quiet_step (fail))); (refine wpQuiet_nil ?_)
            refine stg_end (by kernel_rfl) ?_
            have hba : Below w5.heap.size w5 (w5.alloc (.cells #[.slice A6 rs.length c6, .slice B6 hs.length d6] 30)) := (Below.refl _ _).alloc (Nat.le_refl _) _
            have M9 := Lib.hid (M7.out.below hba)
            have X9 := Lib.hid (Box.new w5 30 #[.slice A6 rs.length c6, .slice B6 hs.length d6])
            have D9 := Lib.hid (D7.out.call hba)
            have O9 := Lib.hid (O7.out.below hba O7.out.lt)
            have N9 := Lib.hid (N7.out.below hba N7.out.lt)
            have T9 := Lib.hid (T7.out.below hba T7.out.lt)
            have P9 := Lib.hid (P7.out.below hba P7.out.lt)
            clear hba D7 O7 N7 T7 P7
            clear M7 hs7
            generalize w5.alloc (.cells #[.slice A6 rs.length c6, .slice B6 hs.length d6] 30) = V5 at *
            generalize w5.heap.size = Z at *
            obtain ⟨zt, t0, t1, -, -⟩ := T9.out.two
            obtain ⟨zp, p0, p1, -, -⟩ := P9.out.two
            obtain ⟨zq, q0, q1, -, -⟩ := X9.out.two
            have CF := sameTable_same A6 (some ⟨g, 0, none⟩) B6 (some ⟨gh, 0, none⟩) rs hs c6 cr d6 d V5 (by omega) (by omega) M9.out.sl D9.out.sl M9.out.sli D9.out.sli
            go_wp2_with fail
            refine CF.mono ?_
            clear CF
            rintro e w6 ⟨rfl, hb8⟩
            have DA := Lib.hid (D9.out.call hb8)
            have OA := Lib.hid (O9.out.below hb8 O9.out.lt)
            have NA := Lib.hid (N9.out.below hb8 N9.out.lt)
            have PA := Lib.hid (P9.out.below hb8 P9.out.lt)
            clear hb8 zt t0 t1 zp p0 p1 zq q0 q1 D9 O9 N9 P9 T9 X9 M9
            obtain ⟨zp, p0, p1, -, -⟩ := PA.out.two
            go_wp2_with fail
            refine (CV _ OA.out NA.out).mono ?_
            rintro e w8 ⟨rfl, hb9⟩
            have BB' := Lib.hid (DA.out.bel.trans (hb9.mono DA.out.bel.size))
            clear hb9 zp p0 p1
            go_wp2_with fail
            go_ret
            exact ⟨by first | rfl | exact ret_bool (by simp), BB'.out⟩
          · go_wp2_with fail
            refine ⟨((Below.refl _ _).alloc (Nat.le_refl _) _).mono hB1, _, Nat.le_refl _, ?_⟩
            have hba : Below wd.heap.size wd (wd.alloc (.cells #[.slice none 0 0, .slice none 0 0] 30)) := (Below.refl _ _).alloc (Nat.le_refl _) _
            have Xa := Lib.hid (Box.new wd 30 #[.slice none 0 0, .slice none 0 0])
            have hsa : wd.heap.size + 1 ≤ (wd.alloc (.cells #[.slice none 0 0, .slice none 0 0] 30)).heap.size := by simp
            have hgd := Dd.out.ar.lt
            have hghd := Dd.out.an.lt
            have hOd := Od.out.lt
            have hNd := Nd.out.lt
            have hTd := Td.out.lt
            have hPd := Pd.out.lt
            have hwd := Dd.out.bel.size
            have Da := Lib.hid (Dd.out.call hba)
            have Oa := Lib.hid (Od.out.below hba Od.out.lt)
            have Na := Lib.hid (Nd.out.below hba Nd.out.lt)
            have Ta := Lib.hid (Td.out.below hba Td.out.lt)
            have Pa := Lib.hid (Pd.out.below hba Pd.out.lt)
            clear hba Dd Od Nd Td Pd
            generalize wd.alloc (.cells #[.slice none 0 0, .slice none 0 0] 30) = wa at *
            generalize wd.heap.size = Z at *
            refine stg_one _ 5 7 (by kernel_rfl) (by rfl) (by kernel_rfl) (by rfl) ?_
            go_wp2_with fail
            refine (CT _ Oa.out Na.out).mono ?_
            clear CT
            rintro e w5 ⟨v5, rfl, A6, c6, B6, d6, X6, rfl, hm6, hx6, hb7⟩
            refine ⟨hb7.mono (by omega), _, Nat.le_refl _, ?_⟩
            have X7 := Lib.hid (Xa.out.below hb7 Xa.out.lt)
            have M7 := Lib.hid hm6
            have HX6 := Lib.hid (fun b (h : X6 b) => (show b ≠ Z by have := hx6 b h; omega))
            have D7 := Lib.hid (Da.out.call hb7)
            have O7 := Lib.hid (Oa.out.below hb7 Oa.out.lt)
            have N7 := Lib.hid (Na.out.below hb7 Na.out.lt)
            have T7 := Lib.hid (Ta.out.below hb7 Ta.out.lt)
            have P7 := Lib.hid (Pa.out.below hb7 Pa.out.lt)
            clear hb7 Da Oa Na Ta Pa
            clear Xa hm6 hx6
            refine stg_seg _ 2 [8, 9, 10] (by kernel_rfl) (by kernel_rfl) (by kernel_rfl) (by kernel_rfl) ?_
            (simp only [List.map_cons, List.map_nil, List.getElem?_cons_zero, List.getElem?_cons_succ, Option.getD_some]); (repeat (go_big_quiet_step (fail))); (refine wpQuiet_nil ?_)
            obtain ⟨zq, q0, q1, f0, f1⟩ := X7.out.two
            refine stg_one _ 1 12 (by kernel_rfl) (by rfl) (by kernel_rfl) (by rfl) ?_
            go_wp2_with fail
            refine ⟨((Below.refl _ _).setCell (p := ⟨Z, 0, none⟩) hB1 _).setCell (p := ⟨Z, 1, none⟩) hB1 _, _, Nat.le_refl _, ?_⟩
            refine stg_seg _ 0 [13] (by kernel_rfl) (by kernel_rfl) (by kernel_rfl) (by kernel_rfl) ?_
            (simp only [List.map_cons, List.map_nil, List.getElem?_cons_zero, List.getElem?_cons_succ, Option.getD_some]); (repeat (go_big_quiet_step (fail))); (refine wpQuiet_nil ?_)
            refine stg_end (by kernel_rfl) ?_
            have X9 := Lib.hid ((ret_two X7.out (.slice A6 rs.length c6) (.slice B6 hs.length d6)).1)
            have T9 := Lib.hid ((T7.out.setFar (p := ⟨Z, 0, none⟩) (by dsimp only; omega) (.slice A6 rs.length c6)).setFar (p := ⟨Z, 1, none⟩) (by dsimp only; omega) (.slice B6 hs.length d6))
            have P9 := Lib.hid ((P7.out.setFar (p := ⟨Z, 0, none⟩) (by dsimp only; omega) (.slice A6 rs.length c6)).setFar (p := ⟨Z, 1, none⟩) (by dsimp only; omega) (.slice B6 hs.length d6))
            have O9 := Lib.hid ((O7.out.far (p := ⟨Z, 0, none⟩) (by dsimp only; omega) (.slice A6 rs.length c6)).far (p := ⟨Z, 1, none⟩) (by dsimp only; omega) (.slice B6 hs.length d6))
            have N9 := Lib.hid ((N7.out.setFar (p := ⟨Z, 0, none⟩) (by dsimp only; omega) (.slice A6 rs.length c6)).setFar (p := ⟨Z, 1, none⟩) (by dsimp only; omega) (.slice B6 hs.length d6))
            have M9 := Lib.hid (M7.out.kept (w' := ((w5.setCell ⟨Z, 0, none⟩ (.slice A6 rs.length c6)).setCell ⟨Z, 1, none⟩ (.slice B6 hs.length d6))) (fun b h => (Below.heap_setCell _ ⟨Z, 1, none⟩ _ b (HX6.out b h)).trans (Below.heap_setCell _ ⟨Z, 0, none⟩ _ b (HX6.out b h))))
            have D9 := Lib.hid (show DT w rs hs g cr gh d ((w5.setCell ⟨Z, 0, none⟩ (.slice A6 rs.length c6)).setCell ⟨Z, 1, none⟩ (.slice B6 hs.length d6)) from
              ⟨((D7.out.ar.far (p := ⟨Z, 0, none⟩) (by dsimp only; omega) (.slice A6 rs.length c6)).far (p := ⟨Z, 1, none⟩) (by dsimp only; omega) (.slice B6 hs.length d6)), ((D7.out.an.setFar (p := ⟨Z, 0, none⟩) (by dsimp only; omega) (.slice A6 rs.length c6)).setFar (p := ⟨Z, 1, none⟩) (by dsimp only; omega) (.slice B6 hs.length d6)), (D7.out.bel.setCell (p := ⟨Z, 0, none⟩) hwd _).setCell (p := ⟨Z, 1, none⟩) hwd _, D7.out.hg, D7.out.hgh, D7.out.hc, D7.out.hd, D7.out.hr, D7.out.hh⟩)
            clear D7 T7 P7 O7 N7 X7 M7 HX6 zq q0 q1 f0 f1
            generalize (w5.setCell ⟨Z, 0, none⟩ (.slice A6 rs.length c6)).setCell ⟨Z, 1, none⟩ (.slice B6 hs.length d6) = V5 at *
            obtain ⟨zt, t0, t1, -, -⟩ := T9.out.two
            obtain ⟨zp, p0, p1, -, -⟩ := P9.out.two
            obtain ⟨zq, q0, q1, -, -⟩ := X9.out.two
            have CF := sameTable_same A6 (some ⟨g, 0, none⟩) B6 (some ⟨gh, 0, none⟩) rs hs c6 cr d6 d V5 (by omega) (by omega) M9.out.sl D9.out.sl M9.out.sli D9.out.sli
            go_wp2_with fail
            refine CF.mono ?_
            clear CF
            rintro e w6 ⟨rfl, hb8⟩
            have DA := Lib.hid (D9.out.call hb8)
            have OA := Lib.hid (O9.out.below hb8 O9.out.lt)
            have NA := Lib.hid (N9.out.below hb8 N9.out.lt)
            have PA := Lib.hid (P9.out.below hb8 P9.out.lt)
            clear hb8 zt t0 t1 zp p0 p1 zq q0 q1 D9 O9 N9 P9 T9 X9 M9
            obtain ⟨zp, p0, p1, -, -⟩ := PA.out.two
            go_wp2_with fail
            refine (CV _ OA.out NA.out).mono ?_
            rintro e w8 ⟨rfl, hb9⟩
            have BB' := Lib.hid (DA.out.bel.trans (hb9.mono DA.out.bel.size))
            clear hb9 zp p0 p1
            go_wp2_with fail
            go_ret
            exact ⟨by first | rfl | exact ret_bool (by simp), BB'.out⟩
  · go_enter Try.func11, Try.ntmps11
    go_wp2_with fail
    go_ret
    exact ⟨rfl, Below.refl _ _⟩
end Go.Proofs.Ytohflcbpjjnccab
