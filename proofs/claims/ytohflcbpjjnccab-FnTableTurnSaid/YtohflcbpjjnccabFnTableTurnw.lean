/-
  The walk of FnTableTurn over this seat.
-/
import Derived.Test.YtohflcbpjjnccabTs
import Derived.Test.YtohflcbpjjnccabTw
import Derived.Test.YtohflcbpjjnccabTm
import Derived.Test.YtohflcbpjjnccabTfm
import Derived.Test.YtohflcbpjjnccabC1
namespace Go.Proofs.Ytohflcbpjjnccab
open Go.RowKit Go.Maps

set_option maxRecDepth 100000 in
set_option maxHeartbeats 3200000 in
theorem fnTableTurn_walk (A : Option Addr) (len c : Nat) (f : Nat → Int) (w : World) (hlc : len ≤ c) (hc : c ≤ maxLen) (hB : Byt w w.heap.size A len f) :
   Calls Try.prog 10 #[.slice A len c] w fun e w' => e = .returned (.bool true) ∧ Below w.heap.size w w' := by
  have HB := Lib.hid hB
  clear hB
  by_cases hl : len ≤ 1048576
  · go_enter Try.func10, Try.ntmps10
    go_wp2_with fail
    refine (drawTT_any A len c f w hlc hc HB.out).mono ?_
    rintro e w1 ⟨rs, hs, g, cr, gh, d, pa, pb, rfl, hD, hpa, hpb⟩
    have hr31 := hD.hr
    have hh4 := hD.hh
    have hb1 : Below w1.heap.size w1 (w1.alloc (.cells #[.slice (some ⟨g, 0, none⟩) rs.length cr, .slice (some ⟨gh, 0, none⟩) hs.length d] 30)) := by (repeat (first | exact Below.refl _ _ | (refine Below.alloc ?_ (by first | exact Nat.le_refl _ | omega | (simp; done) | (simp; omega)) _) | (refine Below.setCell ?_ (by first | exact Nat.le_refl _ | omega | (simp; done) | (simp; omega)) _) | exact Below.drew ‹_›))
    have D1 := Lib.hid (hD.call hb1)
    have T1 := Lib.hid (Box.new w1 30 #[.slice (some ⟨g, 0, none⟩) rs.length cr, .slice (some ⟨gh, 0, none⟩) hs.length d])
    have CI := fun W (h : DT w rs hs g cr gh d W) => tableTurn_imp g 0 rs cr gh 0 hs d pa pb W (by omega) (by omega) h.sl h.sli
    have CS := fun W (h : DT w rs hs g cr gh d W) => tableTurn_spec g 0 rs cr gh 0 hs d pa pb W (by omega) (by omega) h.sl h.sli
    have hul : (trnR rs hs pa pb).length ≤ 31 := by
      unfold trnR
      split
      · omega
      · simp
    have hvl : (trnH rs hs pa pb).length ≤ 4 := by
      unfold trnH
      split
      · rw [List.length_set]
        omega
      · simp
    have HADD := Lib.hid (show trnB rs hs pa pb = true → trnR rs hs pa pb = rs ∧ trnH rs hs pa pb = hs.set pa.toNat pb ∧ trnN rs hs pa pb = (cntR rs pa : Int) from fun h => by
      unfold trnR trnH trnN
      rw [h]
      exact ⟨rfl, rfl, rfl⟩)
    have HNO := Lib.hid (show trnB rs hs pa pb = false → trnN rs hs pa pb = -1 from fun h => by
      unfold trnN
      rw [h]
      rfl)
    clear hD hb1 HB
    unfold TrnT at CI
    unfold TrnRes at CS
    generalize hUS : trnR rs hs pa pb = us at *
    generalize hVS : trnH rs hs pa pb = vs at *
    generalize hNN : trnN rs hs pa pb = nn at *
    clear hUS hVS hNN
    go_wp2_with fail
    generalize w1.heap.size = G at *
    generalize w1.alloc (.cells #[.slice (some ⟨g, 0, none⟩) rs.length cr, .slice (some ⟨gh, 0, none⟩) hs.length d] 30) = V1 at *
    refine (CI _ D1.out).mono ?_
    clear CI
    rintro e w2 ⟨v2, rfl, A2, c2, B2, d2, X2, rfl, hm2, -, hb2⟩
    have hba : Below w2.heap.size w2 (w2.alloc (.cells #[.slice A2 us.length c2, .slice B2 vs.length d2] 30)) := (Below.refl _ _).alloc (Nat.le_refl _) _
    have hb3 := hb2.trans (hba.mono hb2.size)
    have D2 := Lib.hid (D1.out.call hb3)
    have T2 := Lib.hid (T1.out.below hb3 T1.out.lt)
    have M2 := Lib.hid (hm2.below hba)
    have P2 := Lib.hid (Box.new w2 30 #[.slice A2 us.length c2, .slice B2 vs.length d2])
    have TW := Lib.hid (T1.out.below hb2 T1.out.lt)
    clear hm2 hb2 hb3 hba D1 T1
    obtain ⟨zt, t0, t1, -, -⟩ := TW.out.two
    go_wp2_with fail
    clear zt t0 t1 TW
    generalize w2.heap.size = X at *
    generalize w2.alloc (.cells #[.slice A2 us.length c2, .slice B2 vs.length d2] 30) = V2 at *
    refine (CS _ D2.out).mono ?_
    clear CS
    rintro e w3 ⟨v3, rfl, A3, c3, g3, B3, d3, h3, rfl, -, -, ho3, hn3, hb4, -, -⟩
    have hba : Below w3.heap.size w3 (w3.alloc (.cells #[.slice A3 us.length c3, .slice B3 vs.length d3] 30)) := (Below.refl _ _).alloc (Nat.le_refl _) _
    have hb5 := hb4.trans (hba.mono hb4.size)
    have D3 := Lib.hid (D2.out.call hb5)
    have T3 := Lib.hid (T2.out.below hb5 T2.out.lt)
    have M3 := Lib.hid (M2.out.below hb5)
    have P3 := Lib.hid (P2.out.below hb5 P2.out.lt)
    have O4 := Lib.hid (ho3.below hba)
    have N4 := Lib.hid (hn3.below hba)
    have Q3 := Lib.hid (Box.new w3 30 #[.slice A3 us.length c3, .slice B3 vs.length d3])
    have PW := Lib.hid (P2.out.below hb4 P2.out.lt)
    clear ho3 hn3 hb4 hb5 hba D2 T2 M2 P2
    have CSAME := fun W (h1 : Sl W W.heap.size A2 us) (h2 : Sl W W.heap.size A3 us) (h3 : Sli W W.heap.size B2 vs) (h4 : Sli W W.heap.size B3 vs) => sameTable_same A2 A3 B2 B3 us vs c2 c3 d2 d3 W (by omega) (by omega) h1 h2 h3 h4
    obtain ⟨zp, p0, p1, -, -⟩ := PW.out.two
    cases hok : trnB rs hs pa pb with
    | false =>
      obtain rfl := HNO.out hok
      clear HADD HNO hok
      go_wp2_with fail
      clear zp p0 p1 PW
      generalize w3.heap.size = Y at *
      generalize w3.alloc (.cells #[.slice A3 us.length c3, .slice B3 vs.length d3] 30) = V3 at *
      refine (CSAME _ M3.out.sl O4.out.sl M3.out.sli N4.out.sli).mono ?_
      rintro e w4 ⟨rfl, hb6⟩
      have D4 := Lib.hid (D3.out.call hb6)
      have M5 := Lib.hid (M3.out.below hb6)
      have O6 := Lib.hid (O4.out.below hb6)
      have N6 := Lib.hid (N4.out.below hb6)
      have P4 := Lib.hid (P3.out.below hb6 P3.out.lt)
      have Q4 := Lib.hid (Q3.out.below hb6 Q3.out.lt)
      clear hb6 D3 T3 M3 O4 N4 P3 Q3
      obtain ⟨zp, p0, p1, -, -⟩ := P4.out.two
      obtain ⟨zq, q0, q1, -, -⟩ := Q4.out.two
      go_wp2_with fail
      refine (CSAME _ M5.out.sl O6.out.sl M5.out.sli N6.out.sli).mono ?_
      clear CSAME
      rintro e w5 ⟨rfl, hb7⟩
      have B5 := Lib.hid (D4.out.bel.trans (hb7.mono D4.out.bel.size))
      clear hb7 zp p0 p1 zq q0 q1
      go_wp2_with fail
      go_ret
      exact ⟨rfl, B5.out⟩
    | true =>
      obtain ⟨e1, e2, e3⟩ := HADD.out hok
      have e1 := e1.symm
      subst e1
      subst e3
      obtain ⟨hv, hq, hnd⟩ := trnB_iff.1 hok
      obtain ⟨q, rfl⟩ : ∃ q : Nat, pa = (q : Int) := ⟨pa.toNat, by omega⟩
      rw [Int.toNat_natCast] at e2
      have hql : q < hs.length := by omega
      have HU := Lib.hid (set_valid (h := q) hv hnd)
      have HV := Lib.hid hv
      have HSL := Lib.hid (show vs.length = hs.length by rw [e2]; exact List.length_set)
      have HVS := Lib.hid e2.symm
      clear e2
      have hcn : cntR rs (q : Int) ≤ 31 := Nat.le_trans (cntR_le _ _) (by omega)
      have hnn : ¬ ((cntR rs (q : Int) : Int) < 0) := by omega
      clear hok HADD HNO hv hq
      go_wp2_with fail
      clear zp p0 p1 PW
      generalize w3.heap.size = Y at *
      generalize w3.alloc (.cells #[.slice A3 rs.length c3, .slice B3 vs.length d3] 30) = V3 at *
      refine (CSAME _ M3.out.sl O4.out.sl M3.out.sli N4.out.sli).mono ?_
      clear CSAME
      rintro e w4 ⟨rfl, hb6⟩
      have D4 := Lib.hid (D3.out.call hb6)
      have T4 := Lib.hid (T3.out.below hb6 T3.out.lt)
      have M5 := Lib.hid (M3.out.below hb6)
      have P4 := Lib.hid (P3.out.below hb6 P3.out.lt)
      clear hb6 D3 T3 M3 P3 O4 N4 Q3
      obtain ⟨g2, h2, rfl, rfl, har, han, -⟩ : ∃ g2 h2, A2 = some ⟨g2, 0, none⟩ ∧ B2 = some ⟨h2, 0, none⟩ ∧ Arrt w4 g2 rs ∧ Arri w4 h2 vs ∧ True := by
        rcases M5.out with ⟨g2, h2, e1, e2, h3, h4, _⟩ | ⟨_, e, _⟩
        · exact ⟨g2, h2, e1, e2, h3, h4, trivial⟩
        · have hsl := HSL.out
          rw [e] at hsl
          simp at hsl
          omega
      have O5 := Lib.hid har
      have N5 := Lib.hid han
      clear har han M5
      have HTU := Lib.hid (fun (a : Nat) (ha : a < 256) => hop_turn (a := (a : Int)) HV.out HU.out (by omega) hql)
      rw [HVS.out] at HTU HU
      have CF0 := fun (a : Nat) W (h : DT w rs hs g cr gh d W) => tableFind_impl (some ⟨g, 0, none⟩) rs cr (some ⟨gh, 0, none⟩) hs d (a : Int) W (by omega) (by omega) h.sl h.sli
      have CH0 := fun (a : Nat) W (h : DT w rs hs g cr gh d W) => tableHop_impl (some ⟨g, 0, none⟩) rs cr (some ⟨gh, 0, none⟩) hs d (a : Int) W (by omega) (by omega) h.sl h.sli
      have CO0 := fun (a : Nat) W (h : Arrt W g2 rs) (h' : Arri W h2 vs) => tableHop_impl (some ⟨g2, 0, none⟩) rs c2 (some ⟨h2, 0, none⟩) vs d2 (a : Int) W (by omega) (by have := HSL.out; omega) (h.sl h.lt) (h'.sli h'.lt)
      go_wp2_with fail
      go_loopw [10] (fun i wr => ∃ a : Nat, a ≤ 256 ∧ i = .int .i64 (a : Int) ∧ Hid (DT w rs hs g cr gh d wr) ∧ Hid (Arrt wr g2 rs) ∧ Hid (Arri wr h2 vs) ∧ Hid (Box wr G 30 #[.slice (some ⟨g, 0, none⟩) rs.length cr, .slice (some ⟨gh, 0, none⟩) hs.length d]) ∧ Hid (Box wr X 30 #[.slice (some ⟨g2, 0, none⟩) rs.length c2, .slice (some ⟨h2, 0, none⟩) vs.length d2])) (fun i _ => 256 - (intOf i).toNat)
      case atStart => exact ⟨0, Nat.zero_le _, rfl, D4, O5, N5, T4, P4⟩
      case round =>
        obtain ⟨a, hk, rfl, D5, O6, N6, T5, P5⟩ := hrel
        clear D4 O5 N5 T4 P4
        obtain ⟨zt, t0, t1, -, -⟩ := T5.out.two
        by_cases hlt : a < 256
        · have hki : (a : Int) < 256 := by omega
          have HF := Lib.hid (fndA_spec (rs := rs) (hs := hs) (a := (a : Int)) HV.out (by omega))
          obtain ⟨hT1, hT2⟩ := HTU.out a hlt
          have HT1 := Lib.hid hT1
          have HT2 := Lib.hid hT2
          have CF := CF0 a
          have CH1 := CH0 a
          have CO := CO0 a
          clear hT1 hT2 CF0 CH0 CO0 HTU
          generalize hopA rs vs (a : Int) = ho at *
          generalize hopA rs hs (a : Int) = hq0 at *
          generalize fndA rs hs (a : Int) = kk at *
          go_wp2_with fail
          refine (CF _ D5.out).mono ?_
          clear CF
          rintro e w5 ⟨rfl, hb5⟩
          have D6 := Lib.hid (D5.out.call hb5)
          have O7 := Lib.hid (O6.out.below hb5 O6.out.lt)
          have N7 := Lib.hid (N6.out.below hb5 N6.out.lt)
          have T6 := Lib.hid (T5.out.below hb5 T5.out.lt)
          have P6 := Lib.hid (P5.out.below hb5 P5.out.lt)
          clear hb5 D5 O6 N6 T5 P5 zt t0 t1
          obtain ⟨zp, p0, p1, -, -⟩ := P6.out.two
          go_wp2_with fail
          refine (CO _ O7.out N7.out).mono ?_
          clear CO
          rintro e w6 ⟨rfl, hb6⟩
          have D8 := Lib.hid (D6.out.call hb6)
          have O8 := Lib.hid (O7.out.below hb6 O7.out.lt)
          have N8 := Lib.hid (N7.out.below hb6 N7.out.lt)
          have T8 := Lib.hid (T6.out.below hb6 T6.out.lt)
          have P8 := Lib.hid (P6.out.below hb6 P6.out.lt)
          clear hb6 D6 O7 N7 T6 P6 zp p0 p1
          obtain ⟨zt, t0, t1, -, -⟩ := T8.out.two
          rcases HF.out with ⟨rfl, -⟩ | ⟨kz, z, rfl, hz, -⟩
          · obtain rfl := HT2.out rfl
            clear HF HT1 HT2
            go_wp2_with fail
            refine (CH1 _ D8.out).mono ?_
            clear CH1
            rintro e w7 ⟨rfl, hb7⟩
            have D9 := Lib.hid (D8.out.call hb7)
            have O9 := Lib.hid (O8.out.below hb7 O8.out.lt)
            have N9 := Lib.hid (N8.out.below hb7 N8.out.lt)
            have T9 := Lib.hid (T8.out.below hb7 T8.out.lt)
            have P9 := Lib.hid (P8.out.below hb7 P8.out.lt)
            clear hb7 D8 O8 N8 T8 P8
            clear zt t0 t1
            go_wp2_with fail
            go_roundw
            case rel => exact ⟨a + 1, hlt, by go_num, D9, O9, N9, T9, P9⟩
            case measure => simp [intOf]; omega
          · have hval := HT1.out kz z rfl hz
            have hkz := (List.getElem?_eq_some_iff.1 hz).1
            have hkzi : (kz : Int) < (rs.length : Int) := by omega
            have hkz0 : (0 : Int) ≤ (kz : Int) := by omega
            have hkzn : ¬ ((kz : Int) < 0) := by omega
            obtain ⟨bb, o, e1, zb, s0, s1, s2⟩ := D8.out.sl kz z hz
            cases e1
            simp only [Nat.zero_add] at s0 s1 s2
            obtain ⟨za, zb', zc⟩ := z
            dsimp only at s0 s1 s2 hval
            clear HF HT1 HT2 hz
            by_cases hc' : zc = (q : Int)
            · rw [if_pos hc'] at hval
              subst hval
              subst hc'
              go_wp2_with fail
              go_roundw
              case rel => exact ⟨a + 1, hlt, by go_num, D8, O8, N8, T8, P8⟩
              case measure => simp [intOf]; omega
            · rw [if_neg hc'] at hval
              subst hval
              have g1 : (zc == (q : Int)) = false := beq_eq_false_iff_ne.2 hc'
              have g2' : (zc != (q : Int)) = true := by simp [hc']
              clear hc'
              go_wp2_with fail
              refine (CH1 _ D8.out).mono ?_
              clear CH1
              rintro e w7 ⟨rfl, hb7⟩
              have D9 := Lib.hid (D8.out.call hb7)
              have O9 := Lib.hid (O8.out.below hb7 O8.out.lt)
              have N9 := Lib.hid (N8.out.below hb7 N8.out.lt)
              have T9 := Lib.hid (T8.out.below hb7 T8.out.lt)
              have P9 := Lib.hid (P8.out.below hb7 P8.out.lt)
              clear hb7 D8 O8 N8 T8 P8
              clear zt t0 t1 s0 s1 s2 zb
              go_wp2_with fail
              go_roundw
              case rel => exact ⟨a + 1, hlt, by go_num, D9, O9, N9, T9, P9⟩
              case measure => simp [intOf]; omega
        · have h256 : a = 256 := by omega
          subst h256
          go_wp2_with fail
          go_ret
          exact ⟨rfl, D5.out.bel⟩
  · go_enter Try.func10, Try.ntmps10
    go_wp2_with fail
    go_ret
    exact ⟨rfl, Below.refl _ _⟩
end Go.Proofs.Ytohflcbpjjnccab
