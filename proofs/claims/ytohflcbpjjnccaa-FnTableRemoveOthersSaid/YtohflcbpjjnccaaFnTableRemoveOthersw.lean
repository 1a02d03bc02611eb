/-
  The walk of FnTableRemoveOthers over this seat.
-/
import Derived.Test.YtohflcbpjjnccaaTs
import Derived.Test.YtohflcbpjjnccaaTk
import Derived.Test.YtohflcbpjjnccaaTx
import Derived.Test.YtohflcbpjjnccaaTm
import Derived.Test.YtohflcbpjjnccaaWu
import Derived.Test.YtohflcbpjjnccaaC1
namespace Go.Proofs.Ytohflcbpjjnccaa
open Go.RowKit Go.Maps

set_option maxRecDepth 100000 in
set_option maxHeartbeats 1600000 in
theorem fnTableRemoveOthers_walk (A : Option Addr) (len c : Nat) (Am : Option Addr) (len' c' : Nat) (f f' : Nat → Int) (w : World) (hlc : len ≤ c) (hc : c ≤ maxLen) (hB : Byt w w.heap.size A len f) (_hlc' : len' ≤ c') (_hc' : c' ≤ maxLen) (_hB' : Byt w w.heap.size Am len' f') :
   Calls Try.prog 10 #[.slice A len c, .slice Am len' c'] w fun e w' => e = .returned (.bool true) ∧ Below w.heap.size w w' := by
  have HB := Lib.hid hB
  clear hB _hB'
  by_cases hl : len ≤ 1048576 ∧ len' ≤ 1048576
  · obtain ⟨hl, hl'⟩ := hl
    go_enter Try.func10, Try.ntmps10
    go_wp2_with fail
    refine (drawTR_any A len c f w hlc hc HB.out).mono ?_
    rintro e w1 ⟨rs, hs, g, cr, gh, d, pa, pb, rfl, hD⟩
    have hr31 := hD.hr
    have hh4 := hD.hh
    have hb1 : Below w1.heap.size w1 ((w1.alloc (.cells #[.slice (some ⟨g, 0, none⟩) rs.length cr, .slice (some ⟨gh, 0, none⟩) hs.length d] 26))) := by (repeat (first | exact Below.refl _ _ | (refine Below.alloc ?_ (by first | exact Nat.le_refl _ | omega | (simp; done) | (simp; omega)) _) | (refine Below.setCell ?_ (by first | exact Nat.le_refl _ | omega | (simp; done) | (simp; omega)) _) | exact Below.drew ‹_›))
    have D1 := Lib.hid (hD.call hb1)
    have T1 := Lib.hid ((Box.new w1 26 #[.slice (some ⟨g, 0, none⟩) rs.length cr, .slice (some ⟨gh, 0, none⟩) hs.length d]))
    have CI := fun W (h : DT w rs hs g cr gh d W) => tableRemove_impl g 0 rs cr gh 0 hs d pa pb W (by omega) (by omega) h.sl h.sli
    have CS := fun W (h : DT w rs hs g cr gh d W) => tableRemove_spec g 0 rs cr gh 0 hs d pa pb W (by omega) (by omega) h.sl h.sli
    have hul : (remR rs hs pa pb).length ≤ 32 := by
      unfold remR
      split
      · exact Nat.le_trans (List.length_filter_le _ _) (by omega)
      · simp
    have hvl : (remH rs hs).length ≤ 4 := by
      unfold remH
      split
      · exact hh4
      · simp
    have HADD := Lib.hid (show remB rs hs pa pb = true → remR rs hs pa pb = delR pa pb rs ∧ remH rs hs = hs from fun h => by
      unfold remB at h
      rw [Bool.and_eq_true] at h
      unfold remR remH
      rw [if_pos h.1, if_pos h.1]
      exact ⟨rfl, rfl⟩)
    clear hD hb1 HB
    unfold RemRes at CI CS
    generalize hUS : remR rs hs pa pb = us at *
    generalize hVS : remH rs hs = vs at *
    have HUS := Lib.hid hUS
    have HVS := Lib.hid hVS
    clear hUS hVS
    go_wp2_with fail
    generalize w1.heap.size = G at *
    generalize w1.alloc (.cells #[.slice (some ⟨g, 0, none⟩) rs.length cr, .slice (some ⟨gh, 0, none⟩) hs.length d] 26) = V1 at *
    refine (CI _ D1.out).mono ?_
    rintro e w2 ⟨v2, rfl, A2, c2, g2, B2, d2, h2, rfl, -, -, ho2, hn2, hb2, hc2, hd2⟩
    have hb3 := hb2.alloc hb2.size (.cells #[.slice A2 us.length c2, .slice B2 vs.length d2] 26)
    have D2 := Lib.hid (D1.out.call hb3)
    have T2 := Lib.hid (T1.out.below hb3 T1.out.lt)
    have O2 := Lib.hid (ho2.alloc (.cells #[.slice A2 us.length c2, .slice B2 vs.length d2] 26))
    have N2 := Lib.hid (hn2.alloc (.cells #[.slice A2 us.length c2, .slice B2 vs.length d2] 26))
    have P2 := Lib.hid (Box.new w2 26 #[.slice A2 us.length c2, .slice B2 vs.length d2])
    clear ho2 hn2 hb2 hb3 D1 T1
    obtain ⟨zt, t0, t1, -, -⟩ := T2.out.two
    go_wp2_with fail
    generalize w2.heap.size = X at *
    generalize w2.alloc (.cells #[.slice A2 us.length c2, .slice B2 vs.length d2] 26) = V2 at *
    refine (CS _ D2.out).mono ?_
    clear CS
    rintro e w3 ⟨v3, rfl, A3, c3, g3, B3, d3, h3, rfl, -, -, ho3, hn3, hb4, -, -⟩
    have hb5 := hb4.alloc hb4.size (.cells #[.slice A3 us.length c3, .slice B3 vs.length d3] 26)
    have D3 := Lib.hid (D2.out.call hb5)
    have T3 := Lib.hid (T2.out.below hb5 T2.out.lt)
    have O3 := Lib.hid (O2.out.below hb5)
    have N3 := Lib.hid (N2.out.below hb5)
    have P3 := Lib.hid (P2.out.below hb5 P2.out.lt)
    have O4 := Lib.hid (ho3.alloc (.cells #[.slice A3 us.length c3, .slice B3 vs.length d3] 26))
    have N4 := Lib.hid (hn3.alloc (.cells #[.slice A3 us.length c3, .slice B3 vs.length d3] 26))
    have Q3 := Lib.hid (Box.new w3 26 #[.slice A3 us.length c3, .slice B3 vs.length d3])
    clear ho3 hn3 hb4 hb5 D2 T2 O2 N2 P2 zt t0 t1
    obtain ⟨zp, p0, p1, -, -⟩ := P3.out.two
    obtain ⟨zq, q0, q1, -, -⟩ := Q3.out.two
    have CSAME := fun W (h1 : Sl W W.heap.size A2 us) (h2 : Sl W W.heap.size A3 us) (h3 : Sli W W.heap.size B2 vs) (h4 : Sli W W.heap.size B3 vs) => sameTable_same A2 A3 B2 B3 us vs c2 c3 d2 d3 W (by omega) (by omega) h1 h2 h3 h4
    cases hok : remB rs hs pa pb with
    | false =>
      clear CI HADD
      go_wp2_with fail
      generalize w3.heap.size = Y at *
      generalize w3.alloc (.cells #[.slice A3 us.length c3, .slice B3 vs.length d3] 26) = V3 at *
      refine (CSAME _ O3.out.sl O4.out.sl N3.out.sli N4.out.sli).mono ?_
      rintro e w4 ⟨rfl, hb6⟩
      have D4 := Lib.hid (D3.out.call hb6)
      have O5 := Lib.hid (O3.out.below hb6)
      have N5 := Lib.hid (N3.out.below hb6)
      have O6 := Lib.hid (O4.out.below hb6)
      have N6 := Lib.hid (N4.out.below hb6)
      have P4 := Lib.hid (P3.out.below hb6 P3.out.lt)
      have Q4 := Lib.hid (Q3.out.below hb6 Q3.out.lt)
      clear hb6 D3 T3 O3 N3 O4 N4 P3 Q3 zp p0 p1 zq q0 q1
      obtain ⟨zp, p0, p1, -, -⟩ := P4.out.two
      obtain ⟨zq, q0, q1, -, -⟩ := Q4.out.two
      go_wp2_with fail
      refine (CSAME _ O5.out.sl O6.out.sl N5.out.sli N6.out.sli).mono ?_
      clear CSAME
      rintro e w5 ⟨rfl, hb7⟩
      have B5 := Lib.hid (D4.out.bel.trans (hb7.mono D4.out.bel.size))
      clear hb7 zp p0 p1 zq q0 q1
      go_wp2_with fail
      go_ret
      exact ⟨rfl, B5.out⟩
    | true =>
      obtain ⟨e1, e2⟩ := HADD.out hok
      subst e1
      have e2 := e2.symm
      subst e2
      have HOK := Lib.hid hok
      clear hok HADD HUS HVS
      go_wp2_with fail
      generalize w3.heap.size = Y at *
      generalize w3.alloc (.cells #[.slice A3 (delR pa pb rs).length c3, .slice B3 hs.length d3] 26) = V3 at *
      refine (CSAME _ O3.out.sl O4.out.sl N3.out.sli N4.out.sli).mono ?_
      clear CSAME
      rintro e w4 ⟨rfl, hb6⟩
      have D4 := Lib.hid (D3.out.call hb6)
      have T4 := Lib.hid (T3.out.below hb6 T3.out.lt)
      have O5 := Lib.hid (O3.out.below hb6)
      have N5 := Lib.hid (N3.out.below hb6)
      have P4 := Lib.hid (P3.out.below hb6 P3.out.lt)
      clear hb6 D3 T3 O3 N3 P3 O4 N4 Q3 zp p0 p1 zq q0 q1
      obtain ⟨hv, x, hx, rfl, rfl⟩ : tbB rs hs = true ∧ ∃ x ∈ rs, x.a = pa ∧ x.b = pb := by
        have h := HOK.out
        unfold remB at h
        rw [Bool.and_eq_true] at h
        exact ⟨h.1, keyB_iff.1 h.2⟩
      have hrx := (tbB_iff.1 hv).2.1 x hx
      have hrt : rtB hs.length ⟨x.a, x.b, 0⟩ = true := by
        obtain ⟨k1, k2, k3, k4, k5⟩ := rtB_iff.1 hrx
        exact rtB_iff.2 ⟨k1, k2, k3, Int.le_refl _, by dsimp only; omega⟩
      have hwm : IntKind.i64.wrap ((len' : Int) * 13) = (len' : Int) * 13 := IntWalk.i64_in _ (by omega)
      have hq : Int.tmod ((len' : Int) * 13) 256 = ((len' * 13 % 256 : Nat) : Int) := by
        rw [Int.tmod_eq_emod_of_nonneg (by omega)]
        omega
      have hal : len' * 13 % 256 < 256 := Nat.mod_lt _ (by omega)
      have HEQ := Lib.hid (fun (am : Nat) (h : am < 256) (hr : mtB ⟨x.a, x.b, 0⟩ (am : Int) = false) => hop_del (a := (am : Int)) hv (del_valid hv) (by omega) hr)
      have CX := fun am : Nat => matches_any ⟨x.a, x.b, 0⟩ (am : Int) w4.drew (rtB_iff.1 hrt).1 (rtB_iff.1 hrt).2.1
      have HRG := fun am : Nat => rgB_mt (a := (am : Int)) hrt
      have H1 := fun (am : Nat) W (h : Sl W W.heap.size A2 (delR x.a x.b rs)) (h' : Sli W W.heap.size B2 hs) => tableHop_impl A2 (delR x.a x.b rs) c2 B2 hs d2 (am : Int) W (by omega) (by omega) h h'
      have H2 := fun (am : Nat) W (h : DT w rs hs g cr gh d W) => tableHop_impl (some ⟨g, 0, none⟩) rs cr (some ⟨gh, 0, none⟩) hs d (am : Int) W (by omega) (by omega) h.sl h.sli
      clear CI
      generalize len' * 13 % 256 = am at *
      generalize x.a = pa at *
      generalize x.b = pb at *
      have CX := CX am
      have H1 := H1 am
      have H2 := H2 am
      rw [HRG am] at CX
      dsimp only [rtV] at CX
      have HEQ2 := Lib.hid (HEQ.out am hal)
      obtain ⟨zt, t0, t1, -, -⟩ := T4.out.two
      obtain ⟨zp, p0, p1, -, -⟩ := P4.out.two
      have hX := fun (x : Ext w4.drew) (bb o : Nat) (h : bb < w4.heap.size) => (show x.w.cell? ⟨bb, o, none⟩ = w4.cell? ⟨bb, o, none⟩ from x.cell bb o h)
      clear HRG HEQ hrt hrx hx hv HOK
      go_wp2_with fail
      refine wp_region_staged 15 (by kernel_rfl) (by kernel_rfl) ?_
      refine stage_seg _ 12 [0, 1, 3] (by kernel_rfl) (by kernel_rfl) (by kernel_rfl) (by kernel_rfl) ?_
      (simp only [List.map_cons, List.map_nil, List.getElem?_cons_zero, List.getElem?_cons_succ, Option.getD_some]); (repeat (go_big_quiet_step (fail))); (refine wpQuiet_nil ?_)
      clear hX zt t0 t1 zp p0 p1
      refine stage_call _ 11 2 (by kernel_rfl) (by rfl) (by kernel_rfl) (by rfl) ?_
      go_wp2_with fail
      refine ⟨Below.refl _ _, ?_⟩
      refine stage_call _ 10 4 (by kernel_rfl) (by rfl) (by kernel_rfl) (by rfl) ?_
      go_wp2_with fail
      refine CX.mono ?_
      clear CX
      rintro e w5 ⟨rfl, hb9⟩
      refine ⟨hb9, ?_⟩
      have D5 := Lib.hid ((D4.out.call (Below.refl _ _).drew).call hb9)
      have O6 := Lib.hid (OwT.below (w := w4.drew) O5.out hb9)
      have N6 := Lib.hid (Own1i.below (w := w4.drew) N5.out hb9)
      have P5 := Lib.hid (Box.below (w := w4.drew) P4.out hb9 P4.out.lt)
      have T5 := Lib.hid (Box.below (w := w4.drew) T4.out hb9 T4.out.lt)
      clear hb9 D4 O5 N5 P4 T4
      cases hmt : mtB ⟨pa, pb, 0⟩ (am : Int) with
      | true =>
        clear H1 H2 HEQ2
        refine stage_seg _ 5 [5, 6, 7, 9, 10] (by kernel_rfl) (by kernel_rfl) (by kernel_rfl) (by kernel_rfl) ?_
        (simp only [List.map_cons, List.map_nil, List.getElem?_cons_zero, List.getElem?_cons_succ, Option.getD_some]); (repeat (go_big_quiet_step (fail))); (refine wpQuiet_nil ?_)
        refine stage_skip _ 4 8 (by kernel_rfl) (by rfl) (by kernel_rfl) (by rfl) ?_
        refine stage_skip _ 3 11 (by kernel_rfl) (by rfl) (by kernel_rfl) (by rfl) ?_
        go_simp
        refine stage_seg _ 0 [12, 13, 14] (by kernel_rfl) (by kernel_rfl) (by kernel_rfl) (by kernel_rfl) ?_
        (simp only [List.map_cons, List.map_nil, List.getElem?_cons_zero, List.getElem?_cons_succ, Option.getD_some]); (repeat (go_big_quiet_step (fail))); (refine wpQuiet_nil ?_)
        refine stage_end (by kernel_rfl) ?_
        go_wp2_with fail
        go_ret
        exact ⟨rfl, D5.out.bel⟩
      | false =>
        have he := HEQ2.out hmt
        rw [he] at H1
        clear HEQ2 hmt he
        generalize hopA rs hs (am : Int) = oo at *
        obtain ⟨zt, t0, t1, -, -⟩ := T5.out.two
        obtain ⟨zp, p0, p1, -, -⟩ := P5.out.two
        have hX := fun (x : Ext w5) (bb o : Nat) (h : bb < w5.heap.size) => x.cell bb o h
        refine stage_seg _ 5 [5, 6, 7, 9, 10] (by kernel_rfl) (by kernel_rfl) (by kernel_rfl) (by kernel_rfl) ?_
        (simp only [List.map_cons, List.map_nil, List.getElem?_cons_zero, List.getElem?_cons_succ, Option.getD_some]); (repeat (go_big_quiet_step (fail))); (refine wpQuiet_nil ?_)
        clear hX zt t0 t1 zp p0 p1
        refine stage_call _ 4 8 (by kernel_rfl) (by rfl) (by kernel_rfl) (by rfl) ?_
        go_wp2_with fail
        refine (H1 _ O6.out.sl N6.out.sli).mono ?_
        clear H1
        rintro e w6 ⟨rfl, hb10⟩
        refine ⟨hb10, ?_⟩
        have D6 := Lib.hid (D5.out.call hb10)
        clear hb10 D5 O6 N6 P5 T5
        refine stage_call _ 3 11 (by kernel_rfl) (by rfl) (by kernel_rfl) (by rfl) ?_
        go_wp2_with fail
        refine (H2 _ D6.out).mono ?_
        clear H2
        rintro e w7 ⟨rfl, hb11⟩
        refine ⟨hb11, ?_⟩
        have D7 := Lib.hid (D6.out.call hb11)
        clear hb11 D6
        refine stage_seg _ 0 [12, 13, 14] (by kernel_rfl) (by kernel_rfl) (by kernel_rfl) (by kernel_rfl) ?_
        (simp only [List.map_cons, List.map_nil, List.getElem?_cons_zero, List.getElem?_cons_succ, Option.getD_some]); (repeat (go_big_quiet_step (fail))); (refine wpQuiet_nil ?_)
        refine stage_end (by kernel_rfl) ?_
        go_wp2_with fail
        go_ret
        exact ⟨ret_bool (by simp), D7.out.bel⟩
  · by_cases hl2 : len ≤ 1048576
    · have hl3 : 1048576 < len' := by omega
      clear hl
      go_enter Try.func10, Try.ntmps10
      go_wp2
      go_ret
      exact ⟨rfl, by (repeat (first | exact Below.refl _ _ | (refine Below.alloc ?_ (by first | exact Nat.le_refl _ | omega | (simp; done) | (simp; omega)) _) | (refine Below.setCell ?_ (by first | exact Nat.le_refl _ | omega | (simp; done) | (simp; omega)) _) | exact Below.drew ‹_›))⟩
    · clear hl
      go_enter Try.func10, Try.ntmps10
      go_wp2
      go_ret
      exact ⟨rfl, by (repeat (first | exact Below.refl _ _ | (refine Below.alloc ?_ (by first | exact Nat.le_refl _ | omega | (simp; done) | (simp; omega)) _) | (refine Below.setCell ?_ (by first | exact Nat.le_refl _ | omega | (simp; done) | (simp; omega)) _) | exact Below.drew ‹_›))⟩
end Go.Proofs.Ytohflcbpjjnccaa
