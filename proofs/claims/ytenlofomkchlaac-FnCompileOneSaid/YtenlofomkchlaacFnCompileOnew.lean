/-
  The walk of FnCompileOne over this seat.
-/
import Derived.Test.YtenlofomkchlaacD2
import Derived.Test.YtenlofomkchlaacLq
namespace Go.Proofs.Ytenlofomkchlaac
open Go.RowKit Go.Maps

set_option maxRecDepth 100000 in
set_option maxHeartbeats 1600000 in
theorem fnCompileOne_walk (A : Option Addr) (len c : Nat) (f : Nat → Int) (w : World) (hlc : len ≤ c) (hc : c ≤ maxLen) (hB : Byt w w.heap.size A len f) :
   Calls Try.prog 7 #[.slice A len c] w fun e w' => e = .returned (.bool true) ∧ Below w.heap.size w w' := by
  have HB := Lib.hid hB
  clear hB
  by_cases hl : len ≤ 1048576
  · go_enter Try.func7, Try.ntmps7
    go_wp2_with fail
    refine (drawCompile_any A len c f w hlc hc HB.out).mono ?_
    rintro e w1 ⟨n, ls, A1, g1, c1, xs, gx, cx, rfl, ⟨hn0, hn1, hls, hg1, ho1, hb1⟩, hs12, hox, hgx, hcx, hgl⟩
    have L1 := Lib.hid (show LP w w1.heap.size n ls A1 g1 c1 gx xs (w1.alloc (.cells #[.int .i64 n, .slice A1 ls.length c1] 32)) from ⟨⟨Box.new w1 _ _, ho1.alloc _, hb1.alloc hb1.size _⟩, hox.alloc _⟩)
    clear ho1 hb1 HB hox
    generalize hG : w1.heap.size = G at *
    have CI := fun W (h1 : Sl W W.heap.size A1 ls) (h2 : Sli W W.heap.size (some ⟨gx, 0, none⟩) xs) => stackCompile_impl n A1 ls c1 (some ⟨gx, 0, none⟩) xs cx W (by omega) (by omega) hcx h1 h2
    have CS := fun W (h1 : Sl W W.heap.size A1 ls) (h2 : Sli W W.heap.size (some ⟨gx, 0, none⟩) xs) => stackCompile_spec n A1 ls c1 (some ⟨gx, 0, none⟩) xs cx W (by omega) (by omega) (by omega) hcx h1 h2
    unfold CmpR at CI CS
    have h8 := cmpI_len n ls xs
    cases hv : pvB n ls xs with
    | false =>
      rw [hv] at CI CS
      generalize cmpI n ls xs = st at *
      clear hv
      go_wp2_with fail
      refine (CI _ L1.out.sl L1.out.sli).mono ?_
      rintro e w2 ⟨A2, g2, c2, rfl, hg2, ho2, hb2, hc2⟩
      have L2 := Lib.hid (L1.out.call hb2)
      have P2 := Lib.hid ho2
      clear hb2 ho2 hg2 L1 hG
      obtain ⟨z2, c20, c21, -, -⟩ := L2.out.1.1.two
      go_wp2_with fail
      refine (CS _ L2.out.sl L2.out.sli).mono ?_
      rintro e w3 ⟨A3, g3, c3, rfl, hg3, ho3, hb3, hc3⟩
      have L3 := Lib.hid (L2.out.call hb3)
      have P3 := Lib.hid (P2.out.below hb3)
      have T3 := Lib.hid ho3
      clear hb3 ho3 hg3 L2 P2 z2 c20 c21 CS
      go_wp2_with fail
      refine (sameLabels_same A2 A3 st c2 c3 w3 (by omega) P3.out.slb T3.out.slb).mono ?_
      rintro e w4 ⟨rfl, hb4⟩
      have L4 := Lib.hid (L3.out.call hb4)
      have P4 := Lib.hid (P3.out.below hb4)
      have T4 := Lib.hid (T3.out.below hb4)
      clear hb4 L3 P3 T3
      go_wp2_with fail
      refine (sameLabels_same A2 A3 st c2 c3 w4 (by omega) P4.out.slb T4.out.slb).mono ?_
      rintro e w5 ⟨rfl, hb5⟩
      have L5 := Lib.hid (L4.out.call hb5)
      clear hb5
      go_wp2_with fail
      go_ret
      exact ⟨rfl, L5.out.1.2.2⟩
    | true =>
      obtain ⟨m, rfl, hp⟩ := pvB_PV hv
      rw [hv] at CI CS
      have hpos := hp.pos
      have hl9 := hp.len
      by_cases hx2 : xs.length < 2
      · generalize cmpI (m : Int) ls xs = st at *
        clear hv hp
        go_wp2_with fail
        refine (CI _ L1.out.sl L1.out.sli).mono ?_
        rintro e w2 ⟨A2, g2, c2, rfl, hg2, ho2, hb2, hc2⟩
        have L2 := Lib.hid (L1.out.call hb2)
        have P2 := Lib.hid ho2
        clear hb2 ho2 hg2 L1 hG
        obtain ⟨z2, c20, c21, -, -⟩ := L2.out.1.1.two
        go_wp2_with fail
        refine (CS _ L2.out.sl L2.out.sli).mono ?_
        rintro e w3 ⟨A3, g3, c3, rfl, hg3, ho3, hb3, hc3⟩
        have L3 := Lib.hid (L2.out.call hb3)
        have P3 := Lib.hid (P2.out.below hb3)
        have T3 := Lib.hid ho3
        clear hb3 ho3 hg3 L2 P2 z2 c20 c21 CS
        go_wp2_with fail
        refine (sameLabels_same A2 A3 st c2 c3 w3 (by omega) P3.out.slb T3.out.slb).mono ?_
        rintro e w4 ⟨rfl, hb4⟩
        have L4 := Lib.hid (L3.out.call hb4)
        have P4 := Lib.hid (P3.out.below hb4)
        have T4 := Lib.hid (T3.out.below hb4)
        clear hb4 L3 P3 T3 CI
        go_wp2_with fail
        refine (sameLabels_same A2 A3 st c2 c3 w4 (by omega) P4.out.slb T4.out.slb).mono ?_
        rintro e w5 ⟨rfl, hb5⟩
        have L5 := Lib.hid (L4.out.call hb5)
        clear hb5
        go_wp2_with fail
        go_ret
        exact ⟨rfl, L5.out.1.2.2⟩
      · have h2 : 2 ≤ xs.length := by omega
        obtain ⟨a, b, ha, hb, har, hbr⟩ := hp.two
        obtain ⟨q, rfl⟩ : ∃ q : Nat, b = (q : Int) := ⟨b.toNat, by omega⟩
        have hqm : q < m := by omega
        have HO := Lib.hid (hp.one h2 ha hb)
        have HM := Lib.hid (hp.more h2 ha hb)
        obtain ⟨u, hu⟩ : ∃ u, xs.length = u + 1 := ⟨xs.length - 1, by omega⟩
        have hsub : (xs.length : Int) - 1 = (u : Int) := by omega
        have hwp : IntKind.i64.wrap (u : Int) = (u : Int) := IntWalk.i64_in _ (by omega)
        have hul : u < xs.length := by omega
        have hbu : xs[u]? = some (q : Int) := by rw [← hb, hu]; rfl
        have HA := Lib.hid ha
        have HBU := Lib.hid hbu
        have CN := fun W (h1 : Sl W W.heap.size A1 ls) => count_impl (m : Int) A1 ls c1 a (q : Int) W (by omega) h1
        have CU := fun W (h1 : Sl W W.heap.size A1 ls) (h2 : Sli W W.heap.size (some ⟨gx, 0, none⟩) xs) => pathCost_impl (m : Int) A1 ls c1 (some ⟨gx, 0, none⟩) xs cx W (by omega) (by omega) h1 h2
        have CD := fun W (h : Sl W W.heap.size A1 ls) => dist_any m A1 ls c1 a q W (by omega) hp.gv har hqm h
        generalize cmpI (m : Int) ls xs = st at *
        generalize bf (m : Int) ls a (q : Int) = d at *
        generalize costP (m : Int) ls xs = t at *
        generalize countI (m : Int) ls a (q : Int) = k at *
        clear hv hp ha hb hu hbu hx2
        go_wp2_with fail
        refine (CI _ L1.out.sl L1.out.sli).mono ?_
        rintro e w2 ⟨A2, g2, c2, rfl, hg2, ho2, hb2, hc2⟩
        have L2 := Lib.hid (L1.out.call hb2)
        have P2 := Lib.hid ho2
        clear hb2 ho2 hg2 L1 hG
        obtain ⟨z2, c20, c21, -, -⟩ := L2.out.1.1.two
        go_wp2_with fail
        refine (CS _ L2.out.sl L2.out.sli).mono ?_
        rintro e w3 ⟨A3, g3, c3, rfl, hg3, ho3, hb3, hc3⟩
        have L3 := Lib.hid (L2.out.call hb3)
        have P3 := Lib.hid (P2.out.below hb3)
        have T3 := Lib.hid ho3
        clear hb3 ho3 hg3 L2 P2 z2 c20 c21 CS
        go_wp2_with fail
        refine (sameLabels_same A2 A3 st c2 c3 w3 (by omega) P3.out.slb T3.out.slb).mono ?_
        rintro e w4 ⟨rfl, hb4⟩
        have L4 := Lib.hid (L3.out.call hb4)
        have P4 := Lib.hid (P3.out.below hb4)
        have T4 := Lib.hid (T3.out.below hb4)
        clear hb4 L3 P3 T3 CI
        by_cases hk : k = 1
        · subst hk
          by_cases htd : t = d
          · subst htd
            have hst := HO.out rfl rfl
            subst hst
            obtain ⟨z4, c40, c41, -, -⟩ := L4.out.1.1.two
            obtain ⟨zx, x0⟩ := L4.out.node HA.out
            obtain ⟨-, x1⟩ := L4.out.node HBU.out
            have hX := fun (x : Ext w4.drew) (bb o : Nat) (h : bb < w4.heap.size) => (show x.w.cell? ⟨bb, o, none⟩ = w4.cell? ⟨bb, o, none⟩ from x.cell bb o h)
            go_wp2_with fail
            refine wp_region_staged 15 (by kernel_rfl) (by kernel_rfl) ?_
            refine stage_seg _ 12 [0, 1, 2] (by kernel_rfl) (by kernel_rfl) (by kernel_rfl) (by kernel_rfl) ?_
            (simp only [List.map_cons, List.map_nil, List.getElem?_cons_zero, List.getElem?_cons_succ, Option.getD_some]); (repeat (go_big_quiet_step (fail))); (refine wpQuiet_nil ?_)
            refine stage_call _ 11 3 (by kernel_rfl) (by rfl) (by kernel_rfl) (by rfl) ?_
            go_wp2_with fail
            refine (CN w4.drew L4.out.drew.sl).mono ?_
            clear CN
            rintro e w5 ⟨rfl, hb5⟩
            refine ⟨hb5, ?_⟩
            have L5 := Lib.hid (L4.out.drew.call hb5)
            have P5 := Lib.hid (Ownb.below (w := w4.drew) P4.out hb5)
            clear hb5 hX z4 c40 c41 zx x0 x1 L4 P4 T4
            obtain ⟨z5, c50, c51, -, -⟩ := L5.out.1.1.two
            have hX5 := fun (x : Ext w5) (bb o : Nat) (h : bb < w5.heap.size) => x.cell bb o h
            refine stage_seg _ 4 [4, 5, 6, 7, 9, 10, 11] (by kernel_rfl) (by kernel_rfl) (by kernel_rfl) (by kernel_rfl) ?_
            (simp only [List.map_cons, List.map_nil, List.getElem?_cons_zero, List.getElem?_cons_succ, Option.getD_some]); (repeat (go_big_quiet_step (fail))); (refine wpQuiet_nil ?_)
            refine stage_call _ 3 8 (by kernel_rfl) (by rfl) (by kernel_rfl) (by rfl) ?_
            go_wp2_with fail
            refine (CU w5 L5.out.sl L5.out.sli).mono ?_
            clear CU
            rintro e w6 ⟨rfl, hb6⟩
            refine ⟨hb6, ?_⟩
            have L6 := Lib.hid (L5.out.call hb6)
            have P6 := Lib.hid (P5.out.below hb6)
            clear hb6 hX5 z5 c50 c51 L5 P5
            refine stage_call _ 2 12 (by kernel_rfl) (by rfl) (by kernel_rfl) (by rfl) ?_
            go_wp2_with fail
            refine (CD w6 L6.out.sl).mono ?_
            clear CD
            rintro e w7 ⟨rfl, hb7⟩
            refine ⟨hb7, ?_⟩
            have L7 := Lib.hid (L6.out.call hb7)
            have P7 := Lib.hid (P6.out.below hb7)
            clear hb7 L6 P6
            refine stage_seg _ 0 [13, 14] (by kernel_rfl) (by kernel_rfl) (by kernel_rfl) (by kernel_rfl) ?_
            (simp only [List.map_cons, List.map_nil, List.getElem?_cons_zero, List.getElem?_cons_succ, Option.getD_some]); (repeat (go_big_quiet_step (fail))); (refine wpQuiet_nil ?_)
            refine stage_end (by kernel_rfl) ?_
            obtain ⟨e1, hz7, k0, k1⟩ := own_lab P7.out (show ([(⟨1, (q : Int)⟩ : Lb)])[0]? = some ⟨1, (q : Int)⟩ from rfl)
            cases e1
            go_wp2_with fail
            go_ret
            exact ⟨ret_bool (by simp), L7.out.1.2.2⟩
          · have htd' : (t != d) = true := by simp [htd]
            have HNE : Hid (¬ ((1 : Int) = 1 ∧ t = d)) := Lib.hid (fun h => htd h.2)
            clear htd
            obtain ⟨z4, c40, c41, -, -⟩ := L4.out.1.1.two
            obtain ⟨zx, x0⟩ := L4.out.node HA.out
            obtain ⟨-, x1⟩ := L4.out.node HBU.out
            have hX := fun (x : Ext w4.drew) (bb o : Nat) (h : bb < w4.heap.size) => (show x.w.cell? ⟨bb, o, none⟩ = w4.cell? ⟨bb, o, none⟩ from x.cell bb o h)
            go_wp2_with fail
            refine wp_region_staged 15 (by kernel_rfl) (by kernel_rfl) ?_
            refine stage_seg _ 12 [0, 1, 2] (by kernel_rfl) (by kernel_rfl) (by kernel_rfl) (by kernel_rfl) ?_
            (simp only [List.map_cons, List.map_nil, List.getElem?_cons_zero, List.getElem?_cons_succ, Option.getD_some]); (repeat (go_big_quiet_step (fail))); (refine wpQuiet_nil ?_)
            refine stage_call _ 11 3 (by kernel_rfl) (by rfl) (by kernel_rfl) (by rfl) ?_
            go_wp2_with fail
            refine (CN w4.drew L4.out.drew.sl).mono ?_
            clear CN
            rintro e w5 ⟨rfl, hb5⟩
            refine ⟨hb5, ?_⟩
            have L5 := Lib.hid (L4.out.drew.call hb5)
            have P5 := Lib.hid (Ownb.below (w := w4.drew) P4.out hb5)
            clear hb5 hX z4 c40 c41 zx x0 x1 L4 P4 T4
            obtain ⟨z5, c50, c51, -, -⟩ := L5.out.1.1.two
            have hX5 := fun (x : Ext w5) (bb o : Nat) (h : bb < w5.heap.size) => x.cell bb o h
            refine stage_seg _ 4 [4, 5, 6, 7, 9, 10, 11] (by kernel_rfl) (by kernel_rfl) (by kernel_rfl) (by kernel_rfl) ?_
            (simp only [List.map_cons, List.map_nil, List.getElem?_cons_zero, List.getElem?_cons_succ, Option.getD_some]); (repeat (go_big_quiet_step (fail))); (refine wpQuiet_nil ?_)
            refine stage_call _ 3 8 (by kernel_rfl) (by rfl) (by kernel_rfl) (by rfl) ?_
            go_wp2_with fail
            refine (CU w5 L5.out.sl L5.out.sli).mono ?_
            clear CU
            rintro e w6 ⟨rfl, hb6⟩
            refine ⟨hb6, ?_⟩
            have L6 := Lib.hid (L5.out.call hb6)
            have P6 := Lib.hid (P5.out.below hb6)
            clear hb6 hX5 z5 c50 c51 L5 P5
            refine stage_call _ 2 12 (by kernel_rfl) (by rfl) (by kernel_rfl) (by rfl) ?_
            go_wp2_with fail
            refine (CD w6 L6.out.sl).mono ?_
            clear CD
            rintro e w7 ⟨rfl, hb7⟩
            refine ⟨hb7, ?_⟩
            have L7 := Lib.hid (L6.out.call hb7)
            have P7 := Lib.hid (P6.out.below hb7)
            clear hb7 L6 P6
            refine stage_seg _ 0 [13, 14] (by kernel_rfl) (by kernel_rfl) (by kernel_rfl) (by kernel_rfl) ?_
            (simp only [List.map_cons, List.map_nil, List.getElem?_cons_zero, List.getElem?_cons_succ, Option.getD_some]); (repeat (go_big_quiet_step (fail))); (refine wpQuiet_nil ?_)
            refine stage_end (by kernel_rfl) ?_
            rcases HM.out HNE.out with h1 | ⟨lq, hq⟩
            · have h1' : (1 : Int) < (st.length : Int) := by omega
              go_wp2_with fail
              go_ret
              exact ⟨rfl, L7.out.1.2.2⟩
            · obtain ⟨d, hd⟩ : ∃ d, st.length = d + 1 := by
                have := (List.getElem?_eq_some_iff.1 hq).1
                exact ⟨st.length - 1, by omega⟩
              have hst0 : 0 < st.length := by omega
              obtain ⟨e1, hz7, k0, k1⟩ := own_lab P7.out hq
              cases e1
              clear hq hd
              by_cases h1 : 1 < st.length
              · have h1' : (1 : Int) < (st.length : Int) := by omega
                go_wp2_with fail
                go_ret
                exact ⟨rfl, L7.out.1.2.2⟩
              · have h1' : ¬ (1 : Int) < (st.length : Int) := by omega
                go_wp2_with fail
                go_ret
                exact ⟨rfl, L7.out.1.2.2⟩
        · have hk' : (k != 1) = true := by simp [hk]
          have HNE : Hid (¬ (k = 1 ∧ t = d)) := Lib.hid (fun h => hk h.1)
          clear hk
          obtain ⟨z4, c40, c41, -, -⟩ := L4.out.1.1.two
          obtain ⟨zx, x0⟩ := L4.out.node HA.out
          obtain ⟨-, x1⟩ := L4.out.node HBU.out
          have hX := fun (x : Ext w4.drew) (bb o : Nat) (h : bb < w4.heap.size) => (show x.w.cell? ⟨bb, o, none⟩ = w4.cell? ⟨bb, o, none⟩ from x.cell bb o h)
          go_wp2_with fail
          refine wp_region_staged 15 (by kernel_rfl) (by kernel_rfl) ?_
          refine stage_seg _ 12 [0, 1, 2] (by kernel_rfl) (by kernel_rfl) (by kernel_rfl) (by kernel_rfl) ?_
          (simp only [List.map_cons, List.map_nil, List.getElem?_cons_zero, List.getElem?_cons_succ, Option.getD_some]); (repeat (go_big_quiet_step (fail))); (refine wpQuiet_nil ?_)
          refine stage_call _ 11 3 (by kernel_rfl) (by rfl) (by kernel_rfl) (by rfl) ?_
          go_wp2_with fail
          refine (CN w4.drew L4.out.drew.sl).mono ?_
          clear CN
          rintro e w5 ⟨rfl, hb5⟩
          refine ⟨hb5, ?_⟩
          have L5 := Lib.hid (L4.out.drew.call hb5)
          have P5 := Lib.hid (Ownb.below (w := w4.drew) P4.out hb5)
          clear hb5 hX z4 c40 c41 zx x0 x1 L4 P4 T4
          obtain ⟨z5, c50, c51, -, -⟩ := L5.out.1.1.two
          have hX5 := fun (x : Ext w5) (bb o : Nat) (h : bb < w5.heap.size) => x.cell bb o h
          refine stage_seg _ 4 [4, 5, 6, 7, 9, 10, 11] (by kernel_rfl) (by kernel_rfl) (by kernel_rfl) (by kernel_rfl) ?_
          (simp only [List.map_cons, List.map_nil, List.getElem?_cons_zero, List.getElem?_cons_succ, Option.getD_some]); (repeat (go_big_quiet_step (fail))); (refine wpQuiet_nil ?_)
          refine stage_skip _ 3 8 (by kernel_rfl) (by rfl) (by kernel_rfl) (by rfl) ?_
          go_simp
          refine stage_skip _ 2 12 (by kernel_rfl) (by rfl) (by kernel_rfl) (by rfl) ?_
          go_simp
          refine stage_seg _ 0 [13, 14] (by kernel_rfl) (by kernel_rfl) (by kernel_rfl) (by kernel_rfl) ?_
          (simp only [List.map_cons, List.map_nil, List.getElem?_cons_zero, List.getElem?_cons_succ, Option.getD_some]); (repeat (go_big_quiet_step (fail))); (refine wpQuiet_nil ?_)
          refine stage_end (by kernel_rfl) ?_
          have L7 := L5
          have P7 := P5
          clear hX5 z5 c50 c51 CU CD
          generalize w5 = w7 at *
          rcases HM.out HNE.out with h1 | ⟨lq, hq⟩
          · have h1' : (1 : Int) < (st.length : Int) := by omega
            go_wp2_with fail
            go_ret
            exact ⟨rfl, L7.out.1.2.2⟩
          · obtain ⟨d, hd⟩ : ∃ d, st.length = d + 1 := by
              have := (List.getElem?_eq_some_iff.1 hq).1
              exact ⟨st.length - 1, by omega⟩
            have hst0 : 0 < st.length := by omega
            obtain ⟨e1, hz7, k0, k1⟩ := own_lab P7.out hq
            cases e1
            clear hq hd
            by_cases h1 : 1 < st.length
            · have h1' : (1 : Int) < (st.length : Int) := by omega
              go_wp2_with fail
              go_ret
              exact ⟨rfl, L7.out.1.2.2⟩
            · have h1' : ¬ (1 : Int) < (st.length : Int) := by omega
              go_wp2_with fail
              go_ret
              exact ⟨rfl, L7.out.1.2.2⟩
  · go_enter Try.func7, Try.ntmps7
    go_wp2
    go_ret
    exact ⟨rfl, by (repeat (first | exact Below.refl _ _ | (refine Below.alloc ?_ (by first | exact Nat.le_refl _ | omega | (simp; done) | (simp; omega)) _) | (refine Below.setCell ?_ (by first | exact Nat.le_refl _ | omega | (simp; done) | (simp; omega)) _) | exact Below.drew ‹_›))⟩

end Go.Proofs.Ytenlofomkchlaac
