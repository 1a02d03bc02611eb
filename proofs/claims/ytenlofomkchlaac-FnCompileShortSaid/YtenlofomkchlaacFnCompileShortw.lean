/-
  The walk of FnCompileShort over this seat.
-/
import Derived.Test.YtenlofomkchlaacD2
import Derived.Test.YtenlofomkchlaacLq
namespace Go.Proofs.Ytenlofomkchlaac
open Go.RowKit Go.Maps

set_option maxRecDepth 100000 in
set_option maxHeartbeats 1600000 in
theorem fnCompileShort_walk (A : Option Addr) (len c : Nat) (Am : Option Addr) (len' c' : Nat) (f f' : Nat → Int) (w : World) (hlc : len ≤ c) (hc : c ≤ maxLen) (hB : Byt w w.heap.size A len f) (_hlc' : len' ≤ c') (_hc' : c' ≤ maxLen) (_hB' : Byt w w.heap.size Am len' f') :
   Calls Try.prog 6 #[.slice A len c, .slice Am len' c'] w fun e w' => e = .returned (.bool true) ∧ Below w.heap.size w w' := by
  have HB := Lib.hid hB
  clear hB _hB'
  by_cases hl : len ≤ 1048576 ∧ len' ≤ 1048576
  · obtain ⟨hl, hl'⟩ := hl
    go_enter Try.func6, Try.ntmps6
    go_wp2_with fail
    refine (drawCompile_any A len c f w hlc hc HB.out).mono ?_
    rintro e w1 ⟨n, ls, A1, g1, c1, xs, gx, cx, rfl, ⟨hn0, hn1, hls, hg1, ho1, hb1⟩, hs12, hox, hgx, hcx, hgl⟩
    have L1 := Lib.hid (show LP w w1.heap.size n ls A1 g1 c1 gx xs (w1.alloc (.cells #[.int .i64 n, .slice A1 ls.length c1] 32)) from ⟨⟨Box.new w1 _ _, ho1.alloc _, hb1.alloc hb1.size _⟩, hox.alloc _⟩)
    clear ho1 hb1 HB hox
    generalize hG : w1.heap.size = G at *
    have CI := fun W (h1 : Sl W W.heap.size A1 ls) (h2 : Sli W W.heap.size (some ⟨gx, 0, none⟩) xs) => stackCompile_impl n A1 ls c1 (some ⟨gx, 0, none⟩) xs cx W (by omega) (by omega) hcx h1 h2
    have CS := fun W (h1 : Sl W W.heap.size A1 ls) (h2 : Sli W W.heap.size (some ⟨gx, 0, none⟩) xs) => stackCompile_spec n A1 ls c1 (some ⟨gx, 0, none⟩) xs cx W (by omega) (by omega) (by omega) hcx h1 h2
    unfold CmpR at CI CS
    have h8 := cmpI_len n ls xs
    cases hv : pvB n ls xs with
    | false =>
      rw [hv] at CI CS
      generalize cmpI n ls xs = st at *
      clear hv
      go_wp2_with fail
      refine (CI _ L1.out.sl L1.out.sli).mono ?_
      rintro e w2 ⟨A2, g2, c2, rfl, hg2, ho2, hb2, hc2⟩
      have L2 := Lib.hid (L1.out.call hb2)
      have P2 := Lib.hid ho2
      clear hb2 ho2 hg2 L1 hG
      obtain ⟨z2, c20, c21, -, -⟩ := L2.out.1.1.two
      go_wp2_with fail
      refine (CS _ L2.out.sl L2.out.sli).mono ?_
      rintro e w3 ⟨A3, g3, c3, rfl, hg3, ho3, hb3, hc3⟩
      have L3 := Lib.hid (L2.out.call hb3)
      have P3 := Lib.hid (P2.out.below hb3)
      have T3 := Lib.hid ho3
      clear hb3 ho3 hg3 L2 P2 z2 c20 c21 CS
      go_wp2_with fail
      refine (sameLabels_same A2 A3 st c2 c3 w3 (by omega) P3.out.slb T3.out.slb).mono ?_
      rintro e w4 ⟨rfl, hb4⟩
      have L4 := Lib.hid (L3.out.call hb4)
      have P4 := Lib.hid (P3.out.below hb4)
      have T4 := Lib.hid (T3.out.below hb4)
      clear hb4 L3 P3 T3
      go_wp2_with fail
      refine (sameLabels_same A2 A3 st c2 c3 w4 (by omega) P4.out.slb T4.out.slb).mono ?_
      rintro e w5 ⟨rfl, hb5⟩
      have L5 := Lib.hid (L4.out.call hb5)
      clear hb5
      go_wp2_with fail
      go_ret
      exact ⟨rfl, L5.out.1.2.2⟩
    | true =>
      obtain ⟨m, rfl, hp⟩ := pvB_PV hv
      rw [hv] at CI CS
      have hpos := hp.pos
      have hl9 := hp.len
      have hq : Int.tmod (len' : Int) (xs.length : Int) = ((len' % xs.length : Nat) : Int) := by rw [Int.tmod_eq_emod_of_nonneg (by omega)]; exact (Int.natCast_emod _ _).symm
      have hql : len' % xs.length < xs.length := Nat.mod_lt _ (by omega)
      generalize len' % xs.length = k at *
      obtain ⟨hk1, hk2, hk3, hk4, hk5⟩ := hp.cut hql
      have hk6 := hp.cmpI_len1
      have hkc : k + 1 ≤ cx := by omega
      have hkc2 : k < cx := by omega
      have htl : (xs.take (k + 1)).length = k + 1 := by simp; omega
      have hdl : (xs.drop k).length = xs.length - k := by simp
      have CA := fun W (h1 : Sl W W.heap.size A1 ls) (h2 : Sli W W.heap.size (some ⟨gx, 0, none⟩) (xs.take (k + 1))) => stackCompile_impl (m : Int) A1 ls c1 (some ⟨gx, 0, none⟩) (xs.take (k + 1)) cx W (by omega) (by omega) (by omega) h1 h2
      have CB := fun W (h1 : Sl W W.heap.size A1 ls) (h2 : Sli W W.heap.size (some ⟨gx, k, none⟩) (xs.drop k)) => stackCompile_impl (m : Int) A1 ls c1 (some ⟨gx, k, none⟩) (xs.drop k) (cx - k) W (by omega) (by omega) (by omega) h1 h2
      unfold CmpR at CA CB
      rw [htl, hk1] at CA
      rw [hdl, hk2] at CB
      generalize cmpI (m : Int) ls xs = st at *
      generalize cmpI (m : Int) ls (xs.take (k + 1)) = sa at *
      generalize cmpI (m : Int) ls (xs.drop k) = sb at *
      clear hv hp hk1 hk2 htl hdl
      go_wp2_with fail
      refine (CI _ L1.out.sl L1.out.sli).mono ?_
      rintro e w2 ⟨A2, g2, c2, rfl, hg2, ho2, hb2, hc2⟩
      have L2 := Lib.hid (L1.out.call hb2)
      have P2 := Lib.hid ho2
      clear hb2 ho2 hg2 L1 hG
      obtain ⟨z2, c20, c21, -, -⟩ := L2.out.1.1.two
      go_wp2_with fail
      refine (CS _ L2.out.sl L2.out.sli).mono ?_
      rintro e w3 ⟨A3, g3, c3, rfl, hg3, ho3, hb3, hc3⟩
      have L3 := Lib.hid (L2.out.call hb3)
      have P3 := Lib.hid (P2.out.below hb3)
      have T3 := Lib.hid ho3
      clear hb3 ho3 hg3 L2 P2 z2 c20 c21 CS
      go_wp2_with fail
      refine (sameLabels_same A2 A3 st c2 c3 w3 (by omega) P3.out.slb T3.out.slb).mono ?_
      rintro e w4 ⟨rfl, hb4⟩
      have L4 := Lib.hid (L3.out.call hb4)
      have P4 := Lib.hid (P3.out.below hb4)
      clear hb4 L3 P3 T3 CI
      obtain ⟨z4, c40, c41, -, -⟩ := L4.out.1.1.two
      have hX := fun (x : Ext w4.drew) (bb o : Nat) (h : bb < w4.heap.size) => (show x.w.cell? ⟨bb, o, none⟩ = w4.cell? ⟨bb, o, none⟩ from x.cell bb o h)
      have HX := Lib.hid (show ∀ W, Sli W W.heap.size (some ⟨gx, 0, none⟩) xs → Sli W W.heap.size (some ⟨gx, 0, none⟩) (xs.take (k + 1)) ∧ Sli W W.heap.size (some ⟨gx, k, none⟩) (xs.drop k) from fun W h => by
        have h1 := h.piece 0 (k + 1)
        have h2 := h.piece k (xs.length - k)
        rw [show xs.length - k = (xs.drop k).length by simp, List.take_length] at h2
        rw [List.drop_zero] at h1
        rw [Nat.zero_add] at h2
        exact ⟨h1, h2⟩)
      go_wp2_with fail
      refine wp_region_staged 11 (by kernel_rfl) (by kernel_rfl) ?_
      refine stage_seg _ 6 [0, 1, 2, 3, 4] (by kernel_rfl) (by kernel_rfl) (by kernel_rfl) (by kernel_rfl) ?_
      (simp only [List.map_cons, List.map_nil, List.getElem?_cons_zero, List.getElem?_cons_succ, Option.getD_some]); (repeat (go_big_quiet_step (fail))); (refine wpQuiet_nil ?_)
      refine stage_call _ 5 5 (by kernel_rfl) (by rfl) (by kernel_rfl) (by rfl) ?_
      go_wp2_with fail
      refine (CA w4.drew L4.out.drew.sl (HX.out w4.drew L4.out.drew.sli).1).mono ?_
      clear CA
      rintro e w5 ⟨A5, g5, c5, rfl, hg5, ho5, hb5, hc5⟩
      refine ⟨hb5, ?_⟩
      have L5 := Lib.hid (L4.out.drew.call hb5)
      clear hb5 ho5 hg5 hX z4 c40 c41 L4 P4
      refine stage_seg _ 0 [6, 7, 8, 9, 10] (by kernel_rfl) (by kernel_rfl) (by kernel_rfl) (by kernel_rfl) ?_
      (simp only [List.map_cons, List.map_nil, List.getElem?_cons_zero, List.getElem?_cons_succ, Option.getD_some]); (repeat (go_big_quiet_step (fail))); (refine wpQuiet_nil ?_)
      refine stage_end (by kernel_rfl) ?_
      obtain ⟨z5, c50, c51, -, -⟩ := L5.out.1.1.two
      have hX5 := fun (x : Ext w5.drew) (bb o : Nat) (h : bb < w5.heap.size) => (show x.w.cell? ⟨bb, o, none⟩ = w5.cell? ⟨bb, o, none⟩ from x.cell bb o h)
      go_wp2_with fail
      refine wp_region_staged 10 (by kernel_rfl) (by kernel_rfl) ?_
      refine stage_seg _ 6 [0, 1, 2, 3] (by kernel_rfl) (by kernel_rfl) (by kernel_rfl) (by kernel_rfl) ?_
      (simp only [List.map_cons, List.map_nil, List.getElem?_cons_zero, List.getElem?_cons_succ, Option.getD_some]); (repeat (go_big_quiet_step (fail))); (refine wpQuiet_nil ?_)
      refine stage_call _ 5 4 (by kernel_rfl) (by rfl) (by kernel_rfl) (by rfl) ?_
      go_wp2_with fail
      refine (CB w5.drew L5.out.drew.sl (HX.out w5.drew L5.out.drew.sli).2).mono ?_
      clear CB
      rintro e w6 ⟨A6, g6, c6, rfl, hg6, ho6, hb6, hc6⟩
      refine ⟨hb6, ?_⟩
      have L6 := Lib.hid (L5.out.drew.call hb6)
      clear hb6 ho6 hg6 hX5 z5 c50 c51 L5
      refine stage_seg _ 0 [5, 6, 7, 8, 9] (by kernel_rfl) (by kernel_rfl) (by kernel_rfl) (by kernel_rfl) ?_
      (simp only [List.map_cons, List.map_nil, List.getElem?_cons_zero, List.getElem?_cons_succ, Option.getD_some]); (repeat (go_big_quiet_step (fail))); (refine wpQuiet_nil ?_)
      refine stage_end (by kernel_rfl) ?_
      have i1 : (st.length : Int) ≤ (xs.length : Int) - 1 := by omega
      have i2 : (st.length : Int) ≤ (sa.length : Int) + (sb.length : Int) := by omega
      have i3 : (sa.length : Int) ≤ (st.length : Int) := by omega
      have i4 : (sb.length : Int) ≤ (st.length : Int) := by omega
      go_wp2_with fail
      go_ret
      exact ⟨ret_bool (by simp; try omega), L6.out.1.2.2⟩
  · by_cases hl1 : len ≤ 1048576
    · have hl2 : 1048576 < len' := by omega
      clear hl
      go_enter Try.func6, Try.ntmps6
      go_wp2
      go_ret
      exact ⟨rfl, by (repeat (first | exact Below.refl _ _ | (refine Below.alloc ?_ (by first | exact Nat.le_refl _ | omega | (simp; done) | (simp; omega)) _) | (refine Below.setCell ?_ (by first | exact Nat.le_refl _ | omega | (simp; done) | (simp; omega)) _) | exact Below.drew ‹_›))⟩
    · clear hl
      go_enter Try.func6, Try.ntmps6
      go_wp2
      go_ret
      exact ⟨rfl, by (repeat (first | exact Below.refl _ _ | (refine Below.alloc ?_ (by first | exact Nat.le_refl _ | omega | (simp; done) | (simp; omega)) _) | (refine Below.setCell ?_ (by first | exact Nat.le_refl _ | omega | (simp; done) | (simp; omega)) _) | exact Below.drew ‹_›))⟩

end Go.Proofs.Ytenlofomkchlaac
