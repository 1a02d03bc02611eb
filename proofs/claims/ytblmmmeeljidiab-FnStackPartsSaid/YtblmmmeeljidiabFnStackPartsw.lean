/-
  The walk of FnStackParts over this seat.
-/
import Derived.Test.YtblmmmeeljidiabLd
namespace Go.Proofs.Ytblmmmeeljidiab
open Go.RowKit Go.Maps

set_option maxRecDepth 100000 in
set_option maxHeartbeats 1600000 in
theorem fnStackParts_walk (A : Option Addr) (len c : Nat) (Am : Option Addr) (len' c' : Nat) (f f' : Nat → Int) (w : World) (hlc : len ≤ c) (hc : c ≤ maxLen) (hB : Byt w w.heap.size A len f) (_hlc' : len' ≤ c') (_hc' : c' ≤ maxLen) (_hB' : Byt w w.heap.size Am len' f') :
   Calls Try.prog 3 #[.slice A len c, .slice Am len' c'] w fun e w' => e = .returned (.bool true) ∧ Below w.heap.size w w' := by
  have HB := Lib.hid hB
  clear hB _hB'
  by_cases hl : len ≤ 1048576 ∧ len' ≤ 1048576
  · obtain ⟨hl, hl'⟩ := hl
    go_enter Try.func3, Try.ntmps3
    go_wp2_with fail
    refine (drawStackEnd_any A len c f w hlc hc HB.out).mono ?_
    rintro e w1 ⟨n, ls, A1, g1, c1, x, st, _, gx, cx, rfl, ⟨hn0, hn1, hls, hg1, ho1, hb1⟩, hx0, hx1, hs9, hok, hox, hgx, hcx, rfl, hgl⟩
    have L1 := Lib.hid (show LC w w1.heap.size n ls A1 g1 c1 (some ⟨gx, 0, none⟩) gx st (w1.alloc (.cells #[.int .i64 n, .slice A1 ls.length c1] 25)) from ⟨⟨Box.new w1 _ _, ho1.alloc _, hb1.alloc hb1.size _⟩, hox.alloc _⟩)
    clear ho1 hb1 HB hox hok
    generalize hG : w1.heap.size = G at *
    have CI := fun W (h1 : Sl W W.heap.size A1 ls) (h2 : Slb W W.heap.size (some ⟨gx, 0, none⟩) st) => stackEnd_impl n A1 ls c1 x (some ⟨gx, 0, none⟩) st cx W (by omega) (by omega) h1 h2
    have CS := fun W (h1 : Sl W W.heap.size A1 ls) (h2 : Slb W W.heap.size (some ⟨gx, 0, none⟩) st) => stackEnd_spec n A1 ls c1 x (some ⟨gx, 0, none⟩) st cx W (by omega) (by omega) (by omega) h1 h2
    cases ho : endI n ls x st with
    | none =>
      simp only [ho, stepV] at CI CS
      clear ho
      go_wp2_with fail
      refine (CI _ L1.out.sl L1.out.slb).mono ?_
      rintro e w2 ⟨rfl, hb2⟩
      have L2 := Lib.hid (L1.out.call hb2)
      clear hb2 L1
      clear hG
      obtain ⟨z2, c20, c21, -, -⟩ := L2.out.1.1.two
      go_wp2_with fail
      refine (CS _ L2.out.sl L2.out.slb).mono ?_
      rintro e w3 ⟨rfl, hb3⟩
      have L3 := Lib.hid (L2.out.call hb3)
      clear hb3 L2
      go_wp2_with fail
      go_ret
      exact ⟨rfl, L3.out.1.2.2⟩
    | some z =>
      simp only [ho, stepV] at CI CS
      have HO := Lib.hid ho
      clear ho
      go_wp2_with fail
      refine (CI _ L1.out.sl L1.out.slb).mono ?_
      rintro e w2 ⟨rfl, hb2⟩
      have L2 := Lib.hid (L1.out.call hb2)
      clear hb2 L1
      clear hG
      obtain ⟨z2, c20, c21, -, -⟩ := L2.out.1.1.two
      go_wp2_with fail
      refine (CS _ L2.out.sl L2.out.slb).mono ?_
      rintro e w3 ⟨rfl, hb3⟩
      have L3 := Lib.hid (L2.out.call hb3)
      clear hb3 L2
      clear z2 c20 c21
      obtain ⟨z3, c30, c31, -, -⟩ := L3.out.1.1.two
      have hq : Int.tmod (len' : Int) ((st.length : Int) + 1) = ((len' % (st.length + 1) : Nat) : Int) := by rw [Int.tmod_eq_emod_of_nonneg (by omega), show ((st.length : Int) + 1) = ((st.length + 1 : Nat) : Int) by omega]; exact (Int.natCast_emod _ _).symm
      have hql : len' % (st.length + 1) < st.length + 1 := Nat.mod_lt _ (by omega)
      generalize len' % (st.length + 1) = q at *
      obtain ⟨a, ha1, ha2⟩ := end_parts HO.out q
      have hqs : q ≤ st.length := by omega
      have htl : (st.take q).length = q := by simp; omega
      have hdl : (st.drop q).length = st.length - q := by simp
      have CA := fun W (h1 : Sl W W.heap.size A1 ls) (h2 : Slb W W.heap.size (some ⟨gx, 0, none⟩) (st.take q)) => stackEnd_impl n A1 ls c1 x (some ⟨gx, 0, none⟩) (st.take q) cx W (by omega) (by rw [htl]; omega) h1 h2
      have CB := fun (B' : Option Addr) (cb' : Nat) W (h1 : Sl W W.heap.size A1 ls) (h2 : Slb W W.heap.size B' (st.drop q)) => stackEnd_impl n A1 ls c1 a B' (st.drop q) cb' W (by omega) (by rw [hdl]; omega) h1 h2
      simp only [ha1, stepV, htl] at CA
      simp only [ha2, stepV, hdl] at CB
      clear ha1 ha2
      have PD := Lib.hid L3.out.drew
      go_wp2_with fail
      have hX := fun (x : Ext w3.drew) (bb o : Nat) (h : bb < w3.heap.size) => (show x.w.cell? ⟨bb, o, none⟩ = w3.cell? ⟨bb, o, none⟩ from x.cell bb o h)
      have hqc : q ≤ cx := by omega
      refine wp_region_staged 11 (by kernel_rfl) (by kernel_rfl) ?_
      refine stage_seg _ 6 [0, 1, 2, 3, 4] (by kernel_rfl) (by kernel_rfl) (by kernel_rfl) (by kernel_rfl) ?_
      (simp only [List.map_cons, List.map_nil, List.getElem?_cons_zero, List.getElem?_cons_succ, Option.getD_some]); (repeat (go_big_quiet_step (fail))); (refine wpQuiet_nil ?_)
      refine stage_call _ 5 5 (by kernel_rfl) (by rfl) (by kernel_rfl) (by rfl) ?_
      go_wp2_with fail
      refine (CA w3.drew PD.out.sl (PD.out.slb.take q)).mono ?_
      rintro e w4 ⟨rfl, hb4⟩
      refine ⟨hb4, ?_⟩
      have L4 := Lib.hid (PD.out.call hb4)
      clear hb4 hX c30 c31 z3 PD CA L3
      have hX4 := fun (x : Ext w4) (bb o : Nat) (h : bb < w4.heap.size) => x.cell bb o h
      refine stage_seg _ 0 [6, 7, 8, 9, 10] (by kernel_rfl) (by kernel_rfl) (by kernel_rfl) (by kernel_rfl) ?_
      (simp only [List.map_cons, List.map_nil, List.getElem?_cons_zero, List.getElem?_cons_succ, Option.getD_some]); (repeat (go_big_quiet_step (fail))); (refine wpQuiet_nil ?_)
      refine stage_end (by kernel_rfl) ?_
      clear hX4
      obtain ⟨z4, c40, c41, -, -⟩ := L4.out.1.1.two
      have PD := Lib.hid L4.out.drew
      by_cases hcq : cx = q
      · have hqs2 : st.length - q = 0 := by omega
        rw [hqs2] at CB
        subst hcq
        go_wp2_with fail
        have hX := fun (x : Ext w4.drew) (bb o : Nat) (h : bb < w4.heap.size) => (show x.w.cell? ⟨bb, o, none⟩ = w4.cell? ⟨bb, o, none⟩ from x.cell bb o h)
        refine wp_region_staged 11 (by kernel_rfl) (by kernel_rfl) ?_
        refine stage_seg _ 6 [0, 1, 2, 3, 4] (by kernel_rfl) (by kernel_rfl) (by kernel_rfl) (by kernel_rfl) ?_
        (simp only [List.map_cons, List.map_nil, List.getElem?_cons_zero, List.getElem?_cons_succ, Option.getD_some]); (repeat (go_big_quiet_step (fail))); (refine wpQuiet_nil ?_)
        refine stage_call _ 5 5 (by kernel_rfl) (by rfl) (by kernel_rfl) (by rfl) ?_
        go_wp2_with fail
        refine (CB _ _ w4.drew PD.out.sl (fun k l hk => by rw [List.getElem?_eq_none (by simp; omega)] at hk; cases hk)).mono ?_
        rintro e w5 ⟨rfl, hb5⟩
        refine ⟨hb5, ?_⟩
        have L5 := Lib.hid (PD.out.call hb5)
        have hX5 := fun (x : Ext w5) (bb o : Nat) (h : bb < w5.heap.size) => x.cell bb o h
        refine stage_seg _ 0 [6, 7, 8, 9, 10] (by kernel_rfl) (by kernel_rfl) (by kernel_rfl) (by kernel_rfl) ?_
        (simp only [List.map_cons, List.map_nil, List.getElem?_cons_zero, List.getElem?_cons_succ, Option.getD_some]); (repeat (go_big_quiet_step (fail))); (refine wpQuiet_nil ?_)
        refine stage_end (by kernel_rfl) ?_
        clear hX5 hX hb5
        go_wp2_with fail
        go_ret
        exact ⟨ret_bool (by simp), L5.out.1.2.2⟩
      · have hcq2 : ¬ q = cx := fun h => hcq h.symm
        go_wp2_with fail
        have hX := fun (x : Ext w4.drew) (bb o : Nat) (h : bb < w4.heap.size) => (show x.w.cell? ⟨bb, o, none⟩ = w4.cell? ⟨bb, o, none⟩ from x.cell bb o h)
        refine wp_region_staged 11 (by kernel_rfl) (by kernel_rfl) ?_
        refine stage_seg _ 6 [0, 1, 2, 3, 4] (by kernel_rfl) (by kernel_rfl) (by kernel_rfl) (by kernel_rfl) ?_
        (simp only [List.map_cons, List.map_nil, List.getElem?_cons_zero, List.getElem?_cons_succ, Option.getD_some]); (repeat (go_big_quiet_step (fail))); (refine wpQuiet_nil ?_)
        refine stage_call _ 5 5 (by kernel_rfl) (by rfl) (by kernel_rfl) (by rfl) ?_
        go_wp2_with fail
        refine (CB _ _ w4.drew PD.out.sl (by simpa using PD.out.slb.drop q)).mono ?_
        rintro e w5 ⟨rfl, hb5⟩
        refine ⟨hb5, ?_⟩
        have L5 := Lib.hid (PD.out.call hb5)
        have hX5 := fun (x : Ext w5) (bb o : Nat) (h : bb < w5.heap.size) => x.cell bb o h
        refine stage_seg _ 0 [6, 7, 8, 9, 10] (by kernel_rfl) (by kernel_rfl) (by kernel_rfl) (by kernel_rfl) ?_
        (simp only [List.map_cons, List.map_nil, List.getElem?_cons_zero, List.getElem?_cons_succ, Option.getD_some]); (repeat (go_big_quiet_step (fail))); (refine wpQuiet_nil ?_)
        refine stage_end (by kernel_rfl) ?_
        clear hX5 hX hb5
        go_wp2_with fail
        go_ret
        exact ⟨ret_bool (by simp), L5.out.1.2.2⟩
  · by_cases hl1 : len ≤ 1048576
    · have hl2 : 1048576 < len' := by omega
      clear hl
      go_enter Try.func3, Try.ntmps3
      go_wp2
      go_ret
      exact ⟨rfl, by (repeat (first | exact Below.refl _ _ | (refine Below.alloc ?_ (by first | exact Nat.le_refl _ | omega | (simp; done) | (simp; omega)) _) | (refine Below.setCell ?_ (by first | exact Nat.le_refl _ | omega | (simp; done) | (simp; omega)) _) | exact Below.drew ‹_›))⟩
    · clear hl
      go_enter Try.func3, Try.ntmps3
      go_wp2
      go_ret
      exact ⟨rfl, by (repeat (first | exact Below.refl _ _ | (refine Below.alloc ?_ (by first | exact Nat.le_refl _ | omega | (simp; done) | (simp; omega)) _) | (refine Below.setCell ?_ (by first | exact Nat.le_refl _ | omega | (simp; done) | (simp; omega)) _) | exact Below.drew ‹_›))⟩

end Go.Proofs.Ytblmmmeeljidiab
