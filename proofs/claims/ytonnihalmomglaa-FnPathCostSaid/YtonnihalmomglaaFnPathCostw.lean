/-
  The walk of FnPathCost over this seat.
-/
import Derived.Test.YtonnihalmomglaaD2
namespace Go.Proofs.Ytonnihalmomglaa
open Go.RowKit Go.Maps

set_option maxRecDepth 100000 in
set_option maxHeartbeats 1600000 in
theorem fnPathCost_walk (A : Option Addr) (len c : Nat) (f : Nat → Int) (w : World) (hlc : len ≤ c) (hc : c ≤ maxLen) (hB : Byt w w.heap.size A len f) :
   Calls Try.prog 7 #[.slice A len c] w fun e w' => e = .returned (.bool true) ∧ Below w.heap.size w w' := by
  have HB := Lib.hid hB
  clear hB
  by_cases hl : len ≤ 1048576
  · go_enter Try.func7, Try.ntmps7
    go_wp2_with fail
    refine (drawPathCost_any A len c f w hlc hc HB.out).mono ?_
    rintro e w1 ⟨n, ls, A1, g1, c1, xs, gx, cx, rfl, ⟨hn0, hn1, hls, hg1, ho1, hb1⟩, hs12, hox, hgx, hcx, hgl⟩
    have L1 := Lib.hid (show LP w w1.heap.size n ls A1 g1 c1 gx xs (w1.alloc (.cells #[.int .i64 n, .slice A1 ls.length c1] 30)) from ⟨⟨Box.new w1 _ _, ho1.alloc _, hb1.alloc hb1.size _⟩, hox.alloc _⟩)
    clear ho1 hb1 HB hox
    generalize hG : w1.heap.size = G at *
    have CI := fun W (h1 : Sl W W.heap.size A1 ls) (h2 : Sli W W.heap.size (some ⟨gx, 0, none⟩) xs) => pathCost_impl n A1 ls c1 (some ⟨gx, 0, none⟩) xs cx W (by omega) (by omega) h1 h2
    have CS := fun W (h1 : Sl W W.heap.size A1 ls) (h2 : Sli W W.heap.size (some ⟨gx, 0, none⟩) xs) => pathCost_spec n A1 ls c1 (some ⟨gx, 0, none⟩) xs cx W (by omega) (by omega) (by omega) h1 h2
    cases hv : pvB n ls xs with
    | false =>
      rw [costP_no hv] at CI CS
      clear hv
      go_wp2_with fail
      refine (CI _ L1.out.sl L1.out.sli).mono ?_
      rintro e w2 ⟨rfl, hb2⟩
      have L2 := Lib.hid (L1.out.call hb2)
      clear hb2 L1 hG
      obtain ⟨z2, c20, c21, -, -⟩ := L2.out.1.1.two
      go_wp2_with fail
      refine (CS _ L2.out.sl L2.out.sli).mono ?_
      rintro e w3 ⟨rfl, hb3⟩
      have L3 := Lib.hid (L2.out.call hb3)
      clear hb3 L2 z2 c20 c21 CS
      go_wp2_with fail
      go_ret
      exact ⟨rfl, L3.out.1.2.2⟩
    | true =>
      obtain ⟨m, rfl, hp⟩ := pvB_PV hv
      have hpos := hp.pos
      have hl9 := hp.len
      obtain ⟨a, b, ha, hb, har, hbr⟩ := hp.two
      obtain ⟨q, rfl⟩ : ∃ q : Nat, b = (q : Int) := ⟨b.toNat, by omega⟩
      obtain ⟨hd0, hdt⟩ := hp.bound ha hb
      have hct0 := costP_sign hp
      rw [← costP_PV hp] at hdt
      obtain ⟨hps, hpa⟩ := shortest_pv hp.gv har hbr hd0
      have hpc : costP (m : Int) ls (pathI (m : Int) ls a (q : Int)) = bf (m : Int) ls a (q : Int) := by rw [costP_PV hps, hpa]
      have hp8 := pathI_len (m : Int) ls a (q : Int)
      have CD := fun W (h : Sl W W.heap.size A1 ls) => dist_any m A1 ls c1 a q W (by omega) hp.gv har (by omega) h
      have CP := fun W (h : Sl W W.heap.size A1 ls) => path_impl (m : Int) A1 ls c1 a (q : Int) W (by omega) h
      have CB := fun (Y : Option Addr) (cy : Nat) W (h : Sl W W.heap.size A1 ls) (h' : Sli W W.heap.size Y (pathI (m : Int) ls a (q : Int))) => pathCost_impl (m : Int) A1 ls c1 Y (pathI (m : Int) ls a (q : Int)) cy W (by omega) (by omega) h h'
      rw [hpc] at CB
      generalize pathI (m : Int) ls a (q : Int) = p at *
      generalize bf (m : Int) ls a (q : Int) = d at *
      generalize costP (m : Int) ls xs = t at *
      have ht0 : ¬ t < 0 := by omega
      obtain ⟨u, hu⟩ : ∃ u, xs.length = u + 1 := ⟨xs.length - 1, by omega⟩
      have hsub : (xs.length : Int) - 1 = (u : Int) := by omega
      have hwp : IntKind.i64.wrap (u : Int) = (u : Int) := IntWalk.i64_in _ (by omega)
      have hul : u < xs.length := by omega
      have hbu : xs[u]? = some (q : Int) := by rw [← hb, hu]; rfl
      have HA := Lib.hid ha
      have HBU := Lib.hid hbu
      clear hv hp hps hpa hpc ha hb hbu hu
      go_wp2_with fail
      refine (CI _ L1.out.sl L1.out.sli).mono ?_
      rintro e w2 ⟨rfl, hb2⟩
      have L2 := Lib.hid (L1.out.call hb2)
      clear hb2 L1 hG
      obtain ⟨z2, c20, c21, -, -⟩ := L2.out.1.1.two
      go_wp2_with fail
      refine (CS _ L2.out.sl L2.out.sli).mono ?_
      rintro e w3 ⟨rfl, hb3⟩
      have L3 := Lib.hid (L2.out.call hb3)
      clear hb3 L2 z2 c20 c21 CS
      obtain ⟨z3, c30, c31, -, -⟩ := L3.out.1.1.two
      obtain ⟨zx, x0⟩ := L3.out.node HA.out
      obtain ⟨-, x1⟩ := L3.out.node HBU.out
      have hX := fun (x : Ext w3.drew) (bb o : Nat) (h : bb < w3.heap.size) => (show x.w.cell? ⟨bb, o, none⟩ = w3.cell? ⟨bb, o, none⟩ from x.cell bb o h)
      go_wp2_with fail
      refine wp_region_staged 20 (by kernel_rfl) (by kernel_rfl) ?_
      refine stage_seg _ 16 [0, 1, 2, 3] (by kernel_rfl) (by kernel_rfl) (by kernel_rfl) (by kernel_rfl) ?_
      (simp only [List.map_cons, List.map_nil, List.getElem?_cons_zero, List.getElem?_cons_succ, Option.getD_some]); (repeat (go_big_quiet_step (fail))); (refine wpQuiet_nil ?_)
      refine stage_call _ 15 4 (by kernel_rfl) (by rfl) (by kernel_rfl) (by rfl) ?_
      go_wp2_with fail
      refine (CD w3.drew L3.out.drew.sl).mono ?_
      rintro e w4 ⟨rfl, hb4⟩
      refine ⟨hb4, ?_⟩
      have L4 := Lib.hid (L3.out.drew.call hb4)
      clear hb4 hX z3 c30 c31 zx x0 x1 L3
      obtain ⟨z4, c40, c41, -, -⟩ := L4.out.1.1.two
      have hX4 := fun (x : Ext w4) (bb o : Nat) (h : bb < w4.heap.size) => x.cell bb o h
      refine stage_seg _ 6 [5, 6, 7, 8, 9, 10, 13, 14, 15] (by kernel_rfl) (by kernel_rfl) (by kernel_rfl) (by kernel_rfl) ?_
      (simp only [List.map_cons, List.map_nil, List.getElem?_cons_zero, List.getElem?_cons_succ, Option.getD_some]); (repeat (go_big_quiet_step (fail))); (refine wpQuiet_nil ?_)
      refine stage_call _ 5 11 (by kernel_rfl) (by rfl) (by kernel_rfl) (by rfl) ?_
      go_wp2_with fail
      refine (CP w4 L4.out.sl).mono ?_
      clear CP
      rintro e w5 ⟨A5, g5, c5, rfl, hg5, ho5, hb5⟩
      refine ⟨hb5, ?_⟩
      have L5 := Lib.hid (L4.out.call hb5)
      have O5 := Lib.hid ho5
      clear hb5 ho5 hX4 z4 c40 c41 L4
      refine stage_call _ 4 12 (by kernel_rfl) (by rfl) (by kernel_rfl) (by rfl) ?_
      go_wp2_with fail
      refine (CB A5 c5 w5 L5.out.sl O5.out.sli).mono ?_
      clear CB
      rintro e w6 ⟨rfl, hb6⟩
      refine ⟨hb6, ?_⟩
      have L6 := Lib.hid (L5.out.call hb6)
      clear hb6 L5 O5
      refine stage_call _ 3 16 (by kernel_rfl) (by rfl) (by kernel_rfl) (by rfl) ?_
      go_wp2_with fail
      refine (CD w6 L6.out.sl).mono ?_
      clear CD
      rintro e w7 ⟨rfl, hb7⟩
      refine ⟨hb7, ?_⟩
      have L7 := Lib.hid (L6.out.call hb7)
      clear hb7 L6
      have hX7 := fun (x : Ext w7) (bb o : Nat) (h : bb < w7.heap.size) => x.cell bb o h
      refine stage_seg _ 0 [17, 18, 19] (by kernel_rfl) (by kernel_rfl) (by kernel_rfl) (by kernel_rfl) ?_
      (simp only [List.map_cons, List.map_nil, List.getElem?_cons_zero, List.getElem?_cons_succ, Option.getD_some]); (repeat (go_big_quiet_step (fail))); (refine wpQuiet_nil ?_)
      refine stage_end (by kernel_rfl) ?_
      clear hX7
      go_wp2_with fail
      go_ret
      exact ⟨ret_bool (by simp), L7.out.1.2.2⟩
  · go_enter Try.func7, Try.ntmps7
    go_wp2
    go_ret
    exact ⟨rfl, by (repeat (first | exact Below.refl _ _ | (refine Below.alloc ?_ (by first | exact Nat.le_refl _ | omega | (simp; done) | (simp; omega)) _) | (refine Below.setCell ?_ (by first | exact Nat.le_refl _ | omega | (simp; done) | (simp; omega)) _) | exact Below.drew ‹_›))⟩

end Go.Proofs.Ytonnihalmomglaa
