/-
  The walk of FnPathValid over this seat.
-/
import Derived.Test.YtonnihalmomglaaD2
namespace Go.Proofs.Ytonnihalmomglaa
open Go.RowKit Go.Maps

set_option maxRecDepth 100000 in
set_option maxHeartbeats 1600000 in
theorem fnPathValid_walk (A : Option Addr) (len c : Nat) (f : Nat → Int) (w : World) (hlc : len ≤ c) (hc : c ≤ maxLen) (hB : Byt w w.heap.size A len f) :
   Calls Try.prog 6 #[.slice A len c] w fun e w' => e = .returned (.bool true) ∧ Below w.heap.size w w' := by
  have HB := Lib.hid hB
  clear hB
  by_cases hl : len ≤ 1048576
  · go_enter Try.func6, Try.ntmps6
    go_wp2_with fail
    refine (drawPathValid_any A len c f w hlc hc HB.out).mono ?_
    rintro e w1 ⟨n, ls, A1, g1, c1, xs, gx, cx, rfl, ⟨hn0, hn1, hls, hg1, ho1, hb1⟩, hs12, hox, hgx, hcx, hgl⟩
    have L1 := Lib.hid (show LP w w1.heap.size n ls A1 g1 c1 gx xs (w1.alloc (.cells #[.int .i64 n, .slice A1 ls.length c1] 30)) from ⟨⟨Box.new w1 _ _, ho1.alloc _, hb1.alloc hb1.size _⟩, hox.alloc _⟩)
    clear ho1 hb1 HB hox
    generalize hG : w1.heap.size = G at *
    have CI := fun W (h1 : Sl W W.heap.size A1 ls) (h2 : Sli W W.heap.size (some ⟨gx, 0, none⟩) xs) => pathValid_impl n A1 ls c1 (some ⟨gx, 0, none⟩) xs cx W (by omega) (by omega) h1 h2
    have CS := fun W (h1 : Sl W W.heap.size A1 ls) (h2 : Sli W W.heap.size (some ⟨gx, 0, none⟩) xs) => pathValid_spec n A1 ls c1 (some ⟨gx, 0, none⟩) xs cx W (by omega) (by omega) (by omega) h1 h2
    cases hv : pvB n ls xs with
    | false =>
      rw [hv] at CI CS
      clear hv
      go_wp2_with fail
      refine (CI _ L1.out.sl L1.out.sli).mono ?_
      rintro e w2 ⟨rfl, hb2⟩
      have L2 := Lib.hid (L1.out.call hb2)
      clear hb2 L1 hG
      obtain ⟨z2, c20, c21, -, -⟩ := L2.out.1.1.two
      go_wp2_with fail
      refine (CS _ L2.out.sl L2.out.sli).mono ?_
      rintro e w3 ⟨rfl, hb3⟩
      have L3 := Lib.hid (L2.out.call hb3)
      clear hb3 L2 z2 c20 c21 CS
      go_wp2_with fail
      go_ret
      exact ⟨rfl, L3.out.1.2.2⟩
    | true =>
      rw [hv] at CI CS
      obtain ⟨m, rfl, hp⟩ := pvB_PV hv
      have hpos := hp.pos
      have hl9 := hp.len
      have HP := Lib.hid hp
      obtain ⟨i0, hi, hz0, hz10, hz20⟩ := info_parts infoInt
      clear hv hp
      go_wp2_with fail
      refine (CI _ L1.out.sl L1.out.sli).mono ?_
      rintro e w2 ⟨rfl, hb2⟩
      have L2 := Lib.hid (L1.out.call hb2)
      clear hb2 L1 hG
      obtain ⟨z2, c20, c21, -, -⟩ := L2.out.1.1.two
      go_wp2_with fail
      refine (CS _ L2.out.sl L2.out.sli).mono ?_
      rintro e w3 ⟨rfl, hb3⟩
      have L3 := Lib.hid (L2.out.call hb3)
      clear hb3 L2 z2 c20 c21 CS
      obtain ⟨z3, c30, c31, -, -⟩ := L3.out.1.1.two
      have Q0 : Hid (PS w3 (.slice (some ⟨w3.heap.size, 0, none⟩) 0 0) [] (w3.alloc (.cells #[] 3))) :=
        Lib.hid ⟨⟨by simp, .inr ⟨w3.heap.size, 0, #[], rfl, Nat.le_refl _, Box.new w3 3 #[], Nat.le_refl _, by omega, rfl, by simp⟩⟩, by (repeat (first | exact Below.refl _ _ | (refine Below.alloc ?_ (by first | exact Nat.le_refl _ | omega | (simp; done) | (simp; omega)) _) | (refine Below.setCell ?_ (by first | exact Nat.le_refl _ | omega | (simp; done) | (simp; omega)) _) | exact Below.drew ‹_›))⟩
      go_wp2_with fail
      go_loopw [7, 8] (fun v i wr => ∃ (k : Nat) (r : List Int), k ≤ xs.length ∧ i = .int .i64 ((k : Int) - 1) ∧ Hid (r = (xs.drop k).reverse) ∧ PS w3 v r wr) (fun _ i _ => (intOf i + 1).toNat)
      case atStart => exact ⟨xs.length, [], Nat.le_refl _, by go_num, Lib.hid (by rw [List.drop_length]; rfl), Q0.out⟩
      case round =>
        obtain ⟨k, r, hk, rfl, HR, hq⟩ := hrel
        have Q := Lib.hid hq
        have L4 := Lib.hid (L3.out.call hq.bel)
        clear hq Q0
        obtain ⟨z4, c40, c41, -, -⟩ := L4.out.1.1.two
        have hrl : r.length ≤ 9 := by rw [HR.out]; simp; omega
        by_cases hk0 : k = 0
        · subst hk0
          have HRV : Hid (r = xs.reverse) := Lib.hid (by rw [HR.out]; rfl)
          obtain ⟨A9, g9, c9, rfl, hg9, hc9, ho9⟩ := own_slicec Q.out.row Q.out.bel.size
          have O9 := Lib.hid ho9
          have CV := fun W (h1 : Sl W W.heap.size A1 ls) (h2 : Sli W W.heap.size A9 r) => pathValid_impl (m : Int) A1 ls c1 A9 r c9 W (by omega) (by omega) h1 h2
          have CB := fun W (h1 : Sl W W.heap.size A1 ls) (h2 : Sli W W.heap.size A9 r) => pathCost_impl (m : Int) A1 ls c1 A9 r c9 W (by omega) (by omega) h1 h2
          have CC := fun W (h1 : Sl W W.heap.size A1 ls) (h2 : Sli W W.heap.size (some ⟨gx, 0, none⟩) xs) => pathCost_impl (m : Int) A1 ls c1 (some ⟨gx, 0, none⟩) xs cx W (by omega) (by omega) h1 h2
          have e1 : pvB (m : Int) ls r = true := by rw [HRV.out]; exact HP.out.back.pvB
          have e2 : costP (m : Int) ls r = costP (m : Int) ls xs := by rw [HRV.out]; exact costP_back HP.out
          rw [e1] at CV
          rw [e2] at CB
          generalize costP (m : Int) ls xs = t at *
          clear ho9 e1 e2 L3 z3 c30 c31 hk
          go_wp2_with fail
          have hX := fun (x : Ext wr.drew) (bb o : Nat) (h : bb < wr.heap.size) => (show x.w.cell? ⟨bb, o, none⟩ = wr.cell? ⟨bb, o, none⟩ from x.cell bb o h)
          refine wp_region_staged 18 (by kernel_rfl) (by kernel_rfl) ?_
          refine stage_seg _ 16 [0, 1] (by kernel_rfl) (by kernel_rfl) (by kernel_rfl) (by kernel_rfl) ?_
          (simp only [List.map_cons, List.map_nil, List.getElem?_cons_zero, List.getElem?_cons_succ, Option.getD_some]); (repeat (go_big_quiet_step (fail))); (refine wpQuiet_nil ?_)
          refine stage_call _ 15 2 (by kernel_rfl) (by rfl) (by kernel_rfl) (by rfl) ?_
          go_wp2_with fail
          refine (CV wr.drew L4.out.drew.sl (Own1i.sli (w := wr.drew) O9.out)).mono ?_
          clear CV
          rintro e w5 ⟨rfl, hb5⟩
          refine ⟨hb5, ?_⟩
          have L5 := Lib.hid (L4.out.drew.call hb5)
          have O5 := Lib.hid (Own1i.below (w := wr.drew) O9.out hb5)
          clear hb5 hX z4 c40 c41 L4 O9 Q
          obtain ⟨z5, c50, c51, -, -⟩ := L5.out.1.1.two
          have hX5 := fun (x : Ext w5) (bb o : Nat) (h : bb < w5.heap.size) => x.cell bb o h
          refine stage_seg _ 10 [3, 4, 5, 7, 8] (by kernel_rfl) (by kernel_rfl) (by kernel_rfl) (by kernel_rfl) ?_
          (simp only [List.map_cons, List.map_nil, List.getElem?_cons_zero, List.getElem?_cons_succ, Option.getD_some]); (repeat (go_big_quiet_step (fail))); (refine wpQuiet_nil ?_)
          refine stage_call _ 9 6 (by kernel_rfl) (by rfl) (by kernel_rfl) (by rfl) ?_
          go_wp2_with fail
          refine (CB w5 L5.out.sl O5.out.sli).mono ?_
          clear CB
          rintro e w6 ⟨rfl, hb6⟩
          refine ⟨hb6, ?_⟩
          have L6 := Lib.hid (L5.out.call hb6)
          clear hb6 hX5 z5 c50 c51 L5 O5
          refine stage_call _ 8 9 (by kernel_rfl) (by rfl) (by kernel_rfl) (by rfl) ?_
          go_wp2_with fail
          refine (CC w6 L6.out.sl L6.out.sli).mono ?_
          clear CC
          rintro e w7 ⟨rfl, hb7⟩
          refine ⟨hb7, ?_⟩
          have L7 := Lib.hid (L6.out.call hb7)
          clear hb7 L6
          have hl9' : (xs.length : Int) ≤ 9 := by omega
          have hX7 := fun (x : Ext w7) (bb o : Nat) (h : bb < w7.heap.size) => x.cell bb o h
          refine stage_seg _ 0 [10, 11, 12, 13, 14, 15, 16, 17] (by kernel_rfl) (by kernel_rfl) (by kernel_rfl) (by kernel_rfl) ?_
          (simp only [List.map_cons, List.map_nil, List.getElem?_cons_zero, List.getElem?_cons_succ, Option.getD_some]); (repeat (go_big_quiet_step (fail))); (refine wpQuiet_nil ?_)
          refine stage_end (by kernel_rfl) ?_
          clear hX7
          go_wp2_with fail
          go_ret
          exact ⟨ret_bool (by simp), L7.out.1.2.2⟩
        · obtain ⟨p, hp1⟩ : ∃ p : Nat, k = p + 1 := ⟨k - 1, by omega⟩
          have hsub : (k : Int) - 1 = (p : Int) := by omega
          have hwp : IntKind.i64.wrap (p : Int) = (p : Int) := IntWalk.i64_in _ (by omega)
          have hpl : p < xs.length := by omega
          have HP1 := Lib.hid hp1
          rw [hsub]
          clear hk0 hp1
          obtain ⟨x, hx⟩ : ∃ x, xs[p]? = some x := ⟨_, List.getElem?_eq_getElem hpl⟩
          obtain ⟨zx, hcx'⟩ := L4.out.node hx
          have HX := Lib.hid hx
          have HRN : Hid (r ++ [x] = (xs.drop p).reverse) := Lib.hid (by rw [rev_next HX.out, HR.out, HP1.out])
          clear hx z3 c30 c31
          go_upto_region 13 with (at_builtin; refine wpList_append_own_at _ rfl _ _ 25 rfl w3.heap.size 3 i0 _ 1 8 Try.underlying25 hi hz0 hz10 hz20 rfl (by decide) _ r.length _ rfl (Q.out.row.alloc _) ⟨wr.heap.size, 0, none⟩ 1 1 [.int .i64 x] rfl rfl (cell_one_new _ _ _) (fun u hu => by simp at hu; subst hu; rfl) (by unfold maxLen; omega) (by omega) (by have := Q.out.bel.size; simp; omega) ?_; intro v' w9 hown' hgrow hnil hat; have Q9 := Lib.hid ((Q.out.alloc (.cells #[.int .i64 x] 3)).append (news := [x]) (m := 1) hown' rfl hgrow); clear hown' hgrow hnil hat)
          have L9 := Lib.hid (L3.out.call Q9.out.bel)
          clear z4 c40 c41 zx hcx' L4 Q
          obtain ⟨z9, c90, c91, -, -⟩ := L9.out.1.1.two
          obtain ⟨zx9, hcx9⟩ := L9.out.node HX.out
          have hX := fun (x : Ext w9.drew) (bb o : Nat) (h : bb < w9.heap.size) => (show x.w.cell? ⟨bb, o, none⟩ = w9.cell? ⟨bb, o, none⟩ from x.cell bb o h)
          by_cases hp0 : p = 0
          · subst hp0
            refine wp_region_staged 16 (by kernel_rfl) (by kernel_rfl) ?_
            refine stage_seg _ 3 [0, 1, 2, 3, 4, 5, 6, 7, 8, 9, 10, 11, 12] (by kernel_rfl) (by kernel_rfl) (by kernel_rfl) (by kernel_rfl) ?_
            (simp only [List.map_cons, List.map_nil, List.getElem?_cons_zero, List.getElem?_cons_succ, Option.getD_some]); (repeat (go_big_quiet_step (fail))); (refine wpQuiet_nil ?_)
            refine stage_skip _ 2 13 (by kernel_rfl) (by rfl) (by kernel_rfl) (by rfl) ?_
            go_simp
            refine stage_seg _ 0 [14, 15] (by kernel_rfl) (by kernel_rfl) (by kernel_rfl) (by kernel_rfl) ?_
            (simp only [List.map_cons, List.map_nil, List.getElem?_cons_zero, List.getElem?_cons_succ, Option.getD_some]); (repeat (go_big_quiet_step (fail))); (refine wpQuiet_nil ?_)
            refine stage_end (by kernel_rfl) ?_
            clear hX
            have QD := Lib.hid (show PS w3 v' (r ++ [x]) w9.drew from ⟨Q9.out.row, Q9.out.bel.drew⟩)
            go_wp2_with fail
            go_roundw
            case rel => exact ⟨0, r ++ [x], Nat.zero_le _, by first | rfl | go_num, HRN, QD.out⟩
            case measure => simp [intOf]
          · obtain ⟨u, hu⟩ : ∃ u : Nat, p = u + 1 := ⟨p - 1, by omega⟩
            have hsubu : (p : Int) - 1 = (u : Int) := by omega
            have hwpu : IntKind.i64.wrap (u : Int) = (u : Int) := IntWalk.i64_in _ (by omega)
            have hul : u < xs.length := by omega
            have hp0' : 0 < p := by omega
            obtain ⟨y, hy⟩ : ∃ y, xs[u]? = some y := ⟨_, List.getElem?_eq_getElem hul⟩
            obtain ⟨-, hcy9⟩ := L9.out.node hy
            have hlk := HP.out.link hy (by rw [← hu]; exact HX.out)
            have CL := link_impl (m : Int) A1 ls c1 y x w9.drew (by omega) L9.out.drew.sl
            generalize linkI (m : Int) ls y x = lk at *
            have hlk' : ¬ lk < 0 := by omega
            clear hy hu hp0
            refine wp_region_staged 16 (by kernel_rfl) (by kernel_rfl) ?_
            refine stage_seg _ 3 [0, 1, 2, 3, 4, 5, 6, 7, 8, 9, 10, 11, 12] (by kernel_rfl) (by kernel_rfl) (by kernel_rfl) (by kernel_rfl) ?_
            (simp only [List.map_cons, List.map_nil, List.getElem?_cons_zero, List.getElem?_cons_succ, Option.getD_some]); (repeat (go_big_quiet_step (fail))); (refine wpQuiet_nil ?_)
            refine stage_call _ 2 13 (by kernel_rfl) (by rfl) (by kernel_rfl) (by rfl) ?_
            go_wp2_with fail
            refine CL.mono ?_
            clear CL
            rintro e w10 ⟨rfl, hb10⟩
            refine ⟨hb10, ?_⟩
            have QD := Lib.hid (PS.call (W := w9.drew) ⟨Q9.out.row, Q9.out.bel.drew⟩ hb10)
            clear hb10 hX z9 c90 c91 zx9 hcx9 hcy9
            refine stage_seg _ 0 [14, 15] (by kernel_rfl) (by kernel_rfl) (by kernel_rfl) (by kernel_rfl) ?_
            (simp only [List.map_cons, List.map_nil, List.getElem?_cons_zero, List.getElem?_cons_succ, Option.getD_some]); (repeat (go_big_quiet_step (fail))); (refine wpQuiet_nil ?_)
            refine stage_end (by kernel_rfl) ?_
            go_wp2_with fail
            go_roundw
            case rel => exact ⟨p, r ++ [x], by omega, by go_num, HRN, QD.out⟩
            case measure => simp [intOf]; omega
  · go_enter Try.func6, Try.ntmps6
    go_wp2
    go_ret
    exact ⟨rfl, by (repeat (first | exact Below.refl _ _ | (refine Below.alloc ?_ (by first | exact Nat.le_refl _ | omega | (simp; done) | (simp; omega)) _) | (refine Below.setCell ?_ (by first | exact Nat.le_refl _ | omega | (simp; done) | (simp; omega)) _) | exact Below.drew ‹_›))⟩

end Go.Proofs.Ytonnihalmomglaa
