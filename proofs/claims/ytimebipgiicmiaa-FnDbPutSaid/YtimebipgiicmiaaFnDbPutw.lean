/-
  The walk of FnDbPut over this seat.
-/
import Derived.Test.YtimebipgiicmiaaLu
namespace Go.Proofs.Ytimebipgiicmiaa
open Go.RowKit Go.Maps

set_option maxRecDepth 100000 in
set_option maxHeartbeats 1600000 in
theorem fnDbPut_walk (A : Option Addr) (len c : Nat) (f : Nat → Int) (w : World) (hlc : len ≤ c) (hc : c ≤ maxLen) (hB : Byt w w.heap.size A len f) :
   Calls Try.prog 7 #[.slice A len c] w fun e w' => e = .returned (.bool true) ∧ Below w.heap.size w w' := by
  have HB := Lib.hid hB
  clear hB
  by_cases hl : len ≤ 1048576
  · go_enter Try.func7, Try.ntmps7
    go_wp2_with fail
    refine (drawDbPut_any A len c f w hlc hc HB.out).mono ?_
    rintro e w1 ⟨zs, A1, c1, z, rfl, hl9, hok, hokz, hzi, hin, -, hb1⟩
    have hes : ∀ x ∈ zs, x.es.length ≤ 2000000 := fun x hx => by have := (hok x hx).2.2.2.2.1; dsimp only at this; omega
    have hle : z.es.length ≤ 2000000 := by have := hokz.2.2.2.2.1; dsimp only at this; omega
    have L1 := Lib.hid (LU.start hzi hin hb1)
    have CI := fun W (h1 : Slz W W.heap.size A1 zs) (h2 : Slb W W.heap.size z.A z.es) => dbPut_impl A1 zs c1 z W (by omega) hes hle h1 h2
    have CS := fun W (h1 : Slz W W.heap.size A1 zs) (h2 : Slb W W.heap.size z.A z.es) => dbPut_spec A1 zs c1 z W (by omega) hes hle h1 h2
    have HSH := Lib.hid (fun (ys : List Lz) (h : datL ys = putD (datL zs) z.d) => put_short h)
    have HCA := Lib.hid (putN_cases (datL zs) z.d)
    have HES := Lib.hid hes
    obtain ⟨n, hn⟩ : ∃ n, putN (datL zs) z.d = n := ⟨_, rfl⟩
    obtain ⟨ds, hds⟩ : ∃ ds, putD (datL zs) z.d = ds := ⟨_, rfl⟩
    rw [hn] at CI CS HCA
    rw [hds] at CI CS HCA HSH
    generalize hG : w1.heap.size = G at *
    obtain ⟨zo, zq, zes, zA, zc, zg⟩ := z
    dsimp only at *
    clear hzi hin hb1 HB hok hokz hes hn hds
    go_wp2_with fail
    refine (CI _ L1.out.sl L1.out.le).mono ?_
    clear CI
    rintro e w2 ⟨ys, A2, c2, rfl, hd2, hz2, hb2⟩
    have L2 := Lib.hid (L1.out.call hb2)
    have Y2 := Lib.hid (hz2.slz hb2.size)
    obtain ⟨hyl, hye, hyv⟩ := HSH.out ys hd2
    clear hb2 hz2 L1
    obtain ⟨zx, x0, x1, x2, -, -, -⟩ := L2.out.box.three
    go_wp2_with fail
    refine (CS _ L2.out.sl L2.out.le).mono ?_
    clear CS
    rintro e w3 ⟨vs, A3, c3, rfl, hd3, hz3, hb3⟩
    have L3 := Lib.hid (L2.out.call hb3)
    have Y3 := Lib.hid (Y2.out.step hb3)
    have V3 := Lib.hid (hz3.slz hb3.size)
    have hsame : datL ys = datL vs := hd2.trans hd3.symm
    have D2 := Lib.hid hd2
    clear hb3 hz3 L2 Y2 zx x0 x1 x2 hd2 hd3
    have CM := fun W (h1 : Slz W W.heap.size A2 ys) (h2 : Slz W W.heap.size A3 vs) => sameDb_any A2 A3 ys vs c2 c3 W (by omega) (fun x hx => by have := hye x hx; omega) h1 h2
    rw [decide_eq_true hsame] at CM
    clear hsame
    obtain ⟨zx, x0, x1, x2, -, -, -⟩ := L3.out.box.three
    by_cases h3 : n = 0
    · have h3' : (n == 0) = true := by simp [h3]
      obtain ⟨hv1, hv2, hnc, hdp⟩ : dbB (datL zs) = true ∧ laB ⟨zo, zq, zes⟩ = true ∧ n = putC (datL zs) ⟨zo, zq, zes⟩ ∧ ds = putL (datL zs) ⟨zo, zq, zes⟩ := by
        rcases HCA.out with h | h
        · have := h.1; omega
        · exact h.2
      have hp0 : putC (datL zs) ⟨zo, zq, zes⟩ = 0 := by rw [← hnc]; exact h3
      obtain ⟨hpn1, hpn2⟩ := put_new (l := ⟨zo, zq, zes⟩) (dbB_inv hv1).2 hp0
      have hq := (putC_codes (db := datL zs) hv2)
      rw [hp0] at hq
      dsimp only at hq
      have hlt : seqL (datL zs) zo < zq := by
        by_cases h1 : seqL (datL zs) zo = zq
        · rw [if_pos h1] at hq; omega
        · rw [if_neg h1] at hq
          by_cases h2 : zq < seqL (datL zs) zo
          · rw [if_pos h2] at hq; omega
          · omega
      have HN1 : Hid ((datL ys).any (fun d => decide (d = ⟨zo, zq, zes⟩)) = true) := Lib.hid (by
        rw [List.any_eq_true, D2.out, hdp]
        exact ⟨_, hpn1, by simp⟩)
      have HN2 : Hid (∀ (k : Nat) (x : Lz), zs[k]? = some x → x.o ≠ zo → seqL (datL ys) x.o = x.q) := Lib.hid (fun k x hx ho => by
        rw [D2.out, hdp, hpn2 x.o ho]
        unfold seqL
        rw [show getL (datL zs) x.o = some x.d from getL_mem (db := datL zs) (dbB_inv hv1).2 (x := x.d) (List.mem_map.2 ⟨x, List.mem_of_getElem? hx, rfl⟩)])
      have CV := fun W (h : Slz W W.heap.size A2 ys) => dbValid_impl A2 ys c2 W (by omega) (fun x hx => by have := hye x hx; omega) h
      rw [hyv] at CV
      have CQ := fun W (h : Slz W W.heap.size A1 zs) => seqOf_any A1 zs c1 zo W (by omega) h
      have CY := fun (o : Int) W (h : Slz W W.heap.size A2 ys) => seqOf_any A2 ys c2 o W (by omega) h
      have HYE := Lib.hid hye
      clear hv1 hv2 hnc hdp HCA hp0 hpn1 hpn2 hq
      generalize seqL (datL zs) zo = s at *
      subst h3
      go_wp2_with fail
      refine (CM _ Y3.out V3.out).mono ?_
      rintro e w4 ⟨rfl, hb4⟩
      have L4 := Lib.hid (L3.out.call hb4)
      have Y4 := Lib.hid (Y3.out.step hb4)
      have V4 := Lib.hid (V3.out.step hb4)
      clear hb4 L3 Y3 V3 zx x0 x1 x2
      obtain ⟨zx, x0, x1, x2, -, -, -⟩ := L4.out.box.three
      clear CM
      go_wp2_with fail
      go_loopw [9, 10] (fun v i wr => ∃ (k : Nat) (fb : Bool), k ≤ ys.length ∧ v = .bool fb ∧ i = .int .i64 (k : Int) ∧ Hid (fb = ((datL ys).take k).any (fun d => decide (d = ⟨zo, zq, zes⟩))) ∧ Hid (LU w G ⟨zo, zq, zes, zA, zc, zg⟩ A1 zs wr) ∧ Hid (Slz wr wr.heap.size A2 ys)) (fun _ i _ => ys.length - (intOf i).toNat)
      case atStart => exact ⟨0, false, Nat.zero_le _, rfl, rfl, Lib.hid rfl, L4, Y4⟩
      case round =>
        obtain ⟨k, fb, hk, rfl, rfl, HF, L5, Y5⟩ := hrel
        clear L4 Y4 V4 zx x0 x1 x2
        obtain ⟨zx, x0, x1, x2, -, -, -⟩ := L5.out.box.three
        by_cases hkt : k < ys.length
        · obtain ⟨y, hy⟩ : ∃ y, ys[k]? = some y := ⟨_, List.getElem?_eq_getElem hkt⟩
          obtain ⟨b, off, rfl, hbb, hc1, hc2, hc3, hyb⟩ := Y5.out k y hy
          have hyl2 : y.es.length ≤ 2000000 := by have := HYE.out y (List.mem_of_getElem? hy); omega
          have HT : Hid (((datL ys).take (k + 1)).any (fun d => decide (d = ⟨zo, zq, zes⟩)) = (fb || decide (y.d = ⟨zo, zq, zes⟩))) := Lib.hid (by rw [datL_next hy, List.any_append, ← HF.out]; simp)
          have CL := fun W (h1 : Slb W W.heap.size y.A y.es) (h2 : Slb W W.heap.size zA zes) => sameLsa_any y ⟨zo, zq, zes, zA, zc, zg⟩ W hyl2 h1 h2
          have YB := Lib.hid hyb
          obtain ⟨yo, yq, yes, yA, yc, yg⟩ := y
          dsimp only at *
          clear hy hyb
          go_wp2_with fail
          cases fb with
          | true =>
            have hX := fun (x : Ext wr.drew) (bb oo : Nat) (h : bb < wr.heap.size) => (show x.w.cell? ⟨bb, oo, none⟩ = wr.cell? ⟨bb, oo, none⟩ from x.cell bb oo h)
            refine wp_region_staged 10 (by kernel_rfl) (by kernel_rfl) ?_
            refine stage_seg _ 3 [0, 1, 2, 3, 4, 5, 6] (by kernel_rfl) (by kernel_rfl) (by kernel_rfl) (by kernel_rfl) ?_
            (simp only [List.map_cons, List.map_nil, List.getElem?_cons_zero, List.getElem?_cons_succ, Option.getD_some]); (repeat (go_big_quiet_step (fail))); (refine wpQuiet_nil ?_)
            refine stage_skip _ 2 7 (by kernel_rfl) (by rfl) (by kernel_rfl) (by rfl) ?_
            go_simp
            refine stage_seg _ 0 [8, 9] (by kernel_rfl) (by kernel_rfl) (by kernel_rfl) (by kernel_rfl) ?_
            (simp only [List.map_cons, List.map_nil, List.getElem?_cons_zero, List.getElem?_cons_succ, Option.getD_some]); (repeat (go_big_quiet_step (fail))); (refine wpQuiet_nil ?_)
            refine stage_end (by kernel_rfl) ?_
            clear hX
            go_wp2_with fail
            go_roundw
            case rel => exact ⟨k + 1, true, hkt, rfl, by go_num, Lib.hid (by rw [HT.out]; rfl), Lib.hid L5.out.drew, Lib.hid (show Slz wr.drew wr.drew.heap.size _ ys from Y5.out)⟩
            case measure => simp [intOf]; omega
          | false =>
            have hX := fun (x : Ext wr.drew) (bb oo : Nat) (h : bb < wr.heap.size) => (show x.w.cell? ⟨bb, oo, none⟩ = wr.cell? ⟨bb, oo, none⟩ from x.cell bb oo h)
            refine wp_region_staged 10 (by kernel_rfl) (by kernel_rfl) ?_
            refine stage_seg _ 3 [0, 1, 2, 3, 4, 5, 6] (by kernel_rfl) (by kernel_rfl) (by kernel_rfl) (by kernel_rfl) ?_
            (simp only [List.map_cons, List.map_nil, List.getElem?_cons_zero, List.getElem?_cons_succ, Option.getD_some]); (repeat (go_big_quiet_step (fail))); (refine wpQuiet_nil ?_)
            refine stage_call _ 2 7 (by kernel_rfl) (by rfl) (by kernel_rfl) (by rfl) ?_
            go_wp2_with fail
            refine (CL wr.drew YB.out L5.out.drew.le).mono ?_
            clear CL
            rintro e w6 ⟨rfl, hb6⟩
            refine ⟨hb6, ?_⟩
            have L6 := Lib.hid (L5.out.drew.call hb6)
            have Y6 := Lib.hid (Slz.step (w := wr.drew) Y5.out hb6)
            clear hb6 hX
            refine stage_seg _ 0 [8, 9] (by kernel_rfl) (by kernel_rfl) (by kernel_rfl) (by kernel_rfl) ?_
            (simp only [List.map_cons, List.map_nil, List.getElem?_cons_zero, List.getElem?_cons_succ, Option.getD_some]); (repeat (go_big_quiet_step (fail))); (refine wpQuiet_nil ?_)
            refine stage_end (by kernel_rfl) ?_
            go_wp2_with fail
            go_roundw
            case rel => exact ⟨k + 1, _, hkt, rfl, by go_num, Lib.hid (by rw [HT.out]; simp), L6, Y6⟩
            case measure => simp [intOf]; omega
        · obtain rfl : k = ys.length := by omega
          have hfb : fb = true := by
            rw [HF.out, show ys.length = (datL ys).length by simp [datL], List.take_length]
            exact HN1.out
          subst hfb
          go_wp2_with fail
          go_loopw [11] (fun i wr => ∃ k : Nat, k ≤ zs.length ∧ i = .int .i64 (k : Int) ∧ Hid (LU w G ⟨zo, zq, zes, zA, zc, zg⟩ A1 zs wr) ∧ Hid (Slz wr wr.heap.size A2 ys)) (fun i _ => zs.length - (intOf i).toNat)
          case atStart => exact ⟨0, Nat.zero_le _, rfl, L5, Y5⟩
          case round =>
            obtain ⟨k, hk2, rfl, L6, Y6⟩ := hrel
            clear L5 Y5 zx x0 x1 x2 HF
            obtain ⟨zx, x0, x1, x2, -, -, -⟩ := L6.out.box.three
            by_cases hkt : k < zs.length
            · obtain ⟨x, hx⟩ : ∃ x, zs[k]? = some x := ⟨_, List.getElem?_eq_getElem hkt⟩
              obtain ⟨b, off, rfl, hbb, hc1, hc2, hc3, -⟩ := L6.out.sl k x hx
              have HXQ := Lib.hid (HN2.out k x hx)
              obtain ⟨xo, xq, xes, xA, xc, xg⟩ := x
              dsimp only at *
              clear hx
              by_cases ho : xo = zo
              · have ho' : (xo != zo) = false := by simp [ho]
                go_wp2_with fail
                have hX := fun (x : Ext wr.drew) (bb oo : Nat) (h : bb < wr.heap.size) => (show x.w.cell? ⟨bb, oo, none⟩ = wr.cell? ⟨bb, oo, none⟩ from x.cell bb oo h)
                refine wp_region_staged 23 (by kernel_rfl) (by kernel_rfl) ?_
                refine stage_seg _ 3 [0, 1, 2, 3, 4, 5, 6, 7, 8, 9, 10, 11, 12, 13, 14, 16, 17, 18, 19, 20] (by kernel_rfl) (by kernel_rfl) (by kernel_rfl) (by kernel_rfl) ?_
                (simp only [List.map_cons, List.map_nil, List.getElem?_cons_zero, List.getElem?_cons_succ, Option.getD_some]); (repeat (go_big_quiet_step (fail))); (refine wpQuiet_nil ?_)
                refine stage_skip _ 2 15 (by kernel_rfl) (by rfl) (by kernel_rfl) (by rfl) ?_
                go_simp
                refine stage_seg _ 0 [21, 22] (by kernel_rfl) (by kernel_rfl) (by kernel_rfl) (by kernel_rfl) ?_
                (simp only [List.map_cons, List.map_nil, List.getElem?_cons_zero, List.getElem?_cons_succ, Option.getD_some]); (repeat (go_big_quiet_step (fail))); (refine wpQuiet_nil ?_)
                refine stage_end (by kernel_rfl) ?_
                clear hX
                go_wp2_with fail
                go_roundw
                case rel => exact ⟨k + 1, hkt, by go_num, Lib.hid L6.out.drew, Lib.hid (show Slz wr.drew wr.drew.heap.size _ ys from Y6.out)⟩
                case measure => simp [intOf]; omega
              · have ho' : (xo != zo) = true := by simp [ho]
                have hxq := HXQ.out ho
                have CY2 := fun W (h : Slz W W.heap.size A2 ys) => CY xo W h
                rw [hxq] at CY2
                have hne : (xq != xq) = false := by simp
                clear hxq HXQ
                go_wp2_with fail
                have hX := fun (x : Ext wr.drew) (bb oo : Nat) (h : bb < wr.heap.size) => (show x.w.cell? ⟨bb, oo, none⟩ = wr.cell? ⟨bb, oo, none⟩ from x.cell bb oo h)
                refine wp_region_staged 23 (by kernel_rfl) (by kernel_rfl) ?_
                refine stage_seg _ 3 [0, 1, 2, 3, 4, 5, 6, 7, 8, 9, 10, 11, 12, 13, 14, 16, 17, 18, 19, 20] (by kernel_rfl) (by kernel_rfl) (by kernel_rfl) (by kernel_rfl) ?_
                (simp only [List.map_cons, List.map_nil, List.getElem?_cons_zero, List.getElem?_cons_succ, Option.getD_some]); (repeat (go_big_quiet_step (fail))); (refine wpQuiet_nil ?_)
                refine stage_call _ 2 15 (by kernel_rfl) (by rfl) (by kernel_rfl) (by rfl) ?_
                go_wp2_with fail
                refine (CY2 wr.drew Y6.out).mono ?_
                clear CY2
                rintro e w7 ⟨rfl, hb7⟩
                refine ⟨hb7, ?_⟩
                have L7 := Lib.hid (L6.out.drew.call hb7)
                have Y7 := Lib.hid (Slz.step (w := wr.drew) Y6.out hb7)
                clear hb7 hX
                refine stage_seg _ 0 [21, 22] (by kernel_rfl) (by kernel_rfl) (by kernel_rfl) (by kernel_rfl) ?_
                (simp only [List.map_cons, List.map_nil, List.getElem?_cons_zero, List.getElem?_cons_succ, Option.getD_some]); (repeat (go_big_quiet_step (fail))); (refine wpQuiet_nil ?_)
                refine stage_end (by kernel_rfl) ?_
                go_wp2_with fail
                go_roundw
                case rel => exact ⟨k + 1, hkt, by go_num, L7, Y7⟩
                case measure => simp [intOf]; omega
            · clear CY HN2
              go_wp2_with fail
              have hX := fun (x : Ext wr.drew) (bb oo : Nat) (h : bb < wr.heap.size) => (show x.w.cell? ⟨bb, oo, none⟩ = wr.cell? ⟨bb, oo, none⟩ from x.cell bb oo h)
              refine wp_region_staged 15 (by kernel_rfl) (by kernel_rfl) ?_
              refine stage_seg _ 12 [0, 1, 2] (by kernel_rfl) (by kernel_rfl) (by kernel_rfl) (by kernel_rfl) ?_
              (simp only [List.map_cons, List.map_nil, List.getElem?_cons_zero, List.getElem?_cons_succ, Option.getD_some]); (repeat (go_big_quiet_step (fail))); (refine wpQuiet_nil ?_)
              refine stage_call _ 11 3 (by kernel_rfl) (by rfl) (by kernel_rfl) (by rfl) ?_
              go_wp2_with fail
              refine (CV wr.drew Y6.out).mono ?_
              clear CV
              rintro e w7 ⟨rfl, hb7⟩
              refine ⟨hb7, ?_⟩
              have L7 := Lib.hid (L6.out.drew.call hb7)
              clear hb7 hX zx x0 x1 x2
              obtain ⟨zx, x0, x1, x2, -, -, -⟩ := L7.out.box.three
              have hX7 := fun (x : Ext w7) (bb o : Nat) (h : bb < w7.heap.size) => x.cell bb o h
              refine stage_seg _ 4 [4, 5, 6, 7, 8, 10, 11] (by kernel_rfl) (by kernel_rfl) (by kernel_rfl) (by kernel_rfl) ?_
              (simp only [List.map_cons, List.map_nil, List.getElem?_cons_zero, List.getElem?_cons_succ, Option.getD_some]); (repeat (go_big_quiet_step (fail))); (refine wpQuiet_nil ?_)
              refine stage_call _ 3 9 (by kernel_rfl) (by rfl) (by kernel_rfl) (by rfl) ?_
              go_wp2_with fail
              refine (CQ w7 L7.out.sl).mono ?_
              clear CQ
              rintro e w8 ⟨rfl, hb8⟩
              refine ⟨hb8, ?_⟩
              have L8 := Lib.hid (L7.out.call hb8)
              clear hb8 hX7
              refine stage_seg _ 0 [12, 13, 14] (by kernel_rfl) (by kernel_rfl) (by kernel_rfl) (by kernel_rfl) ?_
              (simp only [List.map_cons, List.map_nil, List.getElem?_cons_zero, List.getElem?_cons_succ, Option.getD_some]); (repeat (go_big_quiet_step (fail))); (refine wpQuiet_nil ?_)
              refine stage_end (by kernel_rfl) ?_
              go_wp2_with fail
              go_ret
              exact ⟨ret_bool (by simp), L8.out.bel⟩

    · have h3' : (n == 0) = false := by simp [h3]
      have h3n : (n != 0) = true := by simp [h3]
      go_wp2_with fail
      refine (CM _ Y3.out V3.out).mono ?_
      rintro e w4 ⟨rfl, hb4⟩
      have L4 := Lib.hid (L3.out.call hb4)
      have Y4 := Lib.hid (Y3.out.step hb4)
      have V4 := Lib.hid (V3.out.step hb4)
      clear hb4 L3 Y3 V3 zx x0 x1 x2
      obtain ⟨zx, x0, x1, x2, -, -, -⟩ := L4.out.box.three
      go_wp2_with fail
      refine (CM _ Y4.out V4.out).mono ?_
      rintro e w5 ⟨rfl, hb5⟩
      have L5 := Lib.hid (L4.out.call hb5)
      clear hb5
      go_wp2_with fail
      go_ret
      exact ⟨ret_bool (by simp), L5.out.bel⟩

  · go_enter Try.func7, Try.ntmps7
    go_wp2
    go_ret
    exact ⟨rfl, by (repeat (first | exact Below.refl _ _ | (refine Below.alloc ?_ (by first | exact Nat.le_refl _ | omega | (simp; done) | (simp; omega)) _) | (refine Below.setCell ?_ (by first | exact Nat.le_refl _ | omega | (simp; done) | (simp; omega)) _) | exact Below.drew ‹_›))⟩

end Go.Proofs.Ytimebipgiicmiaa
