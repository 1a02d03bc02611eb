/-
  The walk of FnRepairNodes over this seat.
-/
import Derived.Test.YtenlofomkchlaabDoorVp
import Derived.Test.YtenlofomkchlaabDoorA8
namespace Go.Proofs.YtenlofomkchlaabDoor
open Go.RowKit Go.Maps

set_option maxRecDepth 100000 in
set_option maxHeartbeats 3200000 in
theorem fnRepairNodes_walk (A : Option Addr) (len c : Nat) (f : Nat → Int) (w : World) (hlc : len ≤ c) (hc : c ≤ maxLen) (hB : Byt w w.heap.size A len f) (hsen : Sen w) :
   Calls Tryd.prog 9 #[.slice A len c] w fun e w' => e = .returned (.bool true) ∧ Below w.heap.size w w' := by
  have HB := Lib.hid hB
  clear hB
  have HSEN := Lib.hid hsen
  clear hsen
  by_cases hl : len ≤ 1048576
  · go_enter Tryd.func9, Tryd.ntmps9
    go_wp2_with fail
    refine (drawRepK_any A len c f w hlc hc HB.out).mono ?_
    rintro e w1 ⟨n, ls, A1, g1, c1, x, y, z, rfl, ⟨hn0, hn1, hls, hg1, ho1, hb1⟩, hx0, hx1, hy0, hy1, hz0, hz1, hcap⟩
    have L1 := Lib.hid (show LB w w1.heap.size n ls A1 g1 c1 (w1.alloc (.cells #[.int .i64 n, .slice A1 ls.length c1] 31)) from ⟨Box.new w1 _ _, ho1.alloc _, hb1.alloc hb1.size _⟩)
    clear ho1 hb1 HB
    generalize hG : w1.heap.size = G at *
    go_wp2_with fail
    refine (repStack_impl n A1 ls c1 x y z _ (by omega) L1.out.2.1.isV L1.out.2.1.sl (HSEN.out.below L1.out.2.2)).mono ?_
    rintro e w2 ⟨A2, g2, c2, rfl, hg2, ho2, hb2, hlc2⟩
    have L2 := Lib.hid (L1.out.call hb2)
    have P2 := Lib.hid ho2
    clear hb2 L1 hG ho2
    obtain ⟨z2, c20, c21, -, -⟩ := L2.out.1.two
    go_wp2_with fail
    refine (repStack_spec n A1 ls c1 x y z w2 (by omega) (by omega) L2.out.2.1.isV hcap L2.out.2.1.sl).mono ?_
    rintro e w3 ⟨A3, g3, c3, rfl, hg3, ho3, hb3, hlc3⟩
    have L3 := Lib.hid (L2.out.call hb3)
    have P3 := Lib.hid (P2.out.below hb3)
    have Q3 := Lib.hid ho3
    clear hb3 L2 z2 c20 c21 P2 ho3 hg2 hg3 hlc3
    have hst8 := repA_len8 n ls x y z
    have HF := Lib.hid (fun (h : repB n ls x y z = true) => node_law (repB_some h))
    have CF := fun (a : Int) W (h : Sl W W.heap.size A1 ls) => repSafe_impl n A1 ls c1 a y W (by omega) h
    have HZ8 := Lib.hid (fun (a : Int) => safeA_len8 n ls a y)
    have CEE := fun (a : Int) (B : Option Addr) (us : List Lb) (cb : Nat) W h1 (h2 : Sl W W.heap.size A1 ls) h3 => stackEnd_impl n A1 ls c1 a B us cb W (by omega) h1 h2 h3
    generalize repA n ls x y z = st at *
    generalize repB n ls x y z = ok at *
    have CS := fun W (h1 : Slb W W.heap.size A2 st) (h2 : Slb W W.heap.size A3 st) => sameLb_same A2 A3 st c2 c3 W (by omega) h1 h2
    obtain ⟨z3, c30, c31, -, -⟩ := L3.out.1.two
    cases ok with
    | false =>
      clear HF
      go_wp2_with fail
      refine (CS _ P3.out.slb Q3.out.slb).mono ?_
      rintro e w4 ⟨rfl, hb⟩
      have L4 := Lib.hid (L3.out.call hb)
      have P4 := Lib.hid (P3.out.below hb)
      have Q4 := Lib.hid (Q3.out.below hb)
      clear hb L3 P3 Q3 z3 c30 c31
      go_wp2_with fail
      refine (CS _ P4.out.slb Q4.out.slb).mono ?_
      rintro e w5 ⟨rfl, hb⟩
      have LX := Lib.hid (L4.out.call hb)
      go_wp2_with fail
      go_ret
      exact ⟨rfl, LX.out.2.2⟩
    | true =>
      have HF2 := Lib.hid (HF.out rfl)
      clear HF
      go_wp2_with fail
      refine (CS _ P3.out.slb Q3.out.slb).mono ?_
      rintro e w4 ⟨rfl, hb⟩
      have L4 := Lib.hid (L3.out.call hb)
      have P4 := Lib.hid (P3.out.below hb)
      have Q4 := Lib.hid (Q3.out.below hb)
      clear hb L3 P3 Q3 z3 c30 c31
      clear Q4 CS
      obtain ⟨z4, c40, c41, -, -⟩ := L4.out.1.two
      obtain ⟨n, rfl, hend, hall⟩ := HF2.out
      have HEND := Lib.hid hend
      have HALL := Lib.hid hall
      clear hend hall HF2
      go_wp2_with fail
      go_loopw [11, 12] (fun u v wr => ∃ (a : Int) (j : Nat), j ≤ st.length ∧ u = .int .i64 a ∧ v = .int .i64 (j : Int) ∧ Hid (endO (n : Int) ls x (st.take j) = some a) ∧ Hid (LB w G (n : Int) ls A1 g1 c1 wr) ∧ Hid (Ownb wr A2 g2 st)) (fun _ v _ => st.length - (intOf v).toNat)
      case atStart => exact ⟨x, 0, Nat.zero_le _, rfl, rfl, Lib.hid rfl, L4, P4⟩
      case round =>
        obtain ⟨a, j, hj, rfl, rfl, HA, L5, P5⟩ := hrel
        clear L4 P4 z4 c40 c41
        by_cases hlt : j < st.length
        · obtain ⟨l, hl⟩ : ∃ l, st[j]? = some l := ⟨_, List.getElem?_eq_getElem hlt⟩
          obtain ⟨b, hb1, hb2, hb3⟩ := HALL.out j l a hl HA.out
          have HB := Lib.hid hb1
          have HL := Lib.hid hl
          obtain ⟨rfl, hA2⟩ := P5.out (by omega)
          have CE := fun W (h2 : Sl W W.heap.size A1 ls) h3 => CEE a (some ⟨g2, j * 2, none⟩) [l] (c2 - j) W (by simp) h2 h3
          rw [hb2] at CE
          dsimp only [stepV, List.length_cons, List.length_nil] at CE
          have HB3 := Lib.hid hb3
          obtain ⟨b', off', e', hbb, d0, d1⟩ := P5.out.slb j l hl
          cases e'
          obtain ⟨zg, p0, p1, -, -⟩ := L5.out.1.two
          have hjc : j < c2 := by omega
          clear hl hb1 hb2 hb3 CEE hA2
          have hX := fun (x : Ext wr.drew) (bb o : Nat) (h : bb < wr.heap.size) => (show x.w.cell? ⟨bb, o, none⟩ = wr.cell? ⟨bb, o, none⟩ from x.cell bb o h)
          have HSL : Hid (∀ W : World, Ownb W (some ⟨g2, 0, none⟩) g2 st → Slb W W.heap.size (some ⟨g2, j * 2, none⟩) [l]) := Lib.hid (fun W h => h.slb.one HL.out)
          obtain ⟨lk, la⟩ := l
          dsimp only at d0 d1 HB3
          simp only [Nat.zero_add] at d0 d1
          by_cases h1 : lk = 1
          · subst h1
            have hin := HB3.out rfl
            have CF5 := CF a wr.drew L5.out.drew.2.1.sl
            have hz8 := HZ8.out a
            have CI := fun A7 c7 W (h : Sli W W.heap.size A7 (safeA (n : Int) ls a y)) => hasInt_any A7 (safeA (n : Int) ls a y) c7 la W (by omega) h
            rw [hin] at CI
            clear hin HB3
            generalize safeA (n : Int) ls a y = zs at *
            go_upto_region 12 with fail
            refine wp_region_staged 19 (by kernel_rfl) (by kernel_rfl) ?_
            refine stage_seg _ 4 [0, 1, 2, 3, 4, 5, 6, 7, 8, 9, 11, 12, 13, 14, 15] (by kernel_rfl) (by kernel_rfl) (by kernel_rfl) (by kernel_rfl) ?_
            (simp only [List.map_cons, List.map_nil, List.getElem?_cons_zero, List.getElem?_cons_succ, Option.getD_some]); (repeat (go_big_quiet_step (fail))); (refine wpQuiet_nil ?_)
            clear hX zg p0 p1 hbb d0 d1
            refine stage_call _ 3 10 (by kernel_rfl) (by rfl) (by kernel_rfl) (by rfl) ?_
            go_wp2_with fail
            refine CF5.mono ?_
            clear CF5
            rintro e w6 ⟨A6, g6, c6, rfl, -, ho6, hb⟩
            refine ⟨hb, ?_⟩
            have L6 := Lib.hid (L5.out.drew.call hb)
            have P6 := Lib.hid ((show Ownb wr.drew (some ⟨g2, 0, none⟩) g2 st from P5.out).below hb)
            have R6 := Lib.hid ho6
            clear hb ho6 L5 P5
            refine stage_call _ 2 16 (by kernel_rfl) (by rfl) (by kernel_rfl) (by rfl) ?_
            go_wp2_with fail
            refine (CI _ _ _ R6.out.sli).mono ?_
            clear CI
            rintro e w7 ⟨rfl, hb⟩
            refine ⟨hb, ?_⟩
            have L7 := Lib.hid (L6.out.call hb)
            have P7 := Lib.hid (P6.out.below hb)
            clear hb L6 P6 R6
            refine stage_seg _ 0 [17, 18] (by kernel_rfl) (by kernel_rfl) (by kernel_rfl) (by kernel_rfl) ?_
            (simp only [List.map_cons, List.map_nil, List.getElem?_cons_zero, List.getElem?_cons_succ, Option.getD_some]); (repeat (go_big_quiet_step (fail))); (refine wpQuiet_nil ?_)
            refine stage_end (by kernel_rfl) ?_
            obtain ⟨zg, p0, p1, -, -⟩ := L7.out.1.two
            have hw1 : IntKind.i64.wrap ((j : Int) + 1) = (j : Int) + 1 := IntWalk.i64_in _ (by omega)
            have hX := fun (x : Ext w7.drew) (bb o : Nat) (h : bb < w7.heap.size) => (show x.w.cell? ⟨bb, o, none⟩ = w7.cell? ⟨bb, o, none⟩ from x.cell bb o h)
            go_upto_region 14 with fail
            refine wp_region_staged 13 (by kernel_rfl) (by kernel_rfl) ?_
            refine stage_seg _ 6 [0, 1, 2, 3, 4, 5, 6] (by kernel_rfl) (by kernel_rfl) (by kernel_rfl) (by kernel_rfl) ?_
            (simp only [List.map_cons, List.map_nil, List.getElem?_cons_zero, List.getElem?_cons_succ, Option.getD_some]); (repeat (go_big_quiet_step (fail))); (refine wpQuiet_nil ?_)
            clear hX zg p0 p1
            refine stage_call _ 5 7 (by kernel_rfl) (by rfl) (by kernel_rfl) (by rfl) ?_
            go_wp2_with fail
            refine (CE w7.drew L7.out.drew.2.1.sl (HSL.out w7.drew P7.out)).mono ?_
            clear CE
            rintro e w8 ⟨rfl, hb⟩
            refine ⟨hb, ?_⟩
            have L8 := Lib.hid (L7.out.drew.call hb)
            have P8 := Lib.hid ((show Ownb w7.drew (some ⟨g2, 0, none⟩) g2 st from P7.out).below hb)
            clear hb L7 P7
            refine stage_seg _ 0 [8, 9, 10, 11, 12] (by kernel_rfl) (by kernel_rfl) (by kernel_rfl) (by kernel_rfl) ?_
            (simp only [List.map_cons, List.map_nil, List.getElem?_cons_zero, List.getElem?_cons_succ, Option.getD_some]); (repeat (go_big_quiet_step (fail))); (refine wpQuiet_nil ?_)
            refine stage_end (by kernel_rfl) ?_
            go_wp2_with fail
            go_roundw
            case rel => exact ⟨b, j + 1, by omega, rfl, by go_num, HB, L8, P8⟩
            case measure => simp [intOf]; omega
          · have h1' : (lk == 1) = false := by simpa using h1
            clear h1 HB3
            go_upto_region 12 with fail
            refine wp_region_staged 19 (by kernel_rfl) (by kernel_rfl) ?_
            refine stage_seg _ 4 [0, 1, 2, 3, 4, 5, 6, 7, 8, 9, 11, 12, 13, 14, 15] (by kernel_rfl) (by kernel_rfl) (by kernel_rfl) (by kernel_rfl) ?_
            (simp only [List.map_cons, List.map_nil, List.getElem?_cons_zero, List.getElem?_cons_succ, Option.getD_some]); (repeat (go_big_quiet_step (fail))); (refine wpQuiet_nil ?_)
            refine stage_skip _ 3 10 (by kernel_rfl) (by rfl) (by kernel_rfl) (by rfl) ?_
            go_simp
            refine stage_skip _ 2 16 (by kernel_rfl) (by rfl) (by kernel_rfl) (by rfl) ?_
            go_simp
            refine stage_seg _ 0 [17, 18] (by kernel_rfl) (by kernel_rfl) (by kernel_rfl) (by kernel_rfl) ?_
            (simp only [List.map_cons, List.map_nil, List.getElem?_cons_zero, List.getElem?_cons_succ, Option.getD_some]); (repeat (go_big_quiet_step (fail))); (refine wpQuiet_nil ?_)
            refine stage_end (by kernel_rfl) ?_
            clear hX zg p0 p1 hbb d0 d1
            have L7 := Lib.hid L5.out.drew
            have P7 := Lib.hid (show Ownb wr.drew (some ⟨g2, 0, none⟩) g2 st from P5.out)
            clear L5 P5
            generalize wr.drew = w7 at *
            obtain ⟨zg, p0, p1, -, -⟩ := L7.out.1.two
            have hw1 : IntKind.i64.wrap ((j : Int) + 1) = (j : Int) + 1 := IntWalk.i64_in _ (by omega)
            have hX := fun (x : Ext w7.drew) (bb o : Nat) (h : bb < w7.heap.size) => (show x.w.cell? ⟨bb, o, none⟩ = w7.cell? ⟨bb, o, none⟩ from x.cell bb o h)
            go_upto_region 14 with fail
            refine wp_region_staged 13 (by kernel_rfl) (by kernel_rfl) ?_
            refine stage_seg _ 6 [0, 1, 2, 3, 4, 5, 6] (by kernel_rfl) (by kernel_rfl) (by kernel_rfl) (by kernel_rfl) ?_
            (simp only [List.map_cons, List.map_nil, List.getElem?_cons_zero, List.getElem?_cons_succ, Option.getD_some]); (repeat (go_big_quiet_step (fail))); (refine wpQuiet_nil ?_)
            clear hX zg p0 p1
            refine stage_call _ 5 7 (by kernel_rfl) (by rfl) (by kernel_rfl) (by rfl) ?_
            go_wp2_with fail
            refine (CE w7.drew L7.out.drew.2.1.sl (HSL.out w7.drew P7.out)).mono ?_
            clear CE
            rintro e w8 ⟨rfl, hb⟩
            refine ⟨hb, ?_⟩
            have L8 := Lib.hid (L7.out.drew.call hb)
            have P8 := Lib.hid ((show Ownb w7.drew (some ⟨g2, 0, none⟩) g2 st from P7.out).below hb)
            clear hb L7 P7
            refine stage_seg _ 0 [8, 9, 10, 11, 12] (by kernel_rfl) (by kernel_rfl) (by kernel_rfl) (by kernel_rfl) ?_
            (simp only [List.map_cons, List.map_nil, List.getElem?_cons_zero, List.getElem?_cons_succ, Option.getD_some]); (repeat (go_big_quiet_step (fail))); (refine wpQuiet_nil ?_)
            refine stage_end (by kernel_rfl) ?_
            go_wp2_with fail
            go_roundw
            case rel => exact ⟨b, j + 1, by omega, rfl, by go_num, HB, L8, P8⟩
            case measure => simp [intOf]; omega
        · obtain rfl : j = st.length := by omega
          have haz : a = z := by
            have h1 := HA.out
            rw [List.take_length, HEND.out] at h1
            cases h1
            rfl
          subst haz
          have hge : ¬ ((st.length : Int) < (st.length : Int)) := by omega
          clear HALL HA HEND
          go_wp2_with fail
          go_ret
          exact ⟨ret_bool (by first | rfl | simp), L5.out.2.2⟩
  · go_enter Tryd.func9, Tryd.ntmps9
    go_wp2
    go_ret
    exact ⟨rfl, by (repeat (first | exact Below.refl _ _ | (refine Below.alloc ?_ (by first | exact Nat.le_refl _ | omega | (simp; done) | (simp; omega)) _) | (refine Below.setCell ?_ (by first | exact Nat.le_refl _ | omega | (simp; done) | (simp; omega)) _) | exact Below.drew ‹_›))⟩
end Go.Proofs.YtenlofomkchlaabDoor
