/-
  The walk of FnOrderFar over this seat.
-/
import Derived.Test.YtkcnbgimdiggoaaG7
import Derived.Test.YtkcnbgimdiggoaaB7
import Derived.Test.YtkcnbgimdiggoaaA8
namespace Go.Proofs.Ytkcnbgimdiggoaa
open Go.RowKit Go.Maps

set_option maxRecDepth 100000 in
set_option maxHeartbeats 1600000 in
theorem fnOrderFar_walk (A : Option Addr) (len c : Nat) (f : Nat → Int) (w : World) (hlc : len ≤ c) (hc : c ≤ maxLen) (hB : Byt w w.heap.size A len f) :
   Calls Try.prog 4 #[.slice A len c] w fun e w' => e = .returned (.bool true) ∧ Below w.heap.size w w' := by
  have HB := Lib.hid hB
  clear hB
  by_cases hl : len ≤ 1048576
  · go_enter Try.func4, Try.ntmps4
    go_wp2_with fail
    refine (drawUO_any A len c f w hlc hc HB.out).mono ?_
    rintro e w1 ⟨n, ls, A1, g1, c1, x, y, rfl, ⟨hn0, hn1, hls, hg1, ho1, hb1⟩, hx0, hx1, hy0, hy1, hcap⟩
    have L1 := Lib.hid (show LB w w1.heap.size n ls A1 g1 c1 (w1.alloc (.cells #[.int .i64 n, .slice A1 ls.length c1] 25)) from ⟨Box.new w1 _ _, ho1.alloc _, hb1.alloc hb1.size _⟩)
    clear ho1 hb1 HB
    generalize hG : w1.heap.size = G at *
    go_wp2_with fail
    refine (updOrder_impl n A1 ls c1 x y _ (by omega) L1.out.2.1.sl).mono ?_
    rintro e w2 ⟨A2, g2, c2, rfl, hg2, ho2, hb2, hlc2⟩
    have L2 := Lib.hid (L1.out.call hb2)
    have P2 := Lib.hid ho2
    clear hb2 L1 hG ho2
    obtain ⟨z2, c20, c21, -, -⟩ := L2.out.1.two
    go_wp2_with fail
    refine (updOrder_spec n A1 ls c1 x y w2 (by omega) (by omega) L2.out.2.1.sl).mono ?_
    rintro e w3 ⟨A3, g3, c3, rfl, hg3, ho3, hb3⟩
    have L3 := Lib.hid (L2.out.call hb3)
    have P3 := Lib.hid (P2.out.below hb3)
    have Q3 := Lib.hid ho3
    clear hb3 L2 z2 c20 c21 P2 ho3
    obtain ⟨z3, c30, c31, -, -⟩ := L3.out.1.two
    have hrs : (ordA n ls x y).length ≤ 8 := ordA_len8 n ls x y
    have HF := Lib.hid (far_law n ls x y)
    generalize ordA n ls x y = xs at *
    go_wp2_with fail
    refine (sameInts_same A2 A3 xs c2 c3 w3 (by omega) P3.out.sli Q3.out.sli).mono ?_
    rintro e w4 ⟨rfl, hb4⟩
    have L4 := Lib.hid (L3.out.call hb4)
    have P4 := Lib.hid (P3.out.below hb4)
    have Q4 := Lib.hid (Q3.out.below hb4)
    clear hb4 L3 P3 Q3 z3 c30 c31 hg2 hg3
    obtain ⟨z4, c40, c41, -, -⟩ := L4.out.1.two
    have HF : Hid (1 < xs.length → _) := Lib.hid fun h => HF.out (by intro e; rw [e] at h; simp at h)
    go_wp2_with fail
    go_loopw [8] (fun i wr => ∃ k : Nat, 1 ≤ k ∧ (k ≤ xs.length ∨ k = 1) ∧ i = .int .i64 (k : Int) ∧ Hid (LB w G n ls A1 g1 c1 wr) ∧ Hid (Own1i wr A2 g2 xs)) (fun i _ => xs.length - (intOf i).toNat)
    case atStart => exact ⟨1, Nat.le_refl _, .inr rfl, rfl, L4, P4⟩
    case round =>
      obtain ⟨k, hk1, hk, rfl, L5, P5⟩ := hrel
      clear L4 P4 Q4 z4 c40 c41
      by_cases hlt : k < xs.length
      · obtain ⟨m, tn, rfl, rfl, hg, htn, hin, hord⟩ := HF.out (by omega)
        obtain ⟨p, hp1⟩ : ∃ p : Nat, k = p + 1 := ⟨k - 1, by omega⟩
        have hsub : (k : Int) - 1 = (p : Int) := by omega
        have hpl : p < xs.length := by omega
        have hwp : IntKind.i64.wrap (p : Int) = (p : Int) := IntWalk.i64_in _ (by omega)
        obtain ⟨a, ha⟩ : ∃ a, xs[p]? = some a := ⟨_, List.getElem?_eq_getElem hpl⟩
        obtain ⟨b, hb⟩ : ∃ b, xs[k]? = some b := ⟨_, List.getElem?_eq_getElem hlt⟩
        have CA := fun W (h : Sl W W.heap.size A1 ls) => dist_any m A1 ls c1 a tn W (by omega) hg (hin a (List.mem_of_getElem? ha)) htn h
        have CB := fun W (h : Sl W W.heap.size A1 ls) => dist_any m A1 ls c1 b tn W (by omega) hg (hin b (List.mem_of_getElem? hb)) htn h
        have HO := hord p a b ha (by rw [← hp1]; exact hb)
        have HA := Lib.hid ha
        have HB := Lib.hid hb
        have HP1 := Lib.hid hp1
        obtain ⟨rfl, zx, hca⟩ := P5.out.at ha
        obtain ⟨z5, c50, c51, -, -⟩ := L5.out.1.two
        generalize bf (m : Int) ls a (tn : Int) = da at *
        generalize bf (m : Int) ls b (tn : Int) = db at *
        clear ha hb hin hord hg htn hp1 HF
        have hX := fun (x : Ext wr.drew) (bb o : Nat) (h : bb < wr.heap.size) => (show x.w.cell? ⟨bb, o, none⟩ = wr.cell? ⟨bb, o, none⟩ from x.cell bb o h)
        go_upto_region 11 with fail
        refine wp_region_staged 9 (by kernel_rfl) (by kernel_rfl) ?_
        refine stage_seg _ 2 [0, 1, 2, 3, 4, 5, 6] (by kernel_rfl) (by kernel_rfl) (by kernel_rfl) (by kernel_rfl) ?_
        (simp only [List.map_cons, List.map_nil, List.getElem?_cons_zero, List.getElem?_cons_succ, Option.getD_some]); (repeat (go_big_quiet_step (fail))); (refine wpQuiet_nil ?_)
        have LD := Lib.hid L5.out.drew
        have PD := Lib.hid (show Own1i wr.drew (some ⟨g2, 0, none⟩) g2 xs from P5.out)
        clear hX zx hca z5 c50 c51 L5 P5
        refine stage_call _ 1 7 (by kernel_rfl) (by rfl) (by kernel_rfl) (by rfl) ?_
        go_wp2_with fail
        refine (CA wr.drew LD.out.2.1.sl).mono ?_
        clear CA
        rintro e w6 ⟨rfl, hb⟩
        refine ⟨hb, ?_⟩
        have L6 := Lib.hid (LD.out.call hb)
        have P6 := Lib.hid (PD.out.below hb)
        clear hb LD PD
        refine stage_seg _ 0 [8] (by kernel_rfl) (by kernel_rfl) (by kernel_rfl) (by kernel_rfl) ?_
        (simp only [List.map_cons, List.map_nil, List.getElem?_cons_zero, List.getElem?_cons_succ, Option.getD_some]); (repeat (go_big_quiet_step (fail))); (refine wpQuiet_nil ?_)
        refine stage_end (by kernel_rfl) ?_
        obtain ⟨-, zx, hcb⟩ := P6.out.at HB.out
        obtain ⟨z6, c60, c61, -, -⟩ := L6.out.1.two
        have hX := fun (x : Ext w6.drew) (bb o : Nat) (h : bb < w6.heap.size) => (show x.w.cell? ⟨bb, o, none⟩ = w6.cell? ⟨bb, o, none⟩ from x.cell bb o h)
        go_upto_region 12 with fail
        refine wp_region_staged 8 (by kernel_rfl) (by kernel_rfl) ?_
        refine stage_seg _ 2 [0, 1, 2, 3, 4, 5] (by kernel_rfl) (by kernel_rfl) (by kernel_rfl) (by kernel_rfl) ?_
        (simp only [List.map_cons, List.map_nil, List.getElem?_cons_zero, List.getElem?_cons_succ, Option.getD_some]); (repeat (go_big_quiet_step (fail))); (refine wpQuiet_nil ?_)
        have LD := Lib.hid L6.out.drew
        have PD := Lib.hid (show Own1i w6.drew (some ⟨g2, 0, none⟩) g2 xs from P6.out)
        clear hX zx hcb z6 c60 c61 L6 P6
        refine stage_call _ 1 6 (by kernel_rfl) (by rfl) (by kernel_rfl) (by rfl) ?_
        go_wp2_with fail
        refine (CB w6.drew LD.out.2.1.sl).mono ?_
        clear CB
        rintro e w7 ⟨rfl, hb⟩
        refine ⟨hb, ?_⟩
        have L7 := Lib.hid (LD.out.call hb)
        have P7 := Lib.hid (PD.out.below hb)
        clear hb LD PD
        refine stage_seg _ 0 [7] (by kernel_rfl) (by kernel_rfl) (by kernel_rfl) (by kernel_rfl) ?_
        (simp only [List.map_cons, List.map_nil, List.getElem?_cons_zero, List.getElem?_cons_succ, Option.getD_some]); (repeat (go_big_quiet_step (fail))); (refine wpQuiet_nil ?_)
        refine stage_end (by kernel_rfl) ?_
        obtain ⟨-, zx, hca⟩ := P7.out.at HA.out
        obtain ⟨-, -, hcb⟩ := P7.out.at HB.out
        have hn1 : ¬ da < db := by omega
        by_cases he : da = db
        · have hn2 : ¬ b ≤ a := by omega
          clear HO
          subst he
          have hX := fun (x : Ext w7.drew) (bb o : Nat) (h : bb < w7.heap.size) => (show x.w.cell? ⟨bb, o, none⟩ = w7.cell? ⟨bb, o, none⟩ from x.cell bb o h)
          go_upto_region 13 with fail
          refine wp_region_staged 20 (by kernel_rfl) (by kernel_rfl) ?_
          refine stage_seg _ 0 [0, 1, 2, 3, 4, 5, 6, 7, 8, 9, 10, 11, 12, 13, 14, 15, 16, 17, 18, 19] (by kernel_rfl) (by kernel_rfl) (by kernel_rfl) (by kernel_rfl) ?_
          (simp only [List.map_cons, List.map_nil, List.getElem?_cons_zero, List.getElem?_cons_succ, Option.getD_some]); (repeat (go_big_quiet_step (fail))); (refine wpQuiet_nil ?_)
          refine stage_end (by kernel_rfl) ?_
          have L8 := Lib.hid L7.out.drew
          have P8 := Lib.hid (show Own1i w7.drew (some ⟨g2, 0, none⟩) g2 xs from P7.out)
          clear hX zx hca hcb L7 P7
          go_wp2_with fail
          go_roundw
          case rel => exact ⟨k + 1, by omega, by omega, by go_num, L8, P8⟩
          case measure => simp [intOf]; omega
        · have he' : (da == db) = false := by simpa using he
          clear HO
          have hX := fun (x : Ext w7.drew) (bb o : Nat) (h : bb < w7.heap.size) => (show x.w.cell? ⟨bb, o, none⟩ = w7.cell? ⟨bb, o, none⟩ from x.cell bb o h)
          go_upto_region 13 with fail
          refine wp_region_staged 20 (by kernel_rfl) (by kernel_rfl) ?_
          refine stage_seg _ 0 [0, 1, 2, 3, 4, 5, 6, 7, 8, 9, 10, 11, 12, 13, 14, 15, 16, 17, 18, 19] (by kernel_rfl) (by kernel_rfl) (by kernel_rfl) (by kernel_rfl) ?_
          (simp only [List.map_cons, List.map_nil, List.getElem?_cons_zero, List.getElem?_cons_succ, Option.getD_some]); (repeat (go_big_quiet_step (fail))); (refine wpQuiet_nil ?_)
          refine stage_end (by kernel_rfl) ?_
          have L8 := Lib.hid L7.out.drew
          have P8 := Lib.hid (show Own1i w7.drew (some ⟨g2, 0, none⟩) g2 xs from P7.out)
          clear hX zx hca hcb L7 P7
          go_wp2_with fail
          go_roundw
          case rel => exact ⟨k + 1, by omega, by omega, by go_num, L8, P8⟩
          case measure => simp [intOf]; omega
      · have hge : ¬ (k : Int) < (xs.length : Int) := by omega
        go_wp2_with fail
        go_ret
        exact ⟨rfl, L5.out.2.2⟩
  · go_enter Try.func4, Try.ntmps4
    go_wp2
    go_ret
    exact ⟨rfl, by (repeat (first | exact Below.refl _ _ | (refine Below.alloc ?_ (by first | exact Nat.le_refl _ | omega | (simp; done) | (simp; omega)) _) | (refine Below.setCell ?_ (by first | exact Nat.le_refl _ | omega | (simp; done) | (simp; omega)) _) | exact Below.drew ‹_›))⟩
end Go.Proofs.Ytkcnbgimdiggoaa
