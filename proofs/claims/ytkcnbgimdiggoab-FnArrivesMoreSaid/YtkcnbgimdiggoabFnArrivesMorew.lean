/-
  The walk of FnArrivesMore over this seat.
-/
import Derived.Test.YtkcnbgimdiggoabG7
import Derived.Test.YtkcnbgimdiggoabA8
namespace Go.Proofs.Ytkcnbgimdiggoab
open Go.RowKit Go.Maps

set_option maxRecDepth 100000 in
set_option maxHeartbeats 1600000 in
theorem fnArrivesMore_walk (A : Option Addr) (len c : Nat) (Am : Option Addr) (len' c' : Nat) (f f' : Nat → Int) (w : World) (hlc : len ≤ c) (hc : c ≤ maxLen) (hB : Byt w w.heap.size A len f) (_hlc' : len' ≤ c') (_hc' : c' ≤ maxLen) (_hB' : Byt w w.heap.size Am len' f') :
   Calls Try.prog 8 #[.slice A len c, .slice Am len' c'] w fun e w' => e = .returned (.bool true) ∧ Below w.heap.size w w' := by
  have HB := Lib.hid hB
  clear hB _hB'
  by_cases hl : len ≤ 1048576 ∧ len' ≤ 1048576
  · obtain ⟨hl, hl'⟩ := hl
    go_enter Try.func8, Try.ntmps8
    go_wp2_with fail
    refine (drawUO_any A len c f w hlc hc HB.out).mono ?_
    rintro e w1 ⟨n, ls, A1, g1, c1, x, y, rfl, ⟨hn0, hn1, hls, hg1, ho1, hb1⟩, hx0, hx1, hy0, hy1, hcap⟩
    have L1 := Lib.hid (show LB w w1.heap.size n ls A1 g1 c1 (w1.alloc (.cells #[.int .i64 n, .slice A1 ls.length c1] 25)) from ⟨Box.new w1 _ _, ho1.alloc _, hb1.alloc hb1.size _⟩)
    clear ho1 hb1 HB
    generalize hG : w1.heap.size = G at *
    go_wp2_with fail
    refine (updOrder_impl n A1 ls c1 x y _ (by omega) L1.out.2.1.sl).mono ?_
    rintro e w2 ⟨A2, g2, c2, rfl, hg2, ho2, hb2, hlc2⟩
    have L2 := Lib.hid (L1.out.call hb2)
    have P2 := Lib.hid ho2
    clear hb2 L1 hG ho2
    obtain ⟨z2, c20, c21, -, -⟩ := L2.out.1.two
    go_wp2_with fail
    refine (updOrder_spec n A1 ls c1 x y w2 (by omega) (by omega) L2.out.2.1.sl).mono ?_
    rintro e w3 ⟨A3, g3, c3, rfl, hg3, ho3, hb3⟩
    have L3 := Lib.hid (L2.out.call hb3)
    have P3 := Lib.hid (P2.out.below hb3)
    have Q3 := Lib.hid ho3
    clear hb3 L2 z2 c20 c21 P2 ho3
    obtain ⟨z3, c30, c31, -, -⟩ := L3.out.1.two
    have hrs : (ordA n ls x y).length ≤ 8 := ordA_len8 n ls x y
    have HF := Lib.hid (fun (_ : ordA n ls x y ≠ []) => arrmore_law n ls x y)
    have HL8 := Lib.hid (arrA_len8 n ls x y)
    generalize ordA n ls x y = xs at *
    go_wp2_with fail
    refine (sameInts_same A2 A3 xs c2 c3 w3 (by omega) P3.out.sli Q3.out.sli).mono ?_
    rintro e w4 ⟨rfl, hb4⟩
    have L4 := Lib.hid (L3.out.call hb4)
    have P4 := Lib.hid (P3.out.below hb4)
    have Q4 := Lib.hid (Q3.out.below hb4)
    clear hb4 L3 P3 Q3 z3 c30 c31 hg2 hg3
    obtain ⟨z4, c40, c41, -, -⟩ := L4.out.1.two
    by_cases hz : xs.length = 0
    · have hz' : ((xs.length : Int) == 0) = true := by simp [hz]
      clear HF hz
      go_wp2_with fail
      refine (sameInts_same A2 A3 xs c2 c3 w4 (by omega) P4.out.sli Q4.out.sli).mono ?_
      rintro e w5 ⟨rfl, hb5⟩
      have L5 := Lib.hid (L4.out.call hb5)
      go_wp2_with fail
      go_ret
      exact ⟨rfl, L5.out.2.2⟩
    · have hz' : ((xs.length : Int) == 0) = false := by simpa using hz
      have hxs : 0 < xs.length := by omega
      have HF := Lib.hid (HF.out (by intro e; rw [e] at hz; exact hz rfl))
      clear hz Q4
      have hm := Nat.mod_lt len' hxs
      have hq : Int.tmod (len' : Int) (xs.length : Int) = ((len' % xs.length : Nat) : Int) := by rw [Int.tmod_eq_emod_of_nonneg (by omega)]; omega
      generalize len' % xs.length = m at *
      have hw1 : IntKind.i64.wrap ((m : Int) + 1) = (m : Int) + 1 := IntWalk.i64_in _ (by omega)
      have hkc : m ≤ c2 := by omega
      have hkc1 : m + 1 ≤ c2 := by omega
      have hkl : (xs.take m).length = m := by simp; omega
      have hkl1 : (xs.take (m + 1)).length = m + 1 := by simp; omega
      have CA : ∀ W : World, (0 < ls.length → ∃ g, A1 = some ⟨g, 0, none⟩) → Sl W W.heap.size A1 ls → Own1i W A2 g2 xs → Calls Try.prog 22 #[gval n A1 ls.length c1, .int .i64 x, .int .i64 y, .slice A2 m c2] W (NewI (arrA n ls x y (xs.take m)) W) := fun W hA h hP => by
        have := mixArr_impl n A1 ls c1 x y A2 (xs.take m) c2 W (by omega) hA (by omega) h (hP.takeU m).sli
        rw [hkl] at this
        exact this
      have CB : ∀ W : World, (0 < ls.length → ∃ g, A1 = some ⟨g, 0, none⟩) → Sl W W.heap.size A1 ls → Own1i W A2 g2 xs → Calls Try.prog 22 #[gval n A1 ls.length c1, .int .i64 x, .int .i64 y, .slice A2 (m + 1) c2] W (NewI (arrA n ls x y (xs.take (m + 1))) W) := fun W hA h hP => by
        have := mixArr_impl n A1 ls c1 x y A2 (xs.take (m + 1)) c2 W (by omega) hA (by omega) h (hP.takeU (m + 1)).sli
        rw [hkl1] at this
        exact this
      have HALL := Lib.hid (HF.out m (by omega))
      have has8 := HL8.out (xs.take m)
      have hbs8 := HL8.out (xs.take (m + 1))
      clear HF HL8 hkl hkl1
      generalize arrA n ls x y (xs.take m) = az at *
      generalize arrA n ls x y (xs.take (m + 1)) = bs at *
      have hX := fun (x : Ext w4.drew) (bb o : Nat) (h : bb < w4.heap.size) => (show x.w.cell? ⟨bb, o, none⟩ = w4.cell? ⟨bb, o, none⟩ from x.cell bb o h)
      go_wp2_with fail
      go_upto_region 9 with fail
      refine wp_region_staged 8 (by kernel_rfl) (by kernel_rfl) ?_
      refine stage_seg _ 2 [0, 1, 2, 3, 4, 5] (by kernel_rfl) (by kernel_rfl) (by kernel_rfl) (by kernel_rfl) ?_
      (simp only [List.map_cons, List.map_nil, List.getElem?_cons_zero, List.getElem?_cons_succ, Option.getD_some]); (repeat (go_big_quiet_step (fail))); (refine wpQuiet_nil ?_)
      have LD := Lib.hid L4.out.drew
      have PD := Lib.hid (show Own1i w4.drew A2 g2 xs from P4.out)
      clear hX z4 c40 c41 L4 P4
      refine stage_call _ 1 6 (by kernel_rfl) (by rfl) (by kernel_rfl) (by rfl) ?_
      go_wp2_with fail
      refine (CA w4.drew LD.out.2.1.isV LD.out.2.1.sl PD.out).mono ?_
      clear CA
      rintro e w5 ⟨A5, g5, c5, rfl, -, ho5, hb⟩
      refine ⟨hb, ?_⟩
      have L5 := Lib.hid (LD.out.call hb)
      have P5 := Lib.hid (PD.out.below hb)
      have R5 := Lib.hid ho5
      clear hb LD PD ho5
      refine stage_seg _ 0 [7] (by kernel_rfl) (by kernel_rfl) (by kernel_rfl) (by kernel_rfl) ?_
      (simp only [List.map_cons, List.map_nil, List.getElem?_cons_zero, List.getElem?_cons_succ, Option.getD_some]); (repeat (go_big_quiet_step (fail))); (refine wpQuiet_nil ?_)
      refine stage_end (by kernel_rfl) ?_
      obtain ⟨z5, c50, c51, -, -⟩ := L5.out.1.two
      have hX := fun (x : Ext w5.drew) (bb o : Nat) (h : bb < w5.heap.size) => (show x.w.cell? ⟨bb, o, none⟩ = w5.cell? ⟨bb, o, none⟩ from x.cell bb o h)
      go_wp2_with fail
      go_upto_region 10 with fail
      refine wp_region_staged 9 (by kernel_rfl) (by kernel_rfl) ?_
      refine stage_seg _ 2 [0, 1, 2, 3, 4, 5, 6] (by kernel_rfl) (by kernel_rfl) (by kernel_rfl) (by kernel_rfl) ?_
      (simp only [List.map_cons, List.map_nil, List.getElem?_cons_zero, List.getElem?_cons_succ, Option.getD_some]); (repeat (go_big_quiet_step (fail))); (refine wpQuiet_nil ?_)
      have LD := Lib.hid L5.out.drew
      have PD := Lib.hid (show Own1i w5.drew A2 g2 xs from P5.out)
      have RD := Lib.hid (show Own1i w5.drew A5 g5 az from R5.out)
      clear hX z5 c50 c51 L5 P5 R5
      refine stage_call _ 1 7 (by kernel_rfl) (by rfl) (by kernel_rfl) (by rfl) ?_
      go_wp2_with fail
      refine (CB w5.drew LD.out.2.1.isV LD.out.2.1.sl PD.out).mono ?_
      clear CB
      rintro e w6 ⟨A6, g6, c6, rfl, -, ho6, hb⟩
      refine ⟨hb, ?_⟩
      have L6 := Lib.hid (LD.out.call hb)
      have R6 := Lib.hid (RD.out.below hb)
      have S6 := Lib.hid ho6
      clear hb LD PD RD ho6
      refine stage_seg _ 0 [8] (by kernel_rfl) (by kernel_rfl) (by kernel_rfl) (by kernel_rfl) ?_
      (simp only [List.map_cons, List.map_nil, List.getElem?_cons_zero, List.getElem?_cons_succ, Option.getD_some]); (repeat (go_big_quiet_step (fail))); (refine wpQuiet_nil ?_)
      refine stage_end (by kernel_rfl) ?_
      clear hq hw1 hkc hkc1
      go_wp2_with fail
      go_loopw [13] (fun i wr => ∃ k : Nat, k ≤ az.length ∧ i = .int .i64 (k : Int) ∧ Hid (LB w G n ls A1 g1 c1 wr) ∧ Hid (Own1i wr A5 g5 az) ∧ Hid (Own1i wr A6 g6 bs)) (fun i _ => az.length - (intOf i).toNat)
      case atStart => exact ⟨0, Nat.zero_le _, rfl, L6, R6, S6⟩
      case round =>
        obtain ⟨k, hk, rfl, L7, R7, S7⟩ := hrel
        clear L6 R6 S6
        by_cases hlt : k < az.length
        · obtain ⟨v, hv⟩ : ∃ v, az[k]? = some v := ⟨_, List.getElem?_eq_getElem hlt⟩
          have C1 := fun W (h : Sli W W.heap.size A6 bs) => hasInt_any A6 bs c6 v W (by omega) h
          rw [HALL.out v (List.mem_of_getElem? hv)] at C1
          obtain ⟨rfl, zx, hxc⟩ := R7.out.at hv
          clear HALL
          go_wp2_with fail
          refine (C1 _ S7.out.sli).mono ?_
          rintro e w8 ⟨rfl, hb⟩
          have L8 := Lib.hid (L7.out.call hb)
          have R8 := Lib.hid (R7.out.below hb)
          have S8 := Lib.hid (S7.out.below hb)
          clear hb L7 R7 S7 
          go_wp2_with fail
          go_roundw
          case rel => exact ⟨k + 1, by omega, by go_num, L8, R8, S8⟩
          case measure => simp [intOf]; omega
        · go_wp2_with fail
          go_ret
          exact ⟨rfl, L7.out.2.2⟩
  · by_cases hl1 : len ≤ 1048576
    · have hl2 : 1048576 < len' := by omega
      clear hl
      go_enter Try.func8, Try.ntmps8
      go_wp2
      go_ret
      exact ⟨rfl, by (repeat (first | exact Below.refl _ _ | (refine Below.alloc ?_ (by first | exact Nat.le_refl _ | omega | (simp; done) | (simp; omega)) _) | (refine Below.setCell ?_ (by first | exact Nat.le_refl _ | omega | (simp; done) | (simp; omega)) _) | exact Below.drew ‹_›))⟩
    · clear hl
      go_enter Try.func8, Try.ntmps8
      go_wp2
      go_ret
      exact ⟨rfl, by (repeat (first | exact Below.refl _ _ | (refine Below.alloc ?_ (by first | exact Nat.le_refl _ | omega | (simp; done) | (simp; omega)) _) | (refine Below.setCell ?_ (by first | exact Nat.le_refl _ | omega | (simp; done) | (simp; omega)) _) | exact Below.drew ‹_›))⟩
end Go.Proofs.Ytkcnbgimdiggoab
