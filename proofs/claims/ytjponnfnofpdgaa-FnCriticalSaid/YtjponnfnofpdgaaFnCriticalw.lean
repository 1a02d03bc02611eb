/-
  The walk of FnCritical over this seat.
-/
import Derived.Test.YtjponnfnofpdgaaCq
import Derived.Test.YtjponnfnofpdgaaDrawW
import Derived.Test.YtjponnfnofpdgaaWs
import Derived.Test.YtjponnfnofpdgaaB7
namespace Go.Proofs.Ytjponnfnofpdgaa
open Go.RowKit

set_option maxRecDepth 100000 in
set_option maxHeartbeats 1600000 in
theorem critical_walk (A : Option Addr) (len c : Nat) (f : Nat → Int) (w : World) (hlc : len ≤ c) (hc : c ≤ maxLen) (hB : Byt w w.heap.size A len f) :
   Calls Try.prog 4 #[.slice A len c] w fun e w' => e = .returned (.bool true) ∧ Below w.heap.size w w' := by
  have HB := Lib.hid hB
  clear hB
  by_cases hl : len ≤ 1048576
  · go_enter Try.func4, Try.ntmps4
    go_wp2_with fail
    refine (drawCrit_any A len c f w hlc hc HB.out).mono ?_
    rintro e w1 ⟨n, ls, A1, g1, c1, rfl, ⟨hn0, hn1, hls, hg1, ho1, hb1⟩, hcap⟩
    have L1 := Lib.hid (show LB w w1.heap.size n ls A1 g1 c1 (w1.alloc (.cells #[.int .i64 n, .slice A1 ls.length c1] 30)) from ⟨Box.new w1 _ _, ho1.alloc _, hb1.alloc hb1.size _⟩)
    have HCAP := Lib.hid hcap
    clear ho1 hb1 HB hcap
    generalize hG : w1.heap.size = G at *
    go_wp2_with fail
    refine (crit_impl n A1 ls c1 _ (by omega) L1.out.2.1.isA2 L1.out.2.1.sl).mono ?_
    rintro e w2 ⟨A2, g2, c2, rfl, hg2, ho2, hb2⟩
    have L2 := Lib.hid (L1.out.call hb2)
    have P2 := Lib.hid ho2
    clear hb2 L1 hG ho2
    obtain ⟨z2, c20, c21, -, -⟩ := L2.out.1.two
    go_wp2_with fail
    refine (crit_spec n A1 ls c1 w2 (by omega) L2.out.2.1.isA2 HCAP.out (by omega) L2.out.2.1.sl).mono ?_
    rintro e w3 ⟨A3, g3, c3, rfl, hg3, ho3, hb3⟩
    have L3 := Lib.hid (L2.out.call hb3)
    have P3 := Lib.hid (P2.out.below hb3)
    have Q3 := Lib.hid ho3
    clear hb3 L2 z2 c20 c21 P2 ho3
    obtain ⟨z3, c30, c31, -, -⟩ := L3.out.1.two
    clear HCAP
    have hrs : (critL n ls).length ≤ 14 := critL_len n ls
    have HF : Hid (gvB n ls = true → (critL n ls).Pairwise (· < ·) ∧ ∀ (k : Nat) (l : Lk), ls[k]? = some l → decide ((k : Int) ∈ critL n ls) = decide (((reachL n (ls.eraseIdx k) l.a).length : Int) < ((reachL n ls l.a).length : Int))) := Lib.hid (fun hv => by
      obtain ⟨m, rfl⟩ : ∃ m : Nat, n = (m : Int) := ⟨n.toNat, by omega⟩
      refine ⟨critL_asc _ _, fun k l hl => ?_⟩
      rw [Bool.eq_iff_iff, decide_eq_true_eq, decide_eq_true_eq, critL_at hv hl, crit_reach hv hl]
      omega)
    generalize critL n ls = xs at *
    go_wp2_with fail
    refine (sameInts_same A2 A3 xs c2 c3 w3 (by omega) P3.out.sli Q3.out.sli).mono ?_
    rintro e w4 ⟨rfl, hb4⟩
    have L4 := Lib.hid (L3.out.call hb4)
    have P4 := Lib.hid (P3.out.below hb4)
    have Q4 := Lib.hid (Q3.out.below hb4)
    clear hb4 L3 P3 Q3 z3 c30 c31 hg2 hg3
    obtain ⟨z4, c40, c41, -, -⟩ := L4.out.1.two
    go_wp2_with fail
    refine (valid_spec_any n A1 ls c1 w4 (by omega) (by omega) L4.out.2.1.sl).mono ?_
    rintro e w5 ⟨rfl, hb5⟩
    have L5 := Lib.hid (L4.out.call hb5)
    have P5 := Lib.hid (P4.out.below hb5)
    have Q5 := Lib.hid (Q4.out.below hb5)
    clear hb5 L4 P4 Q4 z4 c40 c41
    obtain ⟨z5, c50, c51, -, -⟩ := L5.out.1.two
    cases hv : gvB n ls with
    | false =>
      clear HF
      go_wp2_with fail
      refine (sameInts_same A2 A3 xs c2 c3 w5 (by omega) P5.out.sli Q5.out.sli).mono ?_
      rintro e wz ⟨rfl, hbz⟩
      have Lz := Lib.hid (L5.out.call hbz)
      go_wp2_with fail
      go_ret
      exact ⟨rfl, Lz.out.2.2⟩
    | true =>
      obtain ⟨hasc, hmem⟩ := HF.out hv
      have HASC := Lib.hid hasc
      have HMEM := Lib.hid hmem
      have HV := Lib.hid hv
      clear HF hv hasc hmem
      go_wp2_with fail
      go_loopw [6] (fun i wr => ∃ k : Nat, k ≤ ls.length ∧ i = .int .i64 k ∧ LB w G n ls A1 g1 c1 wr ∧ Own1i wr A2 g2 xs) (fun i _ => ls.length - (intOf i).toNat)
      case atStart => exact ⟨0, Nat.zero_le _, rfl, L5.out, P5.out⟩
      case round =>
        obtain ⟨k, hk, rfl, hL, hP⟩ := hrel
        have L6 := Lib.hid hL
        have P6 := Lib.hid hP
        clear hL hP L5 P5 Q5 z5 c50 c51
        obtain ⟨z6, c60, c61, -, -⟩ := L6.out.1.two
        by_cases hlt : k < ls.length
        · obtain ⟨l, hl⟩ : ∃ l, ls[k]? = some l := ⟨_, List.getElem?_eq_getElem hlt⟩
          obtain ⟨rfl, -⟩ := L6.out.2.1 (by omega)
          have CW := wo_res n g1 ls c1 k wr (by omega) HV.out hlt L6.out.2.1.sl
          have hel : (ls.eraseIdx k).length ≤ 16 := Nat.le_trans (List.length_eraseIdx_le _ _) hls
          have hmem := HMEM.out k l hl
          have CR1 := fun (A' : Option Addr) (c' : Nat) W (h : Sl W W.heap.size A' (ls.eraseIdx k)) => reach_impl n A' (ls.eraseIdx k) c' l.a W (by omega) h
          have CR2 := fun W (h : Sl W W.heap.size (some ⟨g1, 0, none⟩) ls) => reach_impl n (some ⟨g1, 0, none⟩) ls c1 l.a W (by omega) h
          have CH := fun W (h : Own1i W A2 g2 xs) => hasInt_any A2 xs c2 (k : Int) W (by omega) h.sli
          rw [hmem] at CH
          have h81 := reachL_len n (ls.eraseIdx k) l.a
          have h82 := reachL_len n ls l.a
          generalize reachL n (ls.eraseIdx k) l.a = r1 at *
          generalize reachL n ls l.a = r2 at *
          generalize ls.eraseIdx k = rs at *
          have hbb : (decide ((r1.length : Int) < (r2.length : Int)) != decide ((r1.length : Int) < (r2.length : Int))) = false := by simp
          have HL := Lib.hid hl
          clear hmem hl
          go_wp2_with fail
          refine CW.mono ?_
          clear CW
          rintro e w7 ⟨A7, g7, c7, rfl, hg7, ho7, hb7⟩
          have L7 := Lib.hid (L6.out.call hb7)
          have L8 := Lib.hid (L7.out.alloc (.cells #[.int .i64 n, .slice A7 rs.length c7] 30))
          have P8 := Lib.hid ((P6.out.below hb7).alloc (.cells #[.int .i64 n, .slice A7 rs.length c7] 30))
          have X8 := Lib.hid (show LB w w7.heap.size n rs A7 g7 c7 (w7.alloc (.cells #[.int .i64 n, .slice A7 rs.length c7] 30)) from ⟨Box.new w7 _ _, ho7.alloc _, L8.out.2.2⟩)
          clear hb7 ho7 hg7 L6 P6 L7 z6 c60 c61
          go_upto_region 12 with fail
          generalize w7.alloc (.cells #[.int .i64 n, .slice A7 rs.length c7] 30) = W8 at *
          generalize w7.heap.size = b8 at *
          obtain ⟨z8, c80, c81, -, -⟩ := L8.out.1.two
          obtain ⟨zx, d80, d81, -, -⟩ := X8.out.1.two
          obtain ⟨-, p0, p1, p2⟩ := L8.out.link HL.out
          have zg := (L8.out.2.1 (by omega)).2.lt
          have LD := Lib.hid L8.out.drew
          have PD := Lib.hid P8.out.drew
          have XD := Lib.hid X8.out.drew
          clear p1 p2 L8 P8 X8
          have hX8 := fun (x : Ext W8.drew) (bb o : Nat) (h : bb < W8.heap.size) => (show x.w.cell? ⟨bb, o, none⟩ = W8.cell? ⟨bb, o, none⟩ from x.cell bb o h)
          refine wp_region_staged 23 (by kernel_rfl) (by kernel_rfl) ?_
          refine stage_seg _ 7 [0, 1, 3, 4, 5, 6, 7, 8, 9, 12, 13, 14, 15, 16, 17, 18] (by kernel_rfl) (by kernel_rfl) (by kernel_rfl) (by kernel_rfl) ?_
          (simp only [List.map_cons, List.map_nil, List.getElem?_cons_zero, List.getElem?_cons_succ, Option.getD_some]); (repeat (go_big_quiet_step (fail))); (refine wpQuiet_nil ?_)
          clear hX8 c80 c81 d80 d81 p0 z8 zx zg
          refine stage_call _ 6 2 (by kernel_rfl) (by rfl) (by kernel_rfl) (by rfl) ?_
          go_wp2_with fail
          refine (CH _ PD.out).mono ?_
          clear CH
          rintro e w9 ⟨rfl, hb9⟩
          refine ⟨hb9, ?_⟩
          have L9 := Lib.hid (LD.out.call hb9)
          have P9 := Lib.hid (PD.out.below hb9)
          have X9 := Lib.hid (XD.out.call hb9)
          have C1 := CR1 A7 c7 w9 X9.out.2.1.sl
          clear hb9 LD PD XD CR1
          refine stage_call _ 5 10 (by kernel_rfl) (by rfl) (by kernel_rfl) (by rfl) ?_
          go_wp2_with fail
          refine C1.mono ?_
          clear C1
          rintro e w10 ⟨A10, g10, c10, rfl, hg10, ho10, hb10⟩
          refine ⟨hb10, ?_⟩
          have L10 := Lib.hid (L9.out.call hb10)
          have P10 := Lib.hid (P9.out.below hb10)
          have C2 := CR2 w10 L10.out.2.1.sl
          clear hb10 ho10 hg10 L9 P9 X9 CR2
          refine stage_seg _ 4 [11] (by kernel_rfl) (by kernel_rfl) (by kernel_rfl) (by kernel_rfl) ?_
          (simp only [List.map_cons, List.map_nil, List.getElem?_cons_zero, List.getElem?_cons_succ, Option.getD_some]); (repeat (go_big_quiet_step (fail))); (refine wpQuiet_nil ?_)
          refine stage_call _ 3 19 (by kernel_rfl) (by rfl) (by kernel_rfl) (by rfl) ?_
          go_wp2_with fail
          refine C2.mono ?_
          clear C2
          rintro e w11 ⟨A11, g11, c11, rfl, hg11, ho11, hb11⟩
          refine ⟨hb11, ?_⟩
          have L11 := Lib.hid (L10.out.call hb11)
          have P11 := Lib.hid (P10.out.below hb11)
          clear hb11 ho11 hg11 L10 P10
          refine stage_seg _ 0 [20, 21, 22] (by kernel_rfl) (by kernel_rfl) (by kernel_rfl) (by kernel_rfl) ?_
          (simp only [List.map_cons, List.map_nil, List.getElem?_cons_zero, List.getElem?_cons_succ, Option.getD_some]); (repeat (go_big_quiet_step (fail))); (refine wpQuiet_nil ?_)
          refine stage_end (by kernel_rfl) ?_
          go_wp2_with fail
          go_roundw
          case rel => exact ⟨k + 1, hlt, by go_num, L11.out, P11.out⟩
          case measure => simp [intOf]; omega
        · have hge : ls.length ≤ k := by omega
          have CI := ascending_any A2 xs c2 wr (by omega) P6.out.sli HASC.out
          go_wp2_with fail
          refine CI.mono ?_
          rintro e w8 ⟨rfl, hb8⟩
          have L8 := Lib.hid (L6.out.call hb8)
          go_wp2_with fail
          go_ret
          exact ⟨rfl, L8.out.2.2⟩
  · go_enter Try.func4, Try.ntmps4
    go_wp2
    go_ret
    exact ⟨rfl, by (repeat (first | exact Below.refl _ _ | (refine Below.alloc ?_ (by first | exact Nat.le_refl _ | omega | (simp; done) | (simp; omega)) _) | (refine Below.setCell ?_ (by first | exact Nat.le_refl _ | omega | (simp; done) | (simp; omega)) _) | exact Below.drew ‹_›))⟩
end Go.Proofs.Ytjponnfnofpdgaa
