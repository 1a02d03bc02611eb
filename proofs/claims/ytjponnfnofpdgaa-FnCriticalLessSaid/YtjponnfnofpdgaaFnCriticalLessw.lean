/-
  The walk of FnCriticalLess over this seat.
-/
import Derived.Test.YtjponnfnofpdgaaCq
import Derived.Test.YtjponnfnofpdgaaDrawW
import Derived.Test.YtjponnfnofpdgaaWs
import Derived.Test.YtjponnfnofpdgaaB7
import Derived.Test.YtjponnfnofpdgaaRh
namespace Go.Proofs.Ytjponnfnofpdgaa
open Go.RowKit

set_option maxRecDepth 100000 in
set_option maxHeartbeats 1600000 in
theorem criticalLess_walk (A : Option Addr) (len c : Nat) (Am : Option Addr) (len' c' : Nat) (f f' : Nat → Int) (w : World) (hlc : len ≤ c) (hc : c ≤ maxLen) (hB : Byt w w.heap.size A len f) (_hlc' : len' ≤ c') (_hc' : c' ≤ maxLen) (_hB' : Byt w w.heap.size Am len' f') :
   Calls Try.prog 6 #[.slice A len c, .slice Am len' c'] w fun e w' => e = .returned (.bool true) ∧ Below w.heap.size w w' := by
  have HB := Lib.hid hB
  clear hB _hB'
  by_cases hl : len ≤ 1048576 ∧ len' ≤ 1048576
  · obtain ⟨hl, hl'⟩ := hl
    go_enter Try.func6, Try.ntmps6
    go_wp2_with fail
    refine (drawCrit_any A len c f w hlc hc HB.out).mono ?_
    rintro e w1 ⟨n, ls, A1, g1, c1, rfl, ⟨hn0, hn1, hls, hg1, ho1, hb1⟩, hcap⟩
    have L1 := Lib.hid (show LB w w1.heap.size n ls A1 g1 c1 (w1.alloc (.cells #[.int .i64 n, .slice A1 ls.length c1] 30)) from ⟨Box.new w1 _ _, ho1.alloc _, hb1.alloc hb1.size _⟩)
    have HCAP := Lib.hid hcap
    clear ho1 hb1 HB hcap
    generalize hG : w1.heap.size = G at *
    go_wp2_with fail
    refine (crit_impl n A1 ls c1 _ (by omega) L1.out.2.1.isA2 L1.out.2.1.sl).mono ?_
    rintro e w2 ⟨A2, g2, c2, rfl, hg2, ho2, hb2⟩
    have L2 := Lib.hid (L1.out.call hb2)
    have P2 := Lib.hid ho2
    clear hb2 L1 hG ho2
    obtain ⟨z2, c20, c21, -, -⟩ := L2.out.1.two
    go_wp2_with fail
    refine (crit_spec n A1 ls c1 w2 (by omega) L2.out.2.1.isA2 HCAP.out (by omega) L2.out.2.1.sl).mono ?_
    rintro e w3 ⟨A3, g3, c3, rfl, hg3, ho3, hb3⟩
    have L3 := Lib.hid (L2.out.call hb3)
    have P3 := Lib.hid (P2.out.below hb3)
    have Q3 := Lib.hid ho3
    clear hb3 L2 z2 c20 c21 P2 ho3
    obtain ⟨z3, c30, c31, -, -⟩ := L3.out.1.two
    clear HCAP
    have hrs : (critL n ls).length ≤ 14 := critL_len n ls
    have HF : Hid (critL n ls ≠ [] → gvB n ls = true ∧ ∀ x ∈ critL n ls, ∃ (i : Nat) (l : Lk), x = (i : Int) ∧ ls[i]? = some l ∧ ∀ q : Nat, q < ls.length → q ≠ i → linkI n (ls.eraseIdx q) l.a l.b ∈ critL n (ls.eraseIdx q)) := Lib.hid (fun h => by
      obtain ⟨x, hx⟩ : ∃ x, x ∈ critL n ls := List.exists_mem_of_ne_nil _ h
      refine ⟨(critL_mem.1 hx).1, fun x hx => ?_⟩
      obtain ⟨hv, i, l, rfl, hl, hb⟩ := critL_mem.1 hx
      obtain ⟨m, rfl⟩ : ∃ m : Nat, n = (m : Int) := ⟨n.toNat, by omega⟩
      exact ⟨i, l, rfl, hl, fun q hq hqi => crit_stays hv hl hb hqi hq⟩)
    generalize critL n ls = xs at *
    go_wp2_with fail
    refine (sameInts_same A2 A3 xs c2 c3 w3 (by omega) P3.out.sli Q3.out.sli).mono ?_
    rintro e w4 ⟨rfl, hb4⟩
    have L4 := Lib.hid (L3.out.call hb4)
    have P4 := Lib.hid (P3.out.below hb4)
    have Q4 := Lib.hid (Q3.out.below hb4)
    clear hb4 L3 P3 Q3 z3 c30 c31 hg2 hg3
    obtain ⟨z4, c40, c41, -, -⟩ := L4.out.1.two
    by_cases hz : xs.length = 0
    · have hz' : ((xs.length : Int) == 0) = true := by simp [hz]
      clear HF hz
      go_wp2_with fail
      refine (sameInts_same A2 A3 xs c2 c3 w4 (by omega) P4.out.sli Q4.out.sli).mono ?_
      rintro e w5 ⟨rfl, hb5⟩
      have L5 := Lib.hid (L4.out.call hb5)
      go_wp2_with fail
      go_ret
      exact ⟨rfl, L5.out.2.2⟩
    · have hz' : ((xs.length : Int) == 0) = false := by simpa using hz
      have hxs : 0 < xs.length := by omega
      have HF := Lib.hid (HF.out (by intro e; rw [e] at hz; exact hz rfl))
      clear hz Q4
      obtain ⟨hv, hall⟩ := HF.out
      have hlz : 0 < ls.length := by
        obtain ⟨x, hx⟩ : ∃ x, xs[0]? = some x := ⟨_, List.getElem?_eq_getElem hxs⟩
        obtain ⟨i, l, -, hl, -⟩ := hall x (List.mem_of_getElem? hx)
        have := (List.getElem?_eq_some_iff.1 hl).1
        omega
      have HV := Lib.hid hv
      have hq : Int.tmod (len' : Int) (ls.length : Int) = ((len' % ls.length : Nat) : Int) := by rw [Int.tmod_eq_emod_of_nonneg (by omega)]; omega
      have hql : len' % ls.length < ls.length := Nat.mod_lt _ hlz
      have hne : ¬ (ls.length : Int) = 0 := by omega
      generalize len' % ls.length = q at *
      have HALL : Hid (∀ x ∈ xs, ∃ (i : Nat) (l : Lk), x = (i : Int) ∧ ls[i]? = some l ∧ (q ≠ i → linkI n (ls.eraseIdx q) l.a l.b ∈ critL n (ls.eraseIdx q))) := Lib.hid (fun x hx => by
        obtain ⟨i, l, e, hl, h⟩ := hall x hx
        exact ⟨i, l, e, hl, h q hql⟩)
      obtain ⟨rfl, -⟩ := L4.out.2.1 hlz
      have CW := wo_res n g1 ls c1 q w4 (by omega) hv hql L4.out.2.1.sl
      have hel : (ls.eraseIdx q).length ≤ 16 := Nat.le_trans (List.length_eraseIdx_le _ _) hls
      have hzl := critL_len n (ls.eraseIdx q)
      have hls0 : ls ≠ [] := by intro e; rw [e] at hlz; simp at hlz
      clear hv hall HF
      generalize ls.eraseIdx q = rs at *
      have CC := fun (A' : Option Addr) (c' g' : Nat) W (h : Own1 W A' g' rs) => crit_impl n A' rs c' W (by omega) h.isA2 h.sl
      have CLK := fun (A' : Option Addr) (c' : Nat) (a b : Int) W (h : Sl W W.heap.size A' rs) => link_impl n A' rs c' a b W (by omega) h
      generalize critL n rs = zs at *
      go_wp2_with fail
      refine CW.mono ?_
      clear CW
      rintro e w5 ⟨A5, g5, c5, rfl, hg5, ho5, hb5⟩
      have L5 := Lib.hid (L4.out.call hb5)
      have L6 := Lib.hid (L5.out.alloc (.cells #[.int .i64 n, .slice A5 rs.length c5] 30))
      have P6 := Lib.hid ((P4.out.below hb5).alloc (.cells #[.int .i64 n, .slice A5 rs.length c5] 30))
      have X6 := Lib.hid (show LB w w5.heap.size n rs A5 g5 c5 (w5.alloc (.cells #[.int .i64 n, .slice A5 rs.length c5] 30)) from ⟨Box.new w5 _ _, ho5.alloc _, L6.out.2.2⟩)
      clear hb5 ho5 hg5 L4 L5 P4 z4 c40 c41
      have C6 := CC A5 c5 g5 (w5.alloc (.cells #[.int .i64 n, .slice A5 rs.length c5] 30)) X6.out.2.1
      clear CC
      go_wp2_with fail
      refine C6.mono ?_
      clear C6
      rintro e w7 ⟨A7, g7, c7, rfl, hg7, ho7, hb7⟩
      have L7 := Lib.hid (L6.out.call hb7)
      have P7 := Lib.hid (P6.out.below hb7)
      have X7 := Lib.hid (X6.out.call hb7)
      have R7 := Lib.hid ho7
      clear hb7 ho7 hg7 L6 P6 X6
      go_wp2_with fail
      generalize w5.heap.size = bx at *
      go_loopw [12] (fun i wr => ∃ k : Nat, k ≤ xs.length ∧ i = .int .i64 k ∧ LB w G n ls (some ⟨g1, 0, none⟩) g1 c1 wr ∧ Own1i wr A2 g2 xs ∧ LB w bx n rs A5 g5 c5 wr ∧ Own1i wr A7 g7 zs) (fun i _ => xs.length - (intOf i).toNat)
      case atStart => exact ⟨0, Nat.zero_le _, rfl, L7.out, P7.out, X7.out, R7.out⟩
      case round =>
        obtain ⟨k, hk, rfl, hL, hP, hX, hR⟩ := hrel
        have L8 := Lib.hid hL
        have P8 := Lib.hid hP
        have X8 := Lib.hid hX
        have R8 := Lib.hid hR
        clear hL hP hX hR L7 P7 X7 R7
        by_cases hlt : k < xs.length
        · obtain ⟨x, hx⟩ : ∃ x, xs[k]? = some x := ⟨_, List.getElem?_eq_getElem hlt⟩
          obtain ⟨i, l, rfl, hl, hcr⟩ := HALL.out x (List.mem_of_getElem? hx)
          obtain ⟨rfl, zx, hxc⟩ := P8.out.at hx
          obtain ⟨-, p0, p1, p2⟩ := L8.out.link hl
          obtain ⟨z8, c80, c81, -, -⟩ := L8.out.1.two
          have zg := (L8.out.2.1 (by omega)).2.lt
          have hil := (List.getElem?_eq_some_iff.1 hl).1
          have HX := Lib.hid hx
          have HCR := Lib.hid hcr
          obtain ⟨la, lb, lc⟩ := l
          dsimp only at *
          clear hx hl hcr
          go_upto_region 14 with fail
          have hX8 := fun (x : ExtB wr.heap.size wr.drew) (bb o : Nat) (h : bb < wr.heap.size) => (show x.w.cell? ⟨bb, o, none⟩ = wr.cell? ⟨bb, o, none⟩ from x.cell bb o h)
          refine wp_region_stg 10 wr.heap.size (by kernel_rfl) (by kernel_rfl) ?_
          refine stg_seg _ 2 [0, 1, 2, 3, 4, 5, 6, 7] (by kernel_rfl) (by kernel_rfl) (by kernel_rfl) (by kernel_rfl) ?_
          (simp only [List.map_cons, List.map_nil, List.getElem?_cons_zero, List.getElem?_cons_succ, Option.getD_some]); (repeat (go_big_quiet_step (fail))); (refine wpQuiet_nil ?_)
          clear hX8
          refine stg_one _ 1 8 (by kernel_rfl) (by rfl) (by kernel_rfl) (by rfl) ?_
          go_wp2_with fail
          refine ⟨below_ad _ _, wr.heap.size, Nat.le_refl _, ?_⟩
          refine stg_one _ 0 9 (by kernel_rfl) (by rfl) (by kernel_rfl) (by rfl) ?_
          go_wp2_with fail
          refine ⟨below_dd (below_aa _ _ _), wr.heap.size, Nat.le_refl _, ?_⟩
          refine stg_end (by kernel_rfl) ?_
          have L9 := Lib.hid (L8.out.alloc (.cells #[.int .i64 la, .int .i64 lb, .int .i64 lc] 45)).drew
          have P9 := Lib.hid (P8.out.alloc (.cells #[.int .i64 la, .int .i64 lb, .int .i64 lc] 45)).drew
          have X9 := Lib.hid (X8.out.alloc (.cells #[.int .i64 la, .int .i64 lb, .int .i64 lc] 45)).drew
          have R9 := Lib.hid (R8.out.alloc (.cells #[.int .i64 la, .int .i64 lb, .int .i64 lc] 45)).drew
          have K9 := Lib.hid (show Box (wr.alloc (.cells #[.int .i64 la, .int .i64 lb, .int .i64 lc] 45)).drew wr.heap.size 45 #[.int .i64 la, .int .i64 lb, .int .i64 lc] from Box.new _ _ _)
          clear L8 P8 X8 R8 z8 c80 c81 zx hxc zg p0 p1 p2
          generalize (wr.alloc (.cells #[.int .i64 la, .int .i64 lb, .int .i64 lc] 45)).drew = W9 at *
          generalize wr.heap.size = bl at *
          obtain ⟨-, zx, hxc⟩ := P9.out.at HX.out
          by_cases hqi : q = i
          · have hqi' : ((i : Int) != (q : Int)) = false := by simp [hqi]
            clear hqi HCR
            go_wp2_with fail
            go_roundw
            case rel => exact ⟨k + 1, hlt, by go_num, L9.out, P9.out, X9.out, R9.out⟩
            case measure => simp [intOf]; omega
          · have hqi' : ((i : Int) != (q : Int)) = true := by simp; omega
            have hmem := HCR.out hqi
            have CL := CLK A5 c5 la lb W9 X9.out.2.1.sl
            have CH := fun W (h : Own1i W A7 g7 zs) => hasInt_any A7 zs c7 (linkI n rs la lb) W (by omega) h.sli
            rw [decide_eq_true hmem] at CH
            generalize linkI n rs la lb = v at *
            obtain ⟨z9, c90, c91, -, -⟩ := X9.out.1.two
            have k90 := K9.out.cell 0
            have k91 := K9.out.cell 1
            have zk := K9.out.lt
            clear hqi HCR hmem CLK
            go_wp2_with fail
            refine CL.mono ?_
            clear CL
            rintro e w10 ⟨rfl, hb10⟩
            have L10 := Lib.hid (L9.out.call hb10)
            have P10 := Lib.hid (P9.out.below hb10)
            have X10 := Lib.hid (X9.out.call hb10)
            have R10 := Lib.hid (R9.out.below hb10)
            clear hb10 L9 P9 X9 R9 K9 z9 c90 c91 k90 k91 zk zx hxc
            go_wp2_with fail
            refine (CH _ R10.out).mono ?_
            clear CH
            rintro e w11 ⟨rfl, hb11⟩
            have L11 := Lib.hid (L10.out.call hb11)
            have P11 := Lib.hid (P10.out.below hb11)
            have X11 := Lib.hid (X10.out.call hb11)
            have R11 := Lib.hid (R10.out.below hb11)
            go_wp2_with fail
            go_roundw
            case rel => exact ⟨k + 1, hlt, by go_num, L11.out, P11.out, X11.out, R11.out⟩
            case measure => simp [intOf]; omega
        · have hge : xs.length ≤ k := by omega
          go_wp2_with fail
          go_ret
          exact ⟨rfl, L8.out.2.2⟩
  · by_cases hl1 : len ≤ 1048576
    · have hl2 : 1048576 < len' := by omega
      clear hl
      go_enter Try.func6, Try.ntmps6
      go_wp2
      go_ret
      exact ⟨rfl, by (repeat (first | exact Below.refl _ _ | (refine Below.alloc ?_ (by first | exact Nat.le_refl _ | omega | (simp; done) | (simp; omega)) _) | (refine Below.setCell ?_ (by first | exact Nat.le_refl _ | omega | (simp; done) | (simp; omega)) _) | exact Below.drew ‹_›))⟩
    · clear hl
      go_enter Try.func6, Try.ntmps6
      go_wp2
      go_ret
      exact ⟨rfl, by (repeat (first | exact Below.refl _ _ | (refine Below.alloc ?_ (by first | exact Nat.le_refl _ | omega | (simp; done) | (simp; omega)) _) | (refine Below.setCell ?_ (by first | exact Nat.le_refl _ | omega | (simp; done) | (simp; omega)) _) | exact Below.drew ‹_›))⟩
end Go.Proofs.Ytjponnfnofpdgaa
