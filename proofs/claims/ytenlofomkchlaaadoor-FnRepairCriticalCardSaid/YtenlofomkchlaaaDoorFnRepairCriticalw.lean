/-
  The walk of FnRepairCritical over this seat.
-/
import Derived.Test.YtenlofomkchlaaaDoorVp
import Derived.Test.YtenlofomkchlaaaDoorCq
import Derived.Test.YtenlofomkchlaaaDoorA8
namespace Go.Proofs.YtenlofomkchlaaaDoor
open Go.RowKit Go.Maps

set_option maxRecDepth 100000 in
set_option maxHeartbeats 1600000 in
theorem fnRepairCritical_walk (A : Option Addr) (len c : Nat) (Am : Option Addr) (len' c' : Nat) (f f' : Nat → Int) (w : World) (hlc : len ≤ c) (hc : c ≤ maxLen) (hB : Byt w w.heap.size A len f) (_hlc' : len' ≤ c') (_hc' : c' ≤ maxLen) (_hB' : Byt w w.heap.size Am len' f') (hsen : Sen w) :
   Calls Tryd.prog 3 #[.slice A len c, .slice Am len' c'] w fun e w' => e = .returned (.bool true) ∧ Below w.heap.size w w' := by
  have HB := Lib.hid hB
  clear hB _hB'
  have HSEN := Lib.hid hsen
  clear hsen
  by_cases hl : len ≤ 1048576 ∧ len' ≤ 1048576
  · obtain ⟨hl, hl'⟩ := hl
    go_enter Tryd.func3, Tryd.ntmps3
    go_wp2_with fail
    refine (drawCrit_any A len c f w hlc hc HB.out).mono ?_
    rintro e w1 ⟨n, ls, A1, g1, c1, rfl, ⟨hn0, hn1, hls, hg1, ho1, hb1⟩, hcap⟩
    have L1 := Lib.hid (show LB w w1.heap.size n ls A1 g1 c1 (w1.alloc (.cells #[.int .i64 n, .slice A1 ls.length c1] 25)) from ⟨Box.new w1 _ _, ho1.alloc _, hb1.alloc hb1.size _⟩)
    clear ho1 hb1 HB
    generalize hG : w1.heap.size = G at *
    go_wp2_with fail
    refine (crit_impl n A1 ls c1 _ (by omega) L1.out.2.1.isV L1.out.2.1.sl).mono ?_
    rintro e w2 ⟨A2, g2, c2, rfl, hg2, ho2, hb2⟩
    have L2 := Lib.hid (L1.out.call hb2)
    have P2 := Lib.hid ho2
    clear hb2 L1 hG ho2
    obtain ⟨z2, c20, c21, -, -⟩ := L2.out.1.two
    go_wp2_with fail
    refine (crit_spec n A1 ls c1 w2 (by omega) L2.out.2.1.isV hcap (by omega) L2.out.2.1.sl).mono ?_
    rintro e w3 ⟨A3, g3, c3, rfl, hg3, ho3, hb3⟩
    have L3 := Lib.hid (L2.out.call hb3)
    have P3 := Lib.hid (P2.out.below hb3)
    have Q3 := Lib.hid ho3
    clear hb3 L2 z2 c20 c21 P2 ho3
    obtain ⟨z3, c30, c31, -, -⟩ := L3.out.1.two
    have hrs : (critL n ls).length ≤ 14 := critL_len n ls
    have HF := Lib.hid (fun (m k : Nat) (l : Lk) (e1 : n = (m : Int)) (hg : gvB n ls = true) (hl : ls[k]? = some l) => (show repB n ls l.a (k : Int) l.b = !decide ((k : Int) ∈ critL n ls) by
      subst e1
      exact critical_law hg hl _ (by rw [decide_eq_true_eq]; exact critL_at hg hl)))
    have CR := fun (a b x : Int) W (h : Own1 W A1 g1 ls) (hs : Sen W) => repStack_impl n A1 ls c1 a x b W (by omega) h.isV h.sl hs
    generalize critL n ls = xs at *
    go_wp2_with fail
    refine (sameInts_same A2 A3 xs c2 c3 w3 (by omega) P3.out.sli Q3.out.sli).mono ?_
    rintro e w4 ⟨rfl, hb4⟩
    have L4 := Lib.hid (L3.out.call hb4)
    have P4 := Lib.hid (P3.out.below hb4)
    have Q4 := Lib.hid (Q3.out.below hb4)
    clear hb4 L3 P3 Q3 z3 c30 c31 hg2 hg3
    obtain ⟨z4, c40, c41, -, -⟩ := L4.out.1.two
    have CV := valid_spec_any n A1 ls c1 w4 (by omega) (by omega) L4.out.2.1.sl
    have CE := fun W (h1 : Sli W W.heap.size A2 xs) (h2 : Sli W W.heap.size A3 xs) => sameInts_same A2 A3 xs c2 c3 W (by omega) h1 h2
    go_wp2_with fail
    refine (CV).mono ?_
    rintro e w5 ⟨rfl, hb⟩
    have L5 := Lib.hid (L4.out.call hb)
    have P5 := Lib.hid (P4.out.below hb)
    have Q5 := Lib.hid (Q4.out.below hb)
    clear hb L4 P4 Q4 z4 c40 c41
    obtain ⟨z5, c50, c51, -, -⟩ := L5.out.1.two
    cases hg : gvB n ls with
    | false =>
      clear hg HF
      go_wp2_with fail
      refine (CE _ P5.out.sli Q5.out.sli).mono ?_
      rintro e w6 ⟨rfl, hb⟩
      have L6 := Lib.hid (L5.out.call hb)
      go_wp2_with fail
      go_ret
      exact ⟨rfl, L6.out.2.2⟩
    | true =>
      by_cases hlz : ls.length = 0
      · have hlz' : ((ls.length : Int) == 0) = true := by simp [hlz]
        clear hg HF hlz
        go_wp2_with fail
        refine (CE _ P5.out.sli Q5.out.sli).mono ?_
        rintro e w6 ⟨rfl, hb⟩
        have L6 := Lib.hid (L5.out.call hb)
        go_wp2_with fail
        go_ret
        exact ⟨rfl, L6.out.2.2⟩
      · have hlz' : ((ls.length : Int) == 0) = false := by simpa using hlz
        have hq : Int.tmod (len' : Int) (ls.length : Int) = ((len' % ls.length : Nat) : Int) := by rw [Int.tmod_eq_emod_of_nonneg (by omega)]; omega
        have hql : len' % ls.length < ls.length := Nat.mod_lt _ (by omega)
        generalize len' % ls.length = q at *
        obtain ⟨l, hl⟩ : ∃ l, ls[q]? = some l := ⟨_, List.getElem?_eq_getElem hql⟩
        have ho := HF.out n.toNat q l (by omega) hg hl
        have CR5 := CR l.a l.b (q : Int) w5.drew L5.out.drew.2.1 (HSEN.out.below L5.out.drew.2.2)
        have CI := fun W (h : Sli W W.heap.size A2 xs) => hasInt_any A2 xs c2 (q : Int) W (by omega) h
        unfold RepR at CR5
        rw [ho] at CR5
        obtain ⟨-, p0, p1, p2⟩ := L5.out.link hl
        obtain ⟨rfl, hA1⟩ := L5.out.2.1 (by omega)
        have zg1 := hA1.lt
        clear HF ho hg CR hl hA1
        generalize decide ((q : Int) ∈ xs) = p at *
        generalize (repA n ls l.a (q : Int) l.b).length = sl at *
        generalize repA n ls l.a (q : Int) l.b = st at *
        obtain ⟨la, lb, lc⟩ := l
        dsimp only at *
        have hX := fun (x : Ext w5.drew) (bb o : Nat) (h : bb < w5.heap.size) => (show x.w.cell? ⟨bb, o, none⟩ = w5.cell? ⟨bb, o, none⟩ from x.cell bb o h)
        go_upto_region 9 with fail
        refine wp_region_staged 20 (by kernel_rfl) (by kernel_rfl) ?_
        refine stage_seg _ 6 [0, 1, 2, 3, 4, 5, 6, 7, 8, 9, 10, 11, 12, 13] (by kernel_rfl) (by kernel_rfl) (by kernel_rfl) (by kernel_rfl) ?_
        (simp only [List.map_cons, List.map_nil, List.getElem?_cons_zero, List.getElem?_cons_succ, Option.getD_some]); (repeat (go_big_quiet_step (fail))); (refine wpQuiet_nil ?_)
        have LD := Lib.hid L5.out.drew
        have PD := Lib.hid (show Own1i w5.drew A2 g2 xs from P5.out)
        clear hX z5 c50 c51 L5 P5 Q5 p0 p1 p2 zg1
        refine stage_call _ 5 14 (by kernel_rfl) (by rfl) (by kernel_rfl) (by rfl) ?_
        go_wp2_with fail
        refine CR5.mono ?_
        clear CR5
        rintro e w6 ⟨A6, g6, c6, rfl, -, -, hb, -⟩
        refine ⟨hb, ?_⟩
        have L6 := Lib.hid (LD.out.call hb)
        have P6 := Lib.hid (PD.out.below hb)
        clear hb LD PD
        refine stage_seg _ 0 [15, 16, 17, 18, 19] (by kernel_rfl) (by kernel_rfl) (by kernel_rfl) (by kernel_rfl) ?_
        (simp only [List.map_cons, List.map_nil, List.getElem?_cons_zero, List.getElem?_cons_succ, Option.getD_some]); (repeat (go_big_quiet_step (fail))); (refine wpQuiet_nil ?_)
        refine stage_end (by kernel_rfl) ?_
        cases p
        all_goals
          go_wp2_with fail
          refine (CI _ P6.out.sli).mono ?_
          clear CI
          rintro e w7 ⟨rfl, hb⟩
          have L7 := Lib.hid (L6.out.call hb)
          go_wp2_with fail
          go_ret
          exact ⟨ret_bool (by first | rfl | simp), L7.out.2.2⟩
  · by_cases hl1 : len ≤ 1048576
    · have hl2 : 1048576 < len' := by omega
      clear hl
      go_enter Tryd.func3, Tryd.ntmps3
      go_wp2
      go_ret
      exact ⟨rfl, by (repeat (first | exact Below.refl _ _ | (refine Below.alloc ?_ (by first | exact Nat.le_refl _ | omega | (simp; done) | (simp; omega)) _) | (refine Below.setCell ?_ (by first | exact Nat.le_refl _ | omega | (simp; done) | (simp; omega)) _) | exact Below.drew ‹_›))⟩
    · clear hl
      go_enter Tryd.func3, Tryd.ntmps3
      go_wp2
      go_ret
      exact ⟨rfl, by (repeat (first | exact Below.refl _ _ | (refine Below.alloc ?_ (by first | exact Nat.le_refl _ | omega | (simp; done) | (simp; omega)) _) | (refine Below.setCell ?_ (by first | exact Nat.le_refl _ | omega | (simp; done) | (simp; omega)) _) | exact Below.drew ‹_›))⟩
end Go.Proofs.YtenlofomkchlaaaDoor
