/-
  The walk of FnCompileShortest over this seat.
-/
import Derived.Test.YtenlofomkchlaacD2
import Derived.Test.YtenlofomkchlaacLq
namespace Go.Proofs.Ytenlofomkchlaac
open Go.RowKit Go.Maps

set_option maxRecDepth 100000 in
set_option maxHeartbeats 1600000 in
theorem fnCompileShortest_walk (A : Option Addr) (len c : Nat) (f : Nat → Int) (w : World) (hlc : len ≤ c) (hc : c ≤ maxLen) (hB : Byt w w.heap.size A len f) :
   Calls Try.prog 10 #[.slice A len c] w fun e w' => e = .returned (.bool true) ∧ Below w.heap.size w w' := by
  have HB := Lib.hid hB
  clear hB
  by_cases hl : len ≤ 1048576
  · go_enter Try.func10, Try.ntmps10
    go_wp2_with fail
    refine (drawPath_any A len c f w hlc hc HB.out).mono ?_
    rintro e w1 ⟨n, ls, A1, g1, c1, x, y, rfl, ⟨hn0, hn1, hls, hg1, ho1, hb1⟩, hx0, hx1, hy0, hy1⟩
    have L1 := Lib.hid (show LB w w1.heap.size n ls A1 g1 c1 (w1.alloc (.cells #[.int .i64 n, .slice A1 ls.length c1] 32)) from ⟨Box.new w1 _ _, ho1.alloc _, hb1.alloc hb1.size _⟩)
    clear ho1 hb1 HB
    generalize hG : w1.heap.size = G at *
    go_wp2_with fail
    refine (path_implC n A1 ls c1 x y _ (by omega) L1.out.2.1.sl).mono ?_
    rintro e w2 ⟨A2, g2, c2, rfl, hg2, ho2, hb2, hc2⟩
    have L2 := Lib.hid (L1.out.call hb2)
    have P2 := Lib.hid ho2
    clear hb2 L1 hG ho2
    obtain ⟨z2, c20, c21, -, -⟩ := L2.out.1.two
    go_wp2_with fail
    refine (path_spec n A1 ls c1 x y w2 (by omega) (by omega) L2.out.2.1.sl).mono ?_
    rintro e w3 ⟨A3, g3, c3, rfl, hg3, ho3, hb3⟩
    have L3 := Lib.hid (L2.out.call hb3)
    have P3 := Lib.hid (P2.out.below hb3)
    have Q3 := Lib.hid ho3
    clear hb3 L2 z2 c20 c21 P2 ho3
    have hrs : (pathI n ls x y).length ≤ 8 := pathI_len n ls x y
    have HF := Lib.hid (short_one (n := n) (ls := ls) (x := x) (y := y))
    have hrt := cmpI_len n ls (pathI n ls x y)
    have CN := fun W (h1 : Sl W W.heap.size A1 ls) => count_impl n A1 ls c1 x y W (by omega) h1
    have CC := fun W (h1 : Sl W W.heap.size A1 ls) (h2 : Sli W W.heap.size A2 (pathI n ls x y)) => stackCompile_impl n A1 ls c1 A2 (pathI n ls x y) c2 W (by omega) (by omega) hc2 h1 h2
    unfold CmpR at CC
    generalize cmpI n ls (pathI n ls x y) = rt at *
    generalize pathI n ls x y = xs at *
    generalize countI n ls x y = k at *
    go_wp2_with fail
    refine (sameInts_same A2 A3 xs c2 c3 w3 (by omega) P3.out.sli Q3.out.sli).mono ?_
    rintro e w4 ⟨rfl, hb4⟩
    have L4 := Lib.hid (L3.out.call hb4)
    have P4 := Lib.hid (P3.out.below hb4)
    have Q4 := Lib.hid (Q3.out.below hb4)
    clear hb4 L3 P3 Q3 hg2 hg3
    obtain ⟨z4, c40, c41, -, -⟩ := L4.out.1.two
    by_cases hz : xs.length = 0
    · have hz' : ((xs.length : Int) == 0) = true := by simp [hz]
      clear hz
      go_wp2_with fail
      refine (sameInts_same A2 A3 xs c2 c3 w4 (by omega) P4.out.sli Q4.out.sli).mono ?_
      rintro e w5 ⟨rfl, hb5⟩
      have L5 := Lib.hid (L4.out.call hb5)
      clear hb5
      go_wp2_with fail
      go_ret
      exact ⟨rfl, L5.out.2.2⟩
    · have hz' : ((xs.length : Int) == 0) = false := by simpa using hz
      obtain ⟨hv, hl9, hor⟩ := HF.out (by intro e; rw [e] at hz; exact hz rfl)
      have HOR := Lib.hid hor
      rw [hv] at CC
      clear hz hv hor HF
      go_wp2_with fail
      refine (CC w4 L4.out.2.1.sl P4.out.sli).mono ?_
      clear CC
      rintro e w5 ⟨A5, g5, c5, rfl, hg5, ho5, hb5, hc5⟩
      have L5 := Lib.hid (L4.out.call hb5)
      clear hb5 ho5 hg5 L4 P4 Q4 z4 c40 c41
      obtain ⟨z5, c50, c51, -, -⟩ := L5.out.1.two
      go_wp2_with fail
      refine (CN w5 L5.out.2.1.sl).mono ?_
      clear CN
      rintro e w6 ⟨rfl, hb6⟩
      have L6 := Lib.hid (L5.out.call hb6)
      clear hb6 L5 z5 c50 c51
      rcases HOR.out with h1 | ⟨h1, hr⟩
      · go_wp2_with fail
        go_ret
        exact ⟨rfl, L6.out.2.2⟩
      · subst h1
        clear HOR
        have HRR := Lib.hid hr
        clear hr
        go_wp2_with fail
        all_goals
          go_ret
          exact ⟨ret_bool (by have := HRR.out; simp; omega), L6.out.2.2⟩
  · go_enter Try.func10, Try.ntmps10
    go_wp2
    go_ret
    exact ⟨rfl, by (repeat (first | exact Below.refl _ _ | (refine Below.alloc ?_ (by first | exact Nat.le_refl _ | omega | (simp; done) | (simp; omega)) _) | (refine Below.setCell ?_ (by first | exact Nat.le_refl _ | omega | (simp; done) | (simp; omega)) _) | exact Below.drew ‹_›))⟩

end Go.Proofs.Ytenlofomkchlaac
